import Derived.Test.YtfnfnmonnfcpeabPure9
namespace Go.Proofs.Ytfnfnmonnfcpeab
open Go.RowKit
set_option maxRecDepth 20000
namespace Sh
theorem zipflat {α β γ δ : Type} (f : α → List γ) (g : β → List δ) (P : γ → δ → Prop) (ps : List α) (X : List β) (hl : ps.length = X.length)
    (h : ∀ (j : Nat) (p : α) (x : β), ps[j]? = some p → X[j]? = some x → (f p).length = (g x).length ∧ ∀ (r : Nat) (a : γ) (b : δ), (f p)[r]? = some a → (g x)[r]? = some b → P a b) :
    ∀ (r : Nat) (a : γ) (b : δ), (ps.flatMap f)[r]? = some a → (X.flatMap g)[r]? = some b → P a b := by
  induction ps generalizing X with
  | nil => intro r a b ha; simp at ha
  | cons p ps ih =>
    cases X with
    | nil => simp at hl
    | cons x X =>
      intro r a b ha hb
      obtain ⟨h1, h2⟩ := h 0 p x rfl rfl
      rw [List.flatMap_cons, List.getElem?_append] at ha hb
      by_cases c : r < (f p).length
      · rw [if_pos c] at ha
        rw [if_pos (by omega)] at hb
        exact h2 r a b ha hb
      · rw [if_neg c] at ha
        rw [if_neg (by omega), ← h1] at hb
        refine ih X (by simpa using hl) (fun j p' x' hp hx => h (j + 1) p' x' (by simpa using hp) (by simpa using hx)) _ a b ha hb
/-- the rows of the data -/
def rowsD (R size : Nat) (X : List (List Int)) : List (List Int) := X.flatMap fun x => (List.range R).map fun q => (x.drop (q * size)).take size
theorem rowsD_len (R size : Nat) (X : List (List Int)) : (rowsD R size X).length = X.length * R := by
  induction X with
  | nil => simp [rowsD]
  | cons x X ih => simp only [rowsD, List.flatMap_cons, List.length_append, List.length_map, List.length_range, List.length_cons] at *; rw [ih, Nat.add_mul]; omega
theorem rowsD_each {R size : Nat} {X : List (List Int)} (hX : ∀ (j : Nat) (x : List Int), X[j]? = some x → x.length = R * size) : ∀ (r : Nat) (y : List Int), (rowsD R size X)[r]? = some y → y.length = size := by
  intro r y hy
  have hm := List.mem_of_getElem? hy
  simp only [rowsD, List.mem_flatMap, List.mem_map, List.mem_range] at hm
  obtain ⟨x, hx, q, hq, rfl⟩ := hm
  obtain ⟨j, hj⟩ := List.getElem?_of_mem hx
  have hl := hX j x hj
  have : (q + 1) * size ≤ R * size := Nat.mul_le_mul_right _ hq
  rw [Nat.add_mul, Nat.one_mul] at this
  simp only [List.length_take, List.length_drop]
  omega
/-- shards that are read -/
structure Dat (w : World) (base : Nat) (tS : TypeId) (v : Value) (n : Nat) (ps : List (Nat × Nat × Nat)) (X : List (List Int)) : Prop where
  row : w.ownsRow base tS 1 v ps.length (sv n ps)
  lens : X.length = ps.length
  caps : ∀ p ∈ ps, n ≤ p.2.2 ∧ p.2.2 ≤ maxLen
  lt : ∀ p ∈ ps, p.1 < w.heap.size
  each : ∀ (j : Nat) (p : Nat × Nat × Nat) (x : List Int), ps[j]? = some p → X[j]? = some x → x.length = n ∧ ∀ (i : Nat) (b : Int), x[i]? = some b → w.cell? ⟨p.1, p.2.1 + i, none⟩ = some (.int .u8 b)
theorem Dat.grown {w w' : World} {base cb : Nat} {tS tC : TypeId} {v : Value} {n : Nat} {ps : List (Nat × Nat × Nat)} {X : List (List Int)} {C : Array Value} (h : Dat w base tS v n ps X) (hg : w.grownBy w' (some cb)) (hC : w.heap[cb]? = some (.cells C tC (0, 0))) (ht : tS ≠ tC) (hne : ∀ p ∈ ps, p.1 ≠ cb) : Dat w' base tS v n ps X := by
  refine ⟨h.row.kept hg ?_, h.lens, h.caps, fun p hp => Nat.lt_of_lt_of_le (h.lt p hp) hg.size, fun j p x hp hx => ⟨(h.each j p x hp hx).1, fun i b hb => ?_⟩⟩
  · rcases h.row.2 with ⟨rfl, _⟩ | ⟨g, cap, cur, rfl, _, hgg, _⟩
    · exact Or.inl rfl
    · right
      intro e
      simp [Value.ownBlock] at e
      subst e
      rw [hC] at hgg
      injection hgg with hgg
      injection hgg with _ hgg _
      exact ht hgg.symm
  · have hm := List.mem_of_getElem? hp
    exact (grown_cell hg (h.lt p hm) (hne p hm)).trans ((h.each j p x hp hx).2 i b hb)
theorem Dat.below {w w' : World} {base : Nat} {tS : TypeId} {v : Value} {n : Nat} {ps : List (Nat × Nat × Nat)} {X : List (List Int)} (h : Dat w base tS v n ps X) (hb : Below w.heap.size w w') : Dat w' base tS v n ps X :=
  ⟨own_below h.row hb, h.lens, h.caps, fun p hp => Nat.lt_of_lt_of_le (h.lt p hp) hb.size, fun j p x hp hx => ⟨(h.each j p x hp hx).1, fun i b hi => (hb.cell (p := ⟨p.1, p.2.1 + i, none⟩) (h.lt p (List.mem_of_getElem? hp))).trans ((h.each j p x hp hx).2 i b hi)⟩⟩
theorem Dat.rows {w : World} {base : Nat} {tS : TypeId} {v : Value} {R size : Nat} {ps : List (Nat × Nat × Nat)} {X : List (List Int)} (h : Dat w base tS v (R * size) ps X) :
    ∀ (r : Nat) (p : Nat × Nat × Nat) (x : List Int), (cutAll size R ps)[r]? = some p → (rowsD R size X)[r]? = some x → ∀ (i : Nat) (b : Int), x[i]? = some b → w.cell? ⟨p.1, p.2.1 + i, none⟩ = some (.int .u8 b) := by
  refine zipflat (cutOne size R) (fun x => (List.range R).map fun q => (x.drop (q * size)).take size) _ ps X h.lens.symm ?_
  intro j p x hp hx
  refine ⟨by simp [cutOne], ?_⟩
  intro r a b ha hb
  have hr : r < R := by
    have := (List.getElem?_eq_some_iff.1 ha).1
    simpa [cutOne] using this
  simp only [cutOne, List.getElem?_map, List.getElem?_range hr, Option.map_some, Option.some.injEq] at ha hb
  subst ha
  subst hb
  intro i c hc
  rw [List.getElem?_take] at hc
  split at hc
  · rw [List.getElem?_drop] at hc
    have := (h.each j p x hp hx).2 _ _ hc
    simpa [Nat.add_assoc] using this
  · cases hc
theorem Own.mono {w : World} {base base' : Nat} {tS tB : TypeId} {v : Value} {n : Nat} {ps : List (Nat × Nat × Nat)} {X : List (List Int)} (h : Own w base tS tB v n ps X) (hb : base' ≤ base) : Own w base' tS tB v n ps X :=
  ⟨own_mono h.row hb, h.lens, fun j p x hp hx => ⟨(h.each j p x hp hx).1, own_mono (h.each j p x hp hx).2 hb⟩, h.nodup⟩
theorem cut_lt {w : World} {base : Nat} {tS : TypeId} {v : Value} {n R size : Nat} {ps : List (Nat × Nat × Nat)} {X : List (List Int)} (h : Dat w base tS v n ps X) : ∀ p ∈ cutAll size R ps, p.1 < w.heap.size := by
  intro p hp
  simp only [cutAll, List.mem_flatMap, cutOne, List.mem_map] at hp
  obtain ⟨q, hq, r, _, rfl⟩ := hp
  exact h.lt q hq
end Sh
end Go.Proofs.Ytfnfnmonnfcpeab
