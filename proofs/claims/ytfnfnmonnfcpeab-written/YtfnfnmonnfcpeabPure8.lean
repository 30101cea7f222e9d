import Derived.Test.YtfnfnmonnfcpeabPure7
namespace Go.Proofs.Ytfnfnmonnfcpeab
open Go.RowKit
set_option maxRecDepth 20000
namespace Sh
/-- the values of shards: block, offset, capacity; length n -/
def sv (n : Nat) (ps : List (Nat × Nat × Nat)) : List Value := ps.map fun p => Value.slice (some ⟨p.1, p.2.1, none⟩) n p.2.2
theorem sv_len (n : Nat) (ps : List (Nat × Nat × Nat)) : (sv n ps).length = ps.length := by simp [sv]
theorem sv_append (n : Nat) (a b : List (Nat × Nat × Nat)) : sv n (a ++ b) = sv n a ++ sv n b := by simp [sv]
theorem sv_one (n : Nat) (ps : List (Nat × Nat × Nat)) : ∀ u ∈ sv n ps, u.oneCell' = true := by
  intro u hu
  simp only [sv, List.mem_map] at hu
  obtain ⟨x, _, rfl⟩ := hu
  rfl
theorem sv_get {n : Nat} {ps : List (Nat × Nat × Nat)} {j : Nat} {p : Nat × Nat × Nat} (h : ps[j]? = some p) : (sv n ps)[j]? = some (Value.slice (some ⟨p.1, p.2.1, none⟩) n p.2.2) := by
  simp [sv, h]
def cutOne (size r : Nat) (p : Nat × Nat × Nat) : List (Nat × Nat × Nat) := (List.range r).map fun q => (p.1, p.2.1 + q * size, p.2.2 - q * size)
theorem cutOne_succ (size r : Nat) (p : Nat × Nat × Nat) : cutOne size (r + 1) p = cutOne size r p ++ [(p.1, p.2.1 + r * size, p.2.2 - r * size)] := by simp [cutOne, List.range_succ]
theorem cutOne_len (size r : Nat) (p : Nat × Nat × Nat) : (cutOne size r p).length = r := by simp [cutOne]
def cutAll (size R : Nat) (ps : List (Nat × Nat × Nat)) : List (Nat × Nat × Nat) := ps.flatMap (cutOne size R)
theorem cutAll_snoc (size R : Nat) (ps : List (Nat × Nat × Nat)) (p : Nat × Nat × Nat) : cutAll size R (ps ++ [p]) = cutAll size R ps ++ cutOne size R p := by simp [cutAll]
theorem cutAll_len (size R : Nat) (ps : List (Nat × Nat × Nat)) : (cutAll size R ps).length = ps.length * R := by
  induction ps with
  | nil => simp [cutAll]
  | cons p ps ih => simp only [cutAll, List.flatMap_cons, List.length_append, cutOne_len, List.length_cons] at *; rw [ih, Nat.add_mul]; omega
def shB (X : List (List Int)) (R k r : Nat) : List Int := (List.range r).flatMap fun q => X.getD (k * R + q) []
theorem shB_succ (X : List (List Int)) (R k r : Nat) : shB X R k (r + 1) = shB X R k r ++ X.getD (k * R + r) [] := by simp [shB, List.range_succ]
theorem shB_len {X : List (List Int)} {R k r size m : Nat} (hX : ∀ (j : Nat) (x : List Int), X[j]? = some x → x.length = size) (hl : X.length = m * R) (hk : k < m) (hr : r ≤ R) : (shB X R k r).length = r * size := by
  induction r with
  | zero => simp [shB]
  | succ r ih =>
    rw [shB_succ, List.length_append, ih (by omega)]
    have hlt : k * R + r < X.length := by
      have : (k + 1) * R ≤ m * R := Nat.mul_le_mul_right _ hk
      rw [Nat.add_mul, Nat.one_mul] at this
      omega
    rw [List.getD_eq_getElem?_getD, List.getElem?_eq_getElem hlt, Option.getD_some, hX _ _ (List.getElem?_eq_getElem hlt), Nat.add_mul, Nat.one_mul]
/-- shards of one's own: the list, and each of its shards -/
structure Own (w : World) (base : Nat) (tS tB : TypeId) (v : Value) (n : Nat) (ps : List (Nat × Nat × Nat)) (X : List (List Int)) : Prop where
  row : w.ownsRow base tS 1 v ps.length (sv n ps)
  lens : X.length = ps.length
  each : ∀ (j : Nat) (p : Nat × Nat × Nat) (x : List Int), ps[j]? = some p → X[j]? = some x → p.2.1 = 0 ∧ w.ownsRow base tB 1 (.slice (some ⟨p.1, 0, none⟩) n p.2.2) n (x.map (Value.int .u8))
  nodup : (ps.map (·.1)).Nodup
end Sh
theorem Sh.Own.below {w w' : World} {base : Nat} {tS tB : TypeId} {v : Value} {n : Nat} {ps : List (Nat × Nat × Nat)} {X : List (List Int)} (h : Sh.Own w base tS tB v n ps X) (hb : Below w.heap.size w w') : Sh.Own w' base tS tB v n ps X :=
  ⟨own_below h.row hb, h.lens, fun j p x hp hx => ⟨(h.each j p x hp hx).1, own_below (h.each j p x hp hx).2 hb⟩, h.nodup⟩
/-- behind 'shards = append(shards, shard)' -/
theorem Sh.Own.push {w w' : World} {base : Nat} {tS tB : TypeId} {v v' : Value} {n g c : Nat} {ps : List (Nat × Nat × Nat)} {X : List (List Int)} {x : List Int} (h : Sh.Own w base tS tB v n ps X) (ht : tB ≠ tS) (B0 : Nat)
    (hx : w.ownsRow base tB 1 (.slice (some ⟨g, 0, none⟩) n c) n (x.map (Value.int .u8))) (hB : ∀ p ∈ ps, p.1 < B0) (hg : B0 ≤ g)
    (hrow : w'.ownsRow base tS 1 v' (ps.length + 1) (Sh.sv n ps ++ [.slice (some ⟨g, 0, none⟩) n c])) (hgr : w.grownBy w' v.ownBlock) :
    Sh.Own w' base tS tB v' n (ps ++ [(g, 0, c)]) (X ++ [x]) := by
  refine ⟨?_, by simp [h.lens], ?_, ?_⟩
  · rw [Sh.sv_append, List.length_append]; exact hrow
  · intro j p y hp hy
    rw [List.getElem?_append] at hp hy
    rw [h.lens] at hy
    by_cases c1 : j < ps.length
    · rw [if_pos c1] at hp hy
      obtain ⟨h1, h2⟩ := h.each j p y hp hy
      exact ⟨h1, h2.kept hgr (own_ne h2 h.row ht)⟩
    · rw [if_neg c1] at hp hy
      have hj : j - ps.length = 0 := by
        have := (List.getElem?_eq_some_iff.1 hp).1
        simp at this
        omega
      rw [hj] at hp hy
      simp at hp hy
      subst hp
      subst hy
      exact ⟨rfl, hx.kept hgr (own_ne hx h.row ht)⟩
  · rw [List.map_append, List.nodup_append]
    refine ⟨h.nodup, by simp, ?_⟩
    intro a ha b hb
    simp at hb
    subst hb
    simp only [List.mem_map] at ha
    obtain ⟨p, hp, rfl⟩ := ha
    have := hB p hp
    omega
end Go.Proofs.Ytfnfnmonnfcpeab
