import Derived.Test.YthhbpofcemoflabGd
import Derived.BigQuiet
namespace Go.Proofs.Ythhbpofcemoflab
open Go.RowKit
set_option maxRecDepth 20000
/-- what stays: all but a program's box and the block of its operations -/
structure Sh.Fr (w w' : World) (pb : Nat) (r : Option Nat) : Prop where
  os : w'.os = w.os
  tape : w'.tape = w.tape
  output : w'.output = w.output
  size : w.heap.size ≤ w'.heap.size
  block : ∀ k, k < w.heap.size → k ≠ pb → some k ≠ r → w'.heap[k]? = w.heap[k]?
/-- operations were laid behind others -/
def Sh.Ad (w w' : World) (pb : Nat) (v v' : Value) : Prop := Sh.Fr w w' pb v.ownBlock ∧ (v'.ownBlock = v.ownBlock ∨ ∃ g, v'.ownBlock = some g ∧ w.heap.size ≤ g)
theorem Sh.Fr.of {w w' : World} (h : Below w.heap.size w w') (pb : Nat) (r : Option Nat) : Sh.Fr w w' pb r := ⟨h.os, h.tape, h.output, h.size, fun k hk _ _ => h.block k hk⟩
theorem Sh.Ad.of {w w' : World} (h : Below w.heap.size w w') (pb : Nat) (v : Value) : Sh.Ad w w' pb v v := ⟨Sh.Fr.of h pb _, Or.inl rfl⟩
theorem Sh.Ad.refl (w : World) (pb : Nat) (v : Value) : Sh.Ad w w pb v v := Sh.Ad.of (Below.refl _ _) pb v
theorem Sh.Ad.trans {w w1 w2 : World} {pb : Nat} {v v1 v2 : Value} (h : Sh.Ad w w1 pb v v1) (h2 : Sh.Ad w1 w2 pb v1 v2) : Sh.Ad w w2 pb v v2 := by
  obtain ⟨f1, o1⟩ := h
  obtain ⟨f2, o2⟩ := h2
  refine ⟨⟨f2.os.trans f1.os, f2.tape.trans f1.tape, f2.output.trans f1.output, Nat.le_trans f1.size f2.size, fun k hk hp hr => ?_⟩, ?_⟩
  · refine (f2.block k (Nat.lt_of_lt_of_le hk f1.size) hp ?_).trans (f1.block k hk hp hr)
    intro e
    rcases o1 with o1 | ⟨g, o1, hg⟩
    · exact hr (e.trans o1)
    · rw [o1] at e
      injection e with e
      omega
  · rcases o2 with o2 | ⟨g, o2, hg⟩
    · rcases o1 with o1 | ⟨g, o1, hg⟩
      · exact Or.inl (o2.trans o1)
      · exact Or.inr ⟨g, o2.trans o1, hg⟩
    · exact Or.inr ⟨g, o2, Nat.le_trans f1.size hg⟩
theorem Sh.Ad.below {w w' : World} {pb n : Nat} {v v' : Value} (h : Sh.Ad w w' pb v v') (hn : n ≤ pb) (hg : ∀ g, v.ownBlock = some g → n ≤ g) (hw : n ≤ w.heap.size) : Below n w w' :=
  ⟨h.1.os, h.1.tape, h.1.output, h.1.size, fun k hk => h.1.block k (Nat.lt_of_lt_of_le hk hw) (by omega) (fun e => by have := hg k e.symm; omega)⟩
theorem Sh.Ad.pre {w w1 w2 : World} {pb : Nat} {v v2 : Value} (h : Below w.heap.size w w1) (h2 : Sh.Ad w1 w2 pb v v2) : Sh.Ad w w2 pb v v2 := (Sh.Ad.of h pb v).trans h2
theorem Sh.Ad.post {w w1 w2 : World} {pb : Nat} {v v1 : Value} (h : Sh.Ad w w1 pb v v1) (h2 : Below w1.heap.size w1 w2) : Sh.Ad w w2 pb v v1 := h.trans (Sh.Ad.of h2 pb v1)
/-- a list of another kind stays -/
theorem Sh.Ad.own {w w' : World} {pb : Nat} {v v' : Value} (h : Sh.Ad w w' pb v v') {tP tO tE : TypeId} {C : Array Value} (hbox : w.heap[pb]? = some (.cells C tP (0, 0))) {base n : Nat} {xs : List Value} (hown : w.ownsRow base tO 3 v n xs) (hPE : tP ≠ tE) (hOE : tO ≠ tE)
    {b2 sz n2 : Nat} {u : Value} {ys : List Value} (hu : w.ownsRow b2 tE sz u n2 ys) : w'.ownsRow b2 tE sz u n2 ys := by
  refine ⟨hu.1, ?_⟩
  rcases hu.2 with h1 | ⟨g, cap, cur, hv, hg, hh, hrest⟩
  · exact Or.inl h1
  · refine Or.inr ⟨g, cap, cur, hv, hg, ?_, hrest⟩
    rw [← hh]
    refine h.1.block g (blk_lt hh) ?_ ?_
    · intro e
      subst e
      rw [hbox] at hh
      injection hh with hh
      injection hh with _ hh _
      exact hPE hh
    · intro e
      rcases hown.2 with ⟨h1, _⟩ | ⟨g', cap', cur', hv', _, hh', _⟩
      · rw [h1] at e; cases e
      · rw [hv'] at e
        simp [Value.ownBlock] at e
        subst e
        rw [hh'] at hh
        injection hh with hh
        injection hh with _ hh _
        exact hOE hh
theorem Sh.own_ge {w : World} {base : Nat} {e : TypeId} {size : Nat} {v : Value} {n : Nat} {xs : List Value} (h : w.ownsRow base e size v n xs) : ∀ g, v.ownBlock = some g → base ≤ g := fun g hg => (h.lt g hg).1
/-- the worlds in which all that lay in w lies as it lay -/
structure BW (w : World) where
  out : World
  low : Below w.heap.size w out
theorem wp_region_low_lit {P : Program} {id : Nat} {Q : Exit → Act → World → Prop} {a : Act} {w : World} {l : List Oper} (hm : P.follows .mixedOrders = true) (hB : Region.lexB .any l.toArray = true)
    (h : wpQuiet P l.toArray (fun w' => ∃ s : BW w, w' = s.out) (fun a' => ∀ w', (∃ s : BW w, w' = s.out) → Q .normal a' w') l a) : (Code.region id l.toArray true).wp P Q a w :=
  wp_region_quiet (C := fun w' => ∃ s : BW w, w' = s.out) hm hB ⟨⟨w.drew, (Below.refl _ _).drew⟩, rfl⟩ (by simpa using h)
theorem keepc {w w1 : World} {cb : Nat} (hb : Below w.heap.size w w1) (hcb : cb < w.heap.size) (j : Nat) {v : Value} (h : w.cell? ⟨cb, j, none⟩ = some v) : w1.cell? ⟨cb, j, none⟩ = some v := (hb.cell (p := ⟨cb, j, none⟩) hcb).trans h
/-- a cell of a list is set -/
theorem own_setz {w : World} {base : Nat} {e : TypeId} {g n cap a sz : Nat} {vs : List Value} {u : Value} (h : w.ownsRow base e sz (.slice (some ⟨g, 0, none⟩) n cap) n vs) : (w.setCell ⟨g, a, none⟩ u).ownsRow base e sz (.slice (some ⟨g, 0, none⟩) n cap) n (vs.set a u) := by
  have hl := h.1
  rcases h.2 with ⟨hc, _⟩ | ⟨g', cap', cur, hv, hb, hgg, h1, h2, h3, h4⟩
  · cases hc
  · injection hv with hv1 hv2 hv3
    injection hv1 with hv1
    injection hv1 with hv1
    subst hv1
    subst hv3
    refine ⟨by rw [List.length_set]; exact hl, Or.inr ⟨g, cap, cur.setIfInBounds a u, rfl, hb, blk_set hgg, h1, h2, by rw [Array.size_setIfInBounds]; exact h3, ?_⟩⟩
    rw [Array.toList_setIfInBounds, ← h4, List.take_set]
theorem own_frozz {w : World} {base : Nat} {e : TypeId} {g n cap sz : Nat} {vs : List Value} (h : w.ownsRow base e sz (.slice (some ⟨g, 0, none⟩) n cap) n vs) (a : Nat) : w.frozen? ⟨g, a, none⟩ = false := by
  rcases h.2 with ⟨hc, _⟩ | ⟨g', cap', cur, hv, _, hgg, _⟩
  · cases hc
  · injection hv with hv1
    injection hv1 with hv1
    injection hv1 with hv1
    subst hv1
    exact blk_frozen hgg a
namespace Sh
/-- ways in memory -/
def wayC (ws : List (Bool × Int × Nat)) : List Value := ws.flatMap fun x => [.bool x.1, .int .i64 x.2.1, .int .u64 (x.2.2 : Int)]
theorem wayC_cons (x : Bool × Int × Nat) (ws : List (Bool × Int × Nat)) : wayC (x :: ws) = [.bool x.1, .int .i64 x.2.1, .int .u64 (x.2.2 : Int)] ++ wayC ws := by simp [wayC]
theorem wayC_snoc (ws : List (Bool × Int × Nat)) (x : Bool × Int × Nat) : wayC (ws ++ [x]) = wayC ws ++ [.bool x.1, .int .i64 x.2.1, .int .u64 (x.2.2 : Int)] := by simp [wayC]
theorem wayC_get {ws : List (Bool × Int × Nat)} {k : Nat} {x : Bool × Int × Nat} (h : ws[k]? = some x) : (wayC ws)[k * 3]? = some (.bool x.1) ∧ (wayC ws)[k * 3 + 1]? = some (.int .i64 x.2.1) ∧ (wayC ws)[k * 3 + 2]? = some (.int .u64 (x.2.2 : Int)) := by
  induction ws generalizing k with
  | nil => simp at h
  | cons a ws ih =>
    rw [wayC_cons]
    cases k with
    | zero =>
      simp at h
      subst h
      simp
    | succ k =>
      simp at h
      have := ih h
      rw [show (k + 1) * 3 = 3 + k * 3 by omega, show 3 + k * 3 + 1 = 3 + (k * 3 + 1) by omega, show 3 + k * 3 + 2 = 3 + (k * 3 + 2) by omega]
      refine ⟨?_, ?_, ?_⟩
      · rw [List.getElem?_append_right (by simp)]; simpa using this.1
      · rw [List.getElem?_append_right (by simp)]; simpa using this.2.1
      · rw [List.getElem?_append_right (by simp)]; simpa using this.2.2
theorem wayC_set {ws : List (Bool × Int × Nat)} {k : Nat} (hk : k < ws.length) (x : Bool × Int × Nat) : wayC (ws.set k x) = (((wayC ws).set (k * 3) (.bool x.1)).set (k * 3 + 1) (.int .i64 x.2.1)).set (k * 3 + 2) (.int .u64 (x.2.2 : Int)) := by
  induction ws generalizing k with
  | nil => simp at hk
  | cons a ws ih =>
    cases k with
    | zero => simp [wayC_cons]
    | succ k =>
      rw [List.set_cons_succ, wayC_cons, wayC_cons, ih (by simpa using hk)]
      rw [show (k + 1) * 3 = k * 3 + 1 + 1 + 1 by omega, show k * 3 + 1 + 1 + 1 + 1 = k * 3 + 1 + 1 + 1 + 1 from rfl, show k * 3 + 1 + 1 + 1 + 2 = k * 3 + 2 + 1 + 1 + 1 by omega]
      simp
theorem wayC_made {ws : List (Bool × Int × Nat)} {k : Nat} {x : Bool × Int × Nat} (h : ws[k]? = some x) : wayC (ws.set k (true, x.2)) = (wayC ws).set (k * 3) (.bool true) := by
  have hk := (List.getElem?_eq_some_iff.1 h).1
  obtain ⟨h0, h1, h2⟩ := wayC_get h
  rw [wayC_set hk]
  simp only
  have e1 : ((wayC ws).set (k * 3) (.bool true))[k * 3 + 1]? = some (.int .i64 x.2.1) := by rw [List.getElem?_set_ne (by omega)]; exact h1
  have e2 : ((wayC ws).set (k * 3) (.bool true))[k * 3 + 2]? = some (.int .u64 (x.2.2 : Int)) := by rw [List.getElem?_set_ne (by omega)]; exact h2
  have s1 : ((wayC ws).set (k * 3) (.bool true)).set (k * 3 + 1) (.int .i64 x.2.1) = (wayC ws).set (k * 3) (.bool true) := by
    obtain ⟨l1, l2⟩ := List.getElem?_eq_some_iff.1 e1
    rw [← l2]
    exact List.set_getElem_self l1
  rw [s1]
  obtain ⟨l1, l2⟩ := List.getElem?_eq_some_iff.1 e2
  rw [← l2]
  exact List.set_getElem_self l1
end Sh
end Go.Proofs.Ythhbpofcemoflab
namespace Go.Proofs.Ythhbpofcemoflab
open Go.RowKit
set_option maxRecDepth 20000
/-- a list stays where a cell of a block of another kind is set -/
theorem own_set_other {w : World} {base : Nat} {e t : TypeId} {size : Nat} {v : Value} {n : Nat} {xs : List Value} {b : Nat} {c : Array Value} {f : Nat × Nat} (h : w.ownsRow base e size v n xs) (hb : w.heap[b]? = some (.cells c t f)) (ht : t ≠ e) (j : Nat) (u : Value) : (w.setCell ⟨b, j, none⟩ u).ownsRow base e size v n xs := by
  refine ⟨h.1, ?_⟩
  rcases h.2 with h1 | ⟨g, cap, cur, hv, hg, hh, hrest⟩
  · exact Or.inl h1
  · refine Or.inr ⟨g, cap, cur, hv, hg, ?_, hrest⟩
    rw [Below.heap_setCell _ _ _ _ (by
      intro e2
      simp at e2
      subst e2
      rw [hb] at hh
      injection hh with hh
      injection hh with _ hh _
      exact ht hh)]
    exact hh
theorem own_blk {w : World} {base : Nat} {e : TypeId} {size g n cap : Nat} {xs : List Value} (h : w.ownsRow base e size (.slice (some ⟨g, 0, none⟩) n cap) n xs) : ∃ c, w.heap[g]? = some (.cells c e (0, 0)) ∧ base ≤ g := by
  rcases h.2 with ⟨hc, _⟩ | ⟨g', cap', cur, hv, hb, hgg, _⟩
  · cases hc
  · injection hv with hv1
    injection hv1 with hv1
    injection hv1 with hv1
    subst hv1
    exact ⟨cur, hgg, hb⟩
theorem own_emptyz {W : World} {n base size : Nat} {e : TypeId} (hs : W.heap.size = n) (hb : base ≤ n) : (W.alloc (.cells #[] e)).ownsRow base e size (.slice (some ⟨n, 0, none⟩) 0 0) 0 [] := by
  subst hs
  exact ⟨by simp, Or.inr ⟨W.heap.size, 0, #[], rfl, hb, heap_alloc_new W _, Nat.le_refl _, Nat.zero_le _, by simp, by simp⟩⟩
namespace Sh
/-- all in 64 bits -/
structure UW (ws : List (Bool × Int × Nat)) : Prop where
  lt : ∀ x ∈ ws, x.2.2 < 2 ^ 64
structure US (S : List Nat) : Prop where
  lt : ∀ s ∈ S, s < 2 ^ 64
theorem US.get {S : List Nat} (h : US S) (i : Nat) : S.getD i 0 < 2 ^ 64 := getD_lt (Nat.pow_pos (by decide)) h.lt i
theorem UW.set {ws : List (Bool × Int × Nat)} (h : UW ws) (k : Nat) (x : Bool × Int × Nat) (hx : x.2.2 < 2 ^ 64) : UW (ws.set k x) := by
  refine ⟨fun y hy => ?_⟩
  rcases List.mem_or_eq_of_mem_set hy with hy | rfl
  · exact h.lt y hy
  · exact hx
theorem UW.get {ws : List (Bool × Int × Nat)} (h : UW ws) (k : Nat) : (ws.getD k w0).2.2 < 2 ^ 64 := by
  rw [List.getD_eq_getElem?_getD]
  cases e : ws[k]? with
  | none => exact (by decide : (0 : Nat) < 2 ^ 64)
  | some x => exact h.lt x (List.mem_of_getElem? e)
theorem UW.up {G : Nat} {S : List Nat} {j : Nat} {ws : List (Bool × Int × Nat)} (h : UW ws) (hS : US S) (k : Nat) : UW (upW G S j ws k) := by
  induction k with
  | zero => exact h
  | succ k ih =>
    simp only [upW]
    split
    · exact ih.set k _ (Nat.xor_lt_two_pow (hS.get k) (hS.get j))
    · exact ih
theorem UW.start {S : List Nat} (hS : US S) : UW (S.map fun s => (false, -1, s)) := by
  refine ⟨fun x hx => ?_⟩
  obtain ⟨s, hs, rfl⟩ := List.mem_map.1 hx
  exact hS.lt s hs
theorem UW.dif {G : Nat} {S : List Nat} {st : List (Bool × Int × Nat) × List (Int × Int × Int)} (h : UW st.1) (hS : US S) : UW (difS G S st).1 := by
  unfold difS
  split
  · exact h
  · exact (h.set _ (true, (st.1.getD (cheap st.1 st.1.length).toNat w0).2) (h.get (cheap st.1 st.1.length).toNat)).up hS _
theorem UW.difN {G : Nat} {S : List Nat} (hS : US S) (n : Nat) : UW (difN G S n).1 := by
  induction n with
  | zero => exact UW.start hS
  | succ n ih => exact ih.dif hS
theorem upW_t {G : Nat} {S : List Nat} {j : Nat} {ws : List (Bool × Int × Nat)} {k : Nat} (h1 : ((upW G S j ws k).getD k w0).1 = false) (h2 : pc (S.getD k 0 ^^^ S.getD j 0) < wx ((upW G S j ws k).getD k w0).2.1 ((upW G S j ws k).getD k w0).2.2) : upW G S j ws (k + 1) = (upW G S j ws k).set k (false, ((G + j : Nat) : Int), S.getD k 0 ^^^ S.getD j 0) := if_pos ⟨h1, h2⟩
theorem upW_f {G : Nat} {S : List Nat} {j : Nat} {ws : List (Bool × Int × Nat)} {k : Nat} (h1 : ¬ (((upW G S j ws k).getD k w0).1 = false ∧ pc (S.getD k 0 ^^^ S.getD j 0) < wx ((upW G S j ws k).getD k w0).2.1 ((upW G S j ws k).getD k w0).2.2)) : upW G S j ws (k + 1) = upW G S j ws k := if_neg h1
theorem difS_at {G : Nat} {S : List Nat} {st : List (Bool × Int × Nat) × List (Int × Int × Int)} {j : Nat} (h : cheap st.1 st.1.length = j) : difS G S st = (upW G S j (st.1.set j (true, (st.1.getD j w0).2)) st.1.length, st.2 ++ folO G S.length ((G + j : Nat) : Int) (st.1.getD j w0).2.1 (st.1.getD j w0).2.2) := by
  unfold difS
  rw [h, if_neg (by omega), Int.toNat_natCast]
theorem DI.short {G : Nat} {S : List Nat} {n : Nat} {st : List (Bool × Int × Nat) × List (Int × Int × Int)} (h : DI G S n st) : st.2.length ≤ 48 * S.length := by
  have hle : ∀ (f : Nat → Nat) m, (∀ i, f i ≤ 1) → sumR f m ≤ m := by
    intro f m hf
    induction m with
    | zero => exact Nat.le_refl _
    | succ m ih => simp only [sumR]; have := hf m; omega
  have h1 := h.lens
  have h2 := hle (fun i => if (st.1.getD i w0).1 = true then 1 else 0) S.length (fun i => by split <;> omega)
  omega
end Sh
end Go.Proofs.Ythhbpofcemoflab
