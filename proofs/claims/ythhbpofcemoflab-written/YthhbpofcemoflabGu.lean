import Derived.Test.YthhbpofcemoflabGb
import Derived.Test.YthhbpofcemoflabGt
import Derived.Test.YthhbpofcemoflabGp
namespace Go.Proofs.Ythhbpofcemoflab
open Go.RowKit
set_option maxRecDepth 20000
namespace Sh
theorem shB_cut {X : List (List Int)} {R k m size : Nat} (hX : ∀ (j : Nat) (x : List Int), X[j]? = some x → x.length = size) (hl : m * R ≤ X.length) (hk : k < m) (r : Nat) (hr : r ≤ R) :
    (shB X R k r).length = r * size ∧ ∀ q, q < r → ((shB X R k r).drop (q * size)).take size = X.getD (k * R + q) [] := by
  induction r with
  | zero => exact ⟨by simp [shB], fun q hq => by omega⟩
  | succ r ih =>
    obtain ⟨h1, h2⟩ := ih (by omega)
    have hkr : k * R + r < X.length := by
      have : (k + 1) * R ≤ m * R := Nat.mul_le_mul_right _ hk
      rw [Nat.add_mul, Nat.one_mul] at this
      omega
    have hg : X.getD (k * R + r) [] = X[k * R + r] := by rw [List.getD_eq_getElem?_getD, List.getElem?_eq_getElem hkr]; rfl
    have hgl : (X.getD (k * R + r) []).length = size := by rw [hg]; exact hX _ _ (List.getElem?_eq_getElem hkr)
    rw [shB_succ]
    refine ⟨by rw [List.length_append, h1, hgl, Nat.add_mul, Nat.one_mul], ?_⟩
    intro q hq
    by_cases e : q = r
    · subst e
      rw [List.drop_append, List.drop_of_length_le (by omega), List.nil_append, h1, Nat.sub_self, List.drop_zero, List.take_of_length_le (by omega)]
    · have hqs : (q + 1) * size ≤ r * size := Nat.mul_le_mul_right _ (by omega)
      rw [Nat.add_mul, Nat.one_mul] at hqs
      rw [List.drop_append_of_le_length (by omega), List.take_append_of_le_length (by rw [List.length_drop]; omega)]
      exact h2 q (by omega)
theorem rowsD_snoc (R size : Nat) (X : List (List Int)) (x : List Int) : rowsD R size (X ++ [x]) = rowsD R size X ++ (List.range R).map fun q => (x.drop (q * size)).take size := by simp [rowsD]
/-- rows laid together and cut again are the rows -/
theorem rows_sh {regs : List (List Int)} {R M size : Nat} (hl : regs.length = M * R) (hX : ∀ (j : Nat) (x : List Int), regs[j]? = some x → x.length = size) : rowsD R size ((List.range M).map fun k => shB regs R k R) = regs := by
  have key : ∀ m, m ≤ M → rowsD R size ((List.range m).map fun k => shB regs R k R) = regs.take (m * R) := by
    intro m
    induction m with
    | zero => intro _; simp [rowsD]
    | succ m ih =>
      intro hm
      rw [List.range_succ, List.map_append, List.map_cons, List.map_nil, rowsD_snoc, ih (by omega), Nat.add_mul, Nat.one_mul, List.take_add]
      congr 1
      have hmR : (m + 1) * R ≤ M * R := Nat.mul_le_mul_right _ hm
      rw [Nat.add_mul, Nat.one_mul] at hmR
      apply List.ext_getElem
      · rw [List.length_map, List.length_range, List.length_take, List.length_drop]; omega
      · intro i h1 h2
        rw [List.getElem_map, List.getElem_range, List.getElem_take, List.getElem_drop]
        rw [List.length_map, List.length_range] at h1
        rw [(shB_cut hX (by omega) (show m < M by omega) R (Nat.le_refl _)).2 i h1, List.getD_eq_getElem?_getD, List.getElem?_eq_getElem (by omega)]
        rfl
  rw [key M (Nat.le_refl _), List.take_of_length_le (by omega)]
end Sh
end Go.Proofs.Ythhbpofcemoflab
namespace Go.Proofs.Ythhbpofcemoflab
open Go.RowKit
set_option maxRecDepth 20000
theorem own_kept_ge {w w' : World} {base cb : Nat} {e : TypeId} {size : Nat} {v : Value} {n : Nat} {xs : List Value} (h : w.ownsRow base e size v n xs) (hg : w.grownBy w' (some cb)) (hcb : cb < base) : w'.ownsRow base e size v n xs := by
  refine h.kept hg ?_
  rcases h.2 with ⟨rfl, _⟩ | ⟨g, cap, cur, rfl, hb, _⟩
  · exact Or.inl rfl
  · right
    intro e
    simp [Value.ownBlock] at e
    omega
namespace Sh
theorem sorted_eq : ∀ (a b : List Nat), a.Pairwise (· < ·) → b.Pairwise (· < ·) → (∀ x, x ∈ a ↔ x ∈ b) → a = b
  | [], [], _, _, _ => rfl
  | [], y :: b, _, _, h => absurd ((h y).2 (by simp)) (by simp)
  | x :: a, [], _, _, h => absurd ((h x).1 (by simp)) (by simp)
  | x :: a, y :: b, ha, hb, h => by
    rw [List.pairwise_cons] at ha hb
    have hxy : x = y := by
      have h1 := (h x).1 (by simp)
      have h2 := (h y).2 (by simp)
      rw [List.mem_cons] at h1 h2
      rcases h1 with h1 | h1
      · exact h1
      · rcases h2 with h2 | h2
        · exact h2.symm
        · have := hb.1 x h1
          have := ha.1 y h2
          omega
    subst hxy
    rw [sorted_eq a b ha.2 hb.2 ?_]
    intro z
    constructor
    · intro hz
      have := (h z).1 (by simp [hz])
      rw [List.mem_cons] at this
      rcases this with e | e
      · have := ha.1 z hz; omega
      · exact e
    · intro hz
      have := (h z).2 (by simp [hz])
      rw [List.mem_cons] at this
      rcases this with e | e
      · have := hb.1 z hz; omega
      · exact e
theorem lo_sorted (q s : Nat) : (lo q s).Pairwise (· < ·) := by
  induction s with
  | zero => exact List.Pairwise.nil
  | succ s ih =>
    simp only [lo]
    split
    · rw [List.pairwise_append]
      refine ⟨ih, List.pairwise_singleton _ _, ?_⟩
      intro a ha b hb
      rw [List.mem_singleton] at hb
      subst hb
      exact (lo_lt a ha).1
    · exact ih
theorem eq_lo {q n : Nat} {l : List Nat} (hp : l.Pairwise (· < ·)) (hl : ∀ i ∈ l, i < n) (hb : ∀ i, q.testBit i = true ↔ i ∈ l) : l = lo q n := by
  refine sorted_eq _ _ hp (lo_sorted q n) ?_
  intro x
  constructor
  · intro hx
    exact List.mem_of_getElem? (lo_get (hl x hx) ((hb x).2 hx))
  · intro hx
    exact (hb x).1 (lo_lt x hx).2
theorem cut_caps {R size : Nat} {ps : List (Nat × Nat × Nat)} (h : ∀ p ∈ ps, R * size ≤ p.2.2 ∧ p.2.2 ≤ maxLen) : ∀ p ∈ cutAll size R ps, size ≤ p.2.2 ∧ p.2.2 ≤ maxLen := by
  intro p hp
  simp only [cutAll, List.mem_flatMap, cutOne, List.mem_map, List.mem_range] at hp
  obtain ⟨p0, h0, q, hq, rfl⟩ := hp
  have := h p0 h0
  have hq1 : (q + 1) * size ≤ R * size := Nat.mul_le_mul_right _ hq
  rw [Nat.add_mul, Nat.one_mul] at hq1
  simp only
  omega
end Sh
/-- shards that are cut, as rows -/
theorem cut_dat {w w' : World} {base base' : Nat} {v v' : Value} {R size : Nat} {ps : List (Nat × Nat × Nat)} {X : List (List Int)} (h : Sh.Dat w base 33 v (R * size) ps X) (hb : Below w.heap.size w w') (hr : w'.ownsRow base' 33 1 v' (ps.length * R) (Sh.sv size (Sh.cutAll size R ps))) : Sh.Dat w' base' 33 v' size (Sh.cutAll size R ps) (Sh.rowsD R size X) := by
  have hd := h.below hb
  have hXl : ∀ (j : Nat) (x : List Int), X[j]? = some x → x.length = R * size := fun j x hx => by
    obtain ⟨p, hp⟩ : ∃ p, ps[j]? = some p := ⟨_, List.getElem?_eq_getElem (by rw [← h.lens]; exact (List.getElem?_eq_some_iff.1 hx).1)⟩
    exact (h.each j p x hp hx).1
  refine ⟨by rw [Sh.cutAll_len]; exact hr, by rw [Sh.rowsD_len, Sh.cutAll_len, h.lens], Sh.cut_caps h.caps, Sh.cut_lt hd, fun j p x hp hx => ⟨Sh.rowsD_each hXl j x hx, hd.rows j p x hp hx⟩⟩
/-- shards that were picked out of others -/
theorem pick_dat {w w' : World} {base base' : Nat} {v v' : Value} {n : Nat} {ps : List (Nat × Nat × Nat)} {X : List (List Int)} {l : List Nat} (h : Sh.Dat w base 33 v n ps X) (hb : Below w.heap.size w w') (hl : ∀ i ∈ l, i < ps.length) (hr : w'.ownsRow base' 33 1 v' l.length (Sh.sv n (l.map fun i => ps.getD i (0, 0, 0)))) : Sh.Dat w' base' 33 v' n (l.map fun i => ps.getD i (0, 0, 0)) (Sh.pick' X l) := by
  refine Sh.Dat.mk' (by rw [List.length_map]; exact hr) (by simp [Sh.pick']) ?_
  intro j p x hp hx
  unfold Sh.pick' at hx
  rw [List.getElem?_map, Option.map_eq_some_iff] at hp hx
  obtain ⟨t, ht, rfl⟩ := hp
  obtain ⟨t', ht', rfl⟩ := hx
  rw [ht] at ht'
  injection ht' with ht'
  subst ht'
  have htl := hl t (List.mem_of_getElem? ht)
  have e1 : ps[t]? = some (ps.getD t (0, 0, 0)) := by rw [List.getD_eq_getElem?_getD, List.getElem?_eq_getElem htl]; rfl
  have e2 : X[t]? = some (X.getD t []) := by rw [List.getD_eq_getElem?_getD, List.getElem?_eq_getElem (by rw [h.lens]; exact htl)]; rfl
  exact (Sh.One.of h e1 e2).below hb
/-- registers that came out, as shards that are read -/
theorem regs_dat {w : World} {base : Nat} {v : Value} {size : Nat} {bs : List Nat} {X : List (List Int)} (hs : size ≤ 48) (hr : w.ownsRow base 33 1 v bs.length (bs.map fun b => Value.slice (some ⟨b, 0, none⟩) size size)) (hl : X.length = bs.length) (hX : ∀ (j : Nat) (x : List Int), X[j]? = some x → x.length = size)
    (hc : ∀ (j b : Nat) (x : List Int), bs[j]? = some b → X[j]? = some x → w.heap[b]? = some (.cells (x.map (Value.int .u8)).toArray 5 (0, 0))) : Sh.Dat w base 33 v size (bs.map fun b => (b, 0, size)) X := by
  refine Sh.Dat.mk' (by rw [List.length_map]; unfold Sh.sv; rw [List.map_map]; exact hr) (by rw [List.length_map]; exact hl) ?_
  intro j p x hp hx
  rw [List.getElem?_map, Option.map_eq_some_iff] at hp
  obtain ⟨b, hb, rfl⟩ := hp
  have h1 := hc j b x hb hx
  refine ⟨⟨Nat.le_refl _, by simp only [maxLen]; omega⟩, blk_lt h1, hX j x hx, ?_⟩
  intro i u hi
  simp only [Nat.zero_add]
  exact blk_cell h1 (by simp [hi])
end Go.Proofs.Ythhbpofcemoflab
