import Derived.Test.YtfnfnmonnfcpeabPure9
import Derived.Test.YtfnfnmonnfcpeabPure10
namespace Go.Proofs.Ytfnfnmonnfcpeab
open Go.RowKit
set_option maxRecDepth 20000
namespace Sh
/-- in which registers something stands behind some operations -/
def fl (G : Nat) (ops : List (Int × Int × Int)) (r : Nat) : Bool := decide (r < G) || ops.any fun o => o.2.1 == (r : Int)
theorem fl_append (G : Nat) (A B : List (Int × Int × Int)) (r : Nat) : fl G (A ++ B) r = (fl G A r || B.any fun o => o.2.1 == (r : Int)) := by
  simp [fl, List.any_append, Bool.or_assoc]
theorem fl_given {G : Nat} (ops : List (Int × Int × Int)) {r : Nat} (h : r < G) : fl G ops r = true := by simp [fl, h]
theorem fl_start (G r : Nat) : fl G [] r = decide (r < G) := by simp [fl]
theorem fl_more {G : Nat} {A : List (Int × Int × Int)} (B : List (Int × Int × Int)) {r : Nat} (h : fl G A r = true) : fl G (A ++ B) r = true := by rw [fl_append, h]; rfl
def StepOk (G n : Nat) (f : Nat → Bool) (o : Int × Int × Int) : Prop := ∃ t s : Nat, o.2.1 = t ∧ o.2.2 = s ∧ G ≤ t ∧ t < n ∧ s < n ∧ ((o.1 = 0 ∧ s = 0) ∨ (o.1 = 1 ∧ f s = true) ∨ (o.1 = 2 ∧ f s = true ∧ f t = true))
/-- each operation may be done where it stands -/
def Steps (G n : Nat) (pre ops : List (Int × Int × Int)) : Prop := ∀ (k : Nat) (o : Int × Int × Int), ops[k]? = some o → StepOk G n (fl G (pre ++ ops.take k)) o
theorem Steps.append {G n : Nat} {pre A B : List (Int × Int × Int)} (hA : Steps G n pre A) (hB : Steps G n (pre ++ A) B) : Steps G n pre (A ++ B) := by
  intro k o ho
  by_cases h : k < A.length
  · rw [List.getElem?_append_left h] at ho
    have := hA k o ho
    rw [List.take_append_of_le_length (by omega)]
    exact this
  · rw [List.getElem?_append_right (by omega)] at ho
    have := hB _ o ho
    rw [List.append_assoc] at this
    have e : (A ++ B).take k = A ++ B.take (k - A.length) := by rw [List.take_append, List.take_of_length_le (by omega)]
    rw [e]
    exact this
theorem Steps.nil {G n : Nat} {pre : List (Int × Int × Int)} : Steps G n pre [] := by intro k o ho; simp at ho
theorem Steps.one {G n : Nat} {pre : List (Int × Int × Int)} {o : Int × Int × Int} (h : StepOk G n (fl G pre) o) : Steps G n pre [o] := by
  intro k o' ho
  cases k with
  | zero =>
    simp at ho
    subst ho
    simpa using h
  | succ k => simp at ho
/-- a program (P11) -/
structure Snd (G O B : Nat) (ops : List (Int × Int × Int)) : Prop where
  steps : Steps G (G + O + B) [] ops
  outs : ∀ j, j < O → fl G ops (G + j) = true
theorem plO_any (sum : Int) (t k : Nat) (h : plK sum k ≠ 1) : ((plO sum t k).any fun o => o.2.1 == (t : Int)) = true := by
  induction k with
  | zero => exact absurd rfl h
  | succ k ih =>
    by_cases c : (bits .and .u64 (sum / 2 ^ k) 1 == 1) = true
    · rw [plO_t c]; simp
    · have c' : (bits .and .u64 (sum / 2 ^ k) 1 == 1) = false := by simpa using c
      rw [plO_f c']
      rw [plK_f c'] at h
      exact ih h
theorem plO_steps (sum : Int) (G n t : Nat) (hg : G ≤ t) (ht : t < n) (pre : List (Int × Int × Int)) (k : Nat) (hk : k ≤ G) : Steps G n pre (plO sum t k) := by
  induction k with
  | zero => exact Steps.nil
  | succ k ih =>
    by_cases c : (bits .and .u64 (sum / 2 ^ k) 1 == 1) = true
    · rw [plO_t c]
      refine (ih (by omega)).append (Steps.one ⟨t, k, rfl, rfl, hg, ht, by omega, ?_⟩)
      by_cases h1 : plK sum k = 1
      · exact Or.inr (Or.inl ⟨h1, fl_given _ (by omega)⟩)
      · refine Or.inr (Or.inr ⟨(plK_12 sum k).resolve_left h1, fl_given _ (by omega), ?_⟩)
        rw [fl_append, plO_any sum t k h1, Bool.or_true]
    · have c' : (bits .and .u64 (sum / 2 ^ k) 1 == 1) = false := by simpa using c
      rw [plO_f c']
      exact ih (by omega)
theorem plRow_steps (sum : Int) (G n t : Nat) (hg : G ≤ t) (ht : t < n) (pre : List (Int × Int × Int)) : Steps G n pre (plRow G sum t) := by
  unfold plRow
  refine (plO_steps sum G n t hg ht pre G (Nat.le_refl _)).append ?_
  split
  · exact Steps.one ⟨t, 0, rfl, rfl, hg, ht, by omega, Or.inl ⟨rfl, rfl⟩⟩
  · exact Steps.nil
theorem plRow_any (sum : Int) (G t : Nat) : ((plRow G sum t).any fun o => o.2.1 == (t : Int)) = true := by
  unfold plRow
  rw [List.any_append]
  by_cases c : plK sum G = 1
  · simp [c]
  · rw [plO_any sum t G c, Bool.true_or]
theorem plA_steps (G : Nat) (sums : List Int) (n : Nat) (i : Nat) (hi : G + i ≤ n) : Steps G n [] (plA G sums i) := by
  induction i with
  | zero => exact Steps.nil
  | succ i ih =>
    simp only [plA]
    refine (ih (by omega)).append ?_
    have := plRow_steps (sums.getD i 0) G n (G + i) (by omega) (by omega) ([] ++ plA G sums i)
    rw [Int.natCast_add] at this
    exact this
theorem plA_outs (G : Nat) (sums : List Int) (i : Nat) : ∀ j, j < i → fl G (plA G sums i) (G + j) = true := by
  induction i with
  | zero => intro j hj; omega
  | succ i ih =>
    intro j hj
    simp only [plA]
    by_cases e : j = i
    · subst e
      rw [fl_append]
      have := plRow_any (sums.getD j 0) G (G + j)
      rw [Int.natCast_add] at this ⊢
      rw [this, Bool.or_true]
    · exact fl_more _ (ih j (by omega))
theorem plain_snd (G : Nat) (sums : List Int) : Snd G sums.length 0 (plain G sums) :=
  ⟨plA_steps G sums _ _ (by omega), plA_outs G sums _⟩
/-- what the registers' marks look like in memory -/
def flA (G n : Nat) (f : Nat → Bool) : Array Value := ([Value.int .i64 G, Value.int .i64 n] ++ (List.range 104).map fun r => Value.bool (f r)).toArray
theorem flA_get (G n : Nat) (f : Nat → Bool) (r : Nat) (hr : r < 104) : (flA G n f)[2 + r]? = some (.bool (f r)) := by
  unfold flA
  rw [List.getElem?_toArray, List.getElem?_append_right (by simp)]
  simp [List.getElem?_range hr]
theorem flA_set (G n : Nat) (f : Nat → Bool) (t : Nat) : (flA G n f).setIfInBounds (2 + t) (.bool true) = flA G n (fun r => f r || r == t) := by
  unfold flA
  apply Array.ext'
  rw [Array.toList_setIfInBounds]
  simp only
  rw [List.set_append_right _ _ (by simp)]
  congr 1
  apply List.ext_getElem
  · simp
  · intro i h1 h2
    simp only [List.length_cons, List.length_nil, Nat.zero_add, Nat.add_sub_cancel_left, List.getElem_set, List.getElem_map, List.getElem_range]
    by_cases e : t = i
    · subst e; simp
    · rw [if_neg e]
      have : (i == t) = false := by simp; omega
      rw [this, Bool.or_false]
theorem fl_snoc (G : Nat) (ops : List (Int × Int × Int)) (k t : Nat) (o : Int × Int × Int) (h : ops[k]? = some o) (ht : o.2.1 = t) : (fun r => fl G (ops.take k) r || r == t) = fl G (ops.take (k + 1)) := by
  funext r
  obtain ⟨h1, h2⟩ := List.getElem?_eq_some_iff.1 h
  rw [List.take_succ_eq_append_getElem h1, h2, fl_append]
  congr 1
  simp only [List.any_cons, List.any_nil, Bool.or_false, ht]
  by_cases e : r = t
  · subst e; simp
  · have e1 : (r == t) = false := by simpa using e
    have e2 : ((t : Int) == (r : Int)) = false := by simp; omega
    rw [e1, e2]
theorem fl_zero (k : Nat) : (fun r => decide (r < k) || r == k) = fun r => decide (r < k + 1) := by
  funext r
  by_cases h : r < k
  · simp [h]; omega
  · by_cases e : r = k
    · subst e; simp
    · have : ¬ r < k + 1 := by omega
      simp [h, e, this]
/-- a program as bytes -/
def txt (G O B : Nat) (ops : List (Int × Int × Int)) : List Int := [(88 : Int), 80, (G : Int), (O : Int), (B : Int), (ops.length : Int) % 256, (ops.length : Int) / 256] ++ ops.flatMap fun o => [o.1, o.2.1, o.2.2]
theorem oflat_len (ops : List (Int × Int × Int)) : (ops.flatMap fun o => [o.1, o.2.1, o.2.2]).length = 3 * ops.length := by
  induction ops with
  | nil => rfl
  | cons a l ih => simp only [List.flatMap_cons, List.length_append, List.length_cons, List.length_nil] at *; omega
theorem txt_len (G O B : Nat) (ops : List (Int × Int × Int)) : (txt G O B ops).length = 7 + 3 * ops.length := by
  unfold txt
  rw [List.length_append, oflat_len]
  rfl
theorem oflat_get {ops : List (Int × Int × Int)} {k : Nat} {o : Int × Int × Int} (h : ops[k]? = some o) : (ops.flatMap fun o => [o.1, o.2.1, o.2.2])[3 * k]? = some o.1 ∧ (ops.flatMap fun o => [o.1, o.2.1, o.2.2])[3 * k + 1]? = some o.2.1 ∧ (ops.flatMap fun o => [o.1, o.2.1, o.2.2])[3 * k + 2]? = some o.2.2 := by
  induction ops generalizing k with
  | nil => simp at h
  | cons a l ih =>
    rw [List.flatMap_cons]
    cases k with
    | zero => simp at h; subst h; simp
    | succ k =>
      rw [List.getElem?_cons_succ] at h
      have := ih h
      refine ⟨?_, ?_, ?_⟩
      · rw [List.getElem?_append_right (by simp only [List.length_cons, List.length_nil]; omega)]; rw [← this.1]; congr 1
      · rw [List.getElem?_append_right (by simp only [List.length_cons, List.length_nil]; omega)]; rw [← this.2.1]; congr 1
      · rw [List.getElem?_append_right (by simp only [List.length_cons, List.length_nil]; omega)]; rw [← this.2.2]; congr 1
theorem txt_get {G O B : Nat} {ops : List (Int × Int × Int)} {k : Nat} {o : Int × Int × Int} (h : ops[k]? = some o) : (txt G O B ops)[7 + 3 * k]? = some o.1 ∧ (txt G O B ops)[7 + 3 * k + 1]? = some o.2.1 ∧ (txt G O B ops)[7 + 3 * k + 2]? = some o.2.2 := by
  have := oflat_get h
  unfold txt
  refine ⟨?_, ?_, ?_⟩
  · rw [List.getElem?_append_right (by simp only [List.length_cons, List.length_nil]; omega)]; rw [← this.1]; congr 1; simp only [List.length_cons, List.length_nil]; omega
  · rw [List.getElem?_append_right (by simp only [List.length_cons, List.length_nil]; omega)]; rw [← this.2.1]; congr 1; simp only [List.length_cons, List.length_nil]; omega
  · rw [List.getElem?_append_right (by simp only [List.length_cons, List.length_nil]; omega)]; rw [← this.2.2]; congr 1; simp only [List.length_cons, List.length_nil]; omega
theorem oflat_snoc {ops : List (Int × Int × Int)} {k : Nat} {o : Int × Int × Int} (h : ops[k]? = some o) : ((ops.take (k + 1)).flatMap fun o => [o.1, o.2.1, o.2.2]) = ((ops.take k).flatMap fun o => [o.1, o.2.1, o.2.2]) ++ [o.1, o.2.1, o.2.2] := by
  obtain ⟨h1, h2⟩ := List.getElem?_eq_some_iff.1 h
  rw [List.take_succ_eq_append_getElem h1, h2, List.flatMap_append]
  simp
theorem len_all : (List.range 2049).all (fun L => bits .or .i64 ((L % 256 : Nat) : Int) (((L / 256 : Nat) : Int) * 256) == (L : Int)) = true := by decide +kernel
theorem len_or (L : Nat) (h : L ≤ 2048) : bits .or .i64 ((L : Int) % 256) ((L : Int) / 256 * 256) = (L : Int) := by
  have := List.all_eq_true.1 len_all L (List.mem_range.2 (by omega))
  have e := beq_iff_eq.1 this
  rw [Int.natCast_emod, Int.natCast_ediv] at e
  exact e
theorem snd_byte {G O B : Nat} {ops : List (Int × Int × Int)} (h : Snd G O B ops) (hG : G ≤ 48) (hO : O ≤ 40) (hB : B ≤ 16) {k : Nat} {o : Int × Int × Int} (ho : ops[k]? = some o) : (0 ≤ o.1 ∧ o.1 ≤ 2) ∧ (0 ≤ o.2.1 ∧ o.2.1 ≤ 103) ∧ (0 ≤ o.2.2 ∧ o.2.2 ≤ 103) := by
  obtain ⟨t, s, h1, h2, h3, h4, h5, h6⟩ := h.steps k o ho
  rw [h1, h2]
  refine ⟨?_, by omega, by omega⟩
  rcases h6 with ⟨h, _⟩ | ⟨h, _⟩ | ⟨h, _⟩ <;> rw [h] <;> decide
end Sh
end Go.Proofs.Ytfnfnmonnfcpeab
namespace Go.Proofs.Ytfnfnmonnfcpeab
open Go.RowKit
set_option maxRecDepth 20000
namespace Sh
theorem shB_cut {X : List (List Int)} {R k m size : Nat} (hX : ∀ (j : Nat) (x : List Int), X[j]? = some x → x.length = size) (hl : m * R ≤ X.length) (hk : k < m) (r : Nat) (hr : r ≤ R) :
    (shB X R k r).length = r * size ∧ ∀ q, q < r → ((shB X R k r).drop (q * size)).take size = X.getD (k * R + q) [] := by
  induction r with
  | zero => exact ⟨by simp [shB], fun q hq => by omega⟩
  | succ r ih =>
    obtain ⟨h1, h2⟩ := ih (by omega)
    have hkr : k * R + r < X.length := by
      have : (k + 1) * R ≤ m * R := Nat.mul_le_mul_right _ hk
      rw [Nat.add_mul, Nat.one_mul] at this
      omega
    have hg : X.getD (k * R + r) [] = X[k * R + r] := by rw [List.getD_eq_getElem?_getD, List.getElem?_eq_getElem hkr]; rfl
    have hgl : (X.getD (k * R + r) []).length = size := by rw [hg]; exact hX _ _ (List.getElem?_eq_getElem hkr)
    rw [shB_succ]
    refine ⟨by rw [List.length_append, h1, hgl, Nat.add_mul, Nat.one_mul], ?_⟩
    intro q hq
    by_cases e : q = r
    · subst e
      rw [List.drop_append, List.drop_of_length_le (by omega), List.nil_append, h1, Nat.sub_self, List.drop_zero, List.take_of_length_le (by omega)]
    · have hqs : (q + 1) * size ≤ r * size := Nat.mul_le_mul_right _ (by omega)
      rw [Nat.add_mul, Nat.one_mul] at hqs
      rw [List.drop_append_of_le_length (by omega), List.take_append_of_le_length (by rw [List.length_drop]; omega)]
      exact h2 q (by omega)
theorem rowsD_snoc (R size : Nat) (X : List (List Int)) (x : List Int) : rowsD R size (X ++ [x]) = rowsD R size X ++ (List.range R).map fun q => (x.drop (q * size)).take size := by simp [rowsD]
/-- rows laid together and cut again are the rows -/
theorem rows_sh {regs : List (List Int)} {R M size : Nat} (hl : regs.length = M * R) (hX : ∀ (j : Nat) (x : List Int), regs[j]? = some x → x.length = size) : rowsD R size ((List.range M).map fun k => shB regs R k R) = regs := by
  have key : ∀ m, m ≤ M → rowsD R size ((List.range m).map fun k => shB regs R k R) = regs.take (m * R) := by
    intro m
    induction m with
    | zero => intro _; simp [rowsD]
    | succ m ih =>
      intro hm
      rw [List.range_succ, List.map_append, List.map_cons, List.map_nil, rowsD_snoc, ih (by omega), Nat.add_mul, Nat.one_mul, List.take_add]
      congr 1
      have hmR : (m + 1) * R ≤ M * R := Nat.mul_le_mul_right _ hm
      rw [Nat.add_mul, Nat.one_mul] at hmR
      apply List.ext_getElem
      · rw [List.length_map, List.length_range, List.length_take, List.length_drop]; omega
      · intro i h1 h2
        rw [List.getElem_map, List.getElem_range, List.getElem_take, List.getElem_drop]
        rw [List.length_map, List.length_range] at h1
        rw [(shB_cut hX (by omega) (show m < M by omega) R (Nat.le_refl _)).2 i h1, List.getD_eq_getElem?_getD, List.getElem?_eq_getElem (by omega)]
        rfl
  rw [key M (Nat.le_refl _), List.take_of_length_le (by omega)]
end Sh
end Go.Proofs.Ytfnfnmonnfcpeab
