import Derived.Test.YtfnfnmonnfcpeabPureX
namespace Go.Proofs.Ytfnfnmonnfcpeab
open Go.RowKit
set_option maxRecDepth 20000
namespace Sh
/-- the shards that are left, the first K of them; the shards that are lost -/
def lf (q K : Nat) : Nat → List Nat
  | 0 => []
  | s + 1 => if q.testBit s = false ∧ (lf q K s).length < K then lf q K s ++ [s] else lf q K s
def lo (q : Nat) : Nat → List Nat
  | 0 => []
  | s + 1 => if q.testBit s = true then lo q s ++ [s] else lo q s
theorem lo_len_le (q s : Nat) : (lo q s).length ≤ s := by
  induction s with
  | zero => exact Nat.le_refl _
  | succ s ih =>
    simp only [lo]
    split
    · rw [List.length_append, List.length_singleton]; omega
    · omega
theorem lf_len (q K s : Nat) : (lf q K s).length = min K (s - (lo q s).length) := by
  induction s with
  | zero => simp [lf, lo]
  | succ s ih =>
    have := lo_len_le q s
    simp only [lf, lo]
    by_cases c : q.testBit s = true
    · rw [if_pos c, if_neg (by simp [c]), List.length_append, List.length_singleton, ih]; omega
    · rw [if_neg c]
      by_cases c2 : (lf q K s).length < K
      · rw [if_pos ⟨by simpa using c, c2⟩, List.length_append, List.length_singleton]; omega
      · rw [if_neg (fun h => c2 h.2)]; omega
theorem lf_lt {q K s : Nat} : ∀ i ∈ lf q K s, i < s := by
  induction s with
  | zero => intro i h; cases h
  | succ s ih =>
    intro i h
    simp only [lf] at h
    split at h
    · rw [List.mem_append, List.mem_singleton] at h
      rcases h with h | h
      · have := ih i h; omega
      · omega
    · have := ih i h; omega
theorem lo_lt {q s : Nat} : ∀ i ∈ lo q s, i < s ∧ q.testBit i = true := by
  induction s with
  | zero => intro i h; cases h
  | succ s ih =>
    intro i h
    simp only [lo] at h
    split at h
    · next c =>
      rw [List.mem_append, List.mem_singleton] at h
      rcases h with h | h
      · have := ih i h; exact ⟨by omega, this.2⟩
      · subst h; exact ⟨by omega, c⟩
    · have := ih i h; exact ⟨by omega, this.2⟩
/-- the rows of a shard -/
def rws (R t : Nat) : List Nat := (List.range R).map fun r => t * R + r
/-- the rows that are given, as the loop finds them -/
def gi (R q KR : Nat) : Nat → List Nat
  | 0 => []
  | i + 1 => if q.testBit (i / R) = false ∧ (gi R q KR i).length < KR then gi R q KR i ++ [i] else gi R q KR i
def ls (row : Nat → Nat) (R q : Nat) (ks : List (Nat × Nat)) : Nat → List Nat
  | 0 => []
  | i + 1 => if q.testBit (i / R) = true then ls row R q ks i ++ [(red ks (row i, 0)).2] else ls row R q ks i
theorem gi_len (R q KR i : Nat) : (gi R q KR i).length ≤ KR ∧ (gi R q KR i).length ≤ i := by
  induction i with
  | zero => simp [gi]
  | succ i ih =>
    simp only [gi]
    split
    · next c => rw [List.length_append, List.length_singleton]; omega
    · omega
theorem rws_len (l : List Nat) (R : Nat) : (l.flatMap (rws R)).length = l.length * R := by
  induction l with
  | nil => simp
  | cons a l ih => rw [List.flatMap_cons, List.length_append, ih, List.length_cons, Nat.add_mul, Nat.one_mul]; simp [rws]; omega
theorem sdiv {s R r : Nat} (hr : r < R) : (s * R + r) / R = s := by
  rw [Nat.mul_comm, Nat.mul_add_div (by omega), Nat.div_eq_of_lt hr, Nat.add_zero]
theorem gi_lf (R q K s : Nat) : gi R q (K * R) (s * R) = (lf q K s).flatMap (rws R) := by
  induction s with
  | zero => simp [gi, lf]
  | succ s ih =>
    have hl := rws_len (lf q K s) R
    rw [← ih] at hl
    simp only [lf]
    by_cases c : q.testBit s = false ∧ (lf q K s).length < K
    · rw [if_pos c, List.flatMap_append, List.flatMap_cons, List.flatMap_nil, List.append_nil, ← ih]
      have hK : ((lf q K s).length + 1) * R ≤ K * R := Nat.mul_le_mul_right _ c.2
      rw [Nat.add_mul, Nat.one_mul, ← hl] at hK
      have key : ∀ r, r ≤ R → gi R q (K * R) (s * R + r) = gi R q (K * R) (s * R) ++ (List.range r).map fun r => s * R + r := by
        intro r hr
        induction r with
        | zero => simp
        | succ r ih2 =>
          have e := ih2 (by omega)
          have hlen : (gi R q (K * R) (s * R + r)).length < K * R := by rw [e, List.length_append, List.length_map, List.length_range]; omega
          rw [← Nat.add_assoc]
          simp only [gi]
          rw [sdiv (by omega : r < R), if_pos ⟨c.1, hlen⟩, e, List.range_succ, List.map_append, List.append_assoc]
          rfl
      rw [Nat.add_mul, Nat.one_mul]
      exact key R (Nat.le_refl _)
    · rw [if_neg c, ← ih]
      have key : ∀ r, r ≤ R → gi R q (K * R) (s * R + r) = gi R q (K * R) (s * R) := by
        intro r hr
        induction r with
        | zero => rfl
        | succ r ih2 =>
          have e := ih2 (by omega)
          rw [← Nat.add_assoc]
          simp only [gi]
          rw [sdiv (by omega : r < R), if_neg, e]
          rintro ⟨h1, h2⟩
          rw [e] at h2
          refine c ⟨h1, ?_⟩
          rw [hl] at h2
          exact Nat.lt_of_mul_lt_mul_right h2
      rw [Nat.add_mul, Nat.one_mul]
      exact key R (Nat.le_refl _)
theorem ls_lo (row : Nat → Nat) (R q : Nat) (ks : List (Nat × Nat)) (s : Nat) : ls row R q ks (s * R) = (lo q s).flatMap fun t => (rws R t).map fun i => (red ks (row i, 0)).2 := by
  induction s with
  | zero => simp [ls, lo]
  | succ s ih =>
    simp only [lo]
    rw [Nat.add_mul, Nat.one_mul]
    by_cases c : q.testBit s = true
    · rw [if_pos c, List.flatMap_append, List.flatMap_cons, List.flatMap_nil, List.append_nil, ← ih]
      have key : ∀ r, r ≤ R → ls row R q ks (s * R + r) = ls row R q ks (s * R) ++ ((List.range r).map fun r => s * R + r).map fun i => (red ks (row i, 0)).2 := by
        intro r hr
        induction r with
        | zero => simp
        | succ r ih2 =>
          rw [← Nat.add_assoc]
          simp only [ls]
          rw [sdiv (by omega : r < R), if_pos c, ih2 (by omega), List.range_succ, List.map_append, List.map_append, List.append_assoc]
          rfl
      exact key R (Nat.le_refl _)
    · rw [if_neg c, ← ih]
      have key : ∀ r, r ≤ R → ls row R q ks (s * R + r) = ls row R q ks (s * R) := by
        intro r hr
        induction r with
        | zero => rfl
        | succ r ih2 =>
          rw [← Nat.add_assoc]
          simp only [ls]
          rw [sdiv (by omega : r < R), if_neg c, ih2 (by omega)]
      exact key R (Nat.le_refl _)
/-- all patterns of at most m losses among the rest -/
def dfs : List (List Nat) → List Nat → Nat → Nat → List Nat → Bool
  | [], kd, _, _, lost => lost.all fun r => redD kd r == 0
  | s :: rest, kd, c, m, lost => (match m with | 0 => true | m' + 1 => dfs rest kd c m' (lost ++ s)) && (match c with | 0 => dfs rest kd 0 m lost | c' + 1 => dfs rest (s.foldl addD kd) c' m lost)
def shs (row : Nat → Nat) (R n : Nat) : List (List Nat) := (List.range n).map fun t => (rws R t).map row
theorem dfs_path (row : Nat → Nat) (R n K M q : Nat) (hm : (lo q n).length ≤ M) (s : Nat) (hs : s ≤ n)
    (h : dfs ((List.range' s (n - s)).map fun t => (rws R t).map row) (((lf q K s).flatMap (rws R)).map row |>.foldl addD []) (K - (lf q K s).length) (M - (lo q s).length) (((lo q s).flatMap (rws R)).map row) = true) :
    ∀ r ∈ ((lo q n).flatMap (rws R)).map row, redD (((lf q K n).flatMap (rws R)).map row |>.foldl addD []) r = 0 := by
  obtain ⟨d, hd⟩ : ∃ d, n - s = d := ⟨_, rfl⟩
  induction d generalizing s with
  | zero =>
    have e : s = n := by omega
    subst e
    rw [hd] at h
    simp only [List.range'_zero, List.map_nil, dfs, List.all_eq_true, beq_iff_eq] at h
    exact h
  | succ d ih =>
    rw [hd, List.range'_succ, List.map_cons] at h
    simp only [dfs, Bool.and_eq_true] at h
    refine ih (s + 1) (by omega) ?_ (by omega)
    rw [show n - (s + 1) = d by omega]
    by_cases c : q.testBit s = true
    · have e1 : lo q (s + 1) = lo q s ++ [s] := by simp only [lo]; rw [if_pos c]
      have e2 : lf q K (s + 1) = lf q K s := by simp only [lf]; rw [if_neg (by simp [c])]
      have hle : ∀ a b, a ≤ b → (lo q a).length ≤ (lo q b).length := by
        intro a b hab
        induction b with
        | zero => have : a = 0 := by omega
                  subst this; exact Nat.le_refl _
        | succ b ihb =>
          by_cases e : a = b + 1
          · subst e; exact Nat.le_refl _
          · refine Nat.le_trans (ihb (by omega)) ?_
            simp only [lo]
            split
            · rw [List.length_append]; omega
            · exact Nat.le_refl _
      have h1 := hle (s + 1) n (by omega)
      rw [e1, List.length_append, List.length_singleton] at h1
      obtain ⟨m', hm'⟩ : ∃ m', M - (lo q s).length = m' + 1 := ⟨M - (lo q s).length - 1, by omega⟩
      have h2 := h.1
      rw [hm'] at h2
      rw [e1, e2, List.length_append, List.length_singleton, List.flatMap_append, List.map_append, show M - ((lo q s).length + 1) = m' by omega]
      simpa using h2
    · have e1 : lo q (s + 1) = lo q s := by simp only [lo]; rw [if_neg c]
      have h2 := h.2
      by_cases c2 : (lf q K s).length < K
      · have e2 : lf q K (s + 1) = lf q K s ++ [s] := by simp only [lf]; rw [if_pos ⟨by simpa using c, c2⟩]
        obtain ⟨c', hc'⟩ : ∃ c', K - (lf q K s).length = c' + 1 := ⟨K - (lf q K s).length - 1, by omega⟩
        rw [hc'] at h2
        rw [e1, e2, List.length_append, List.length_singleton, List.flatMap_append, List.map_append, List.foldl_append, show K - ((lf q K s).length + 1) = c' by omega]
        simpa using h2
      · have e2 : lf q K (s + 1) = lf q K s := by simp only [lf]; rw [if_neg (fun h => c2 h.2)]
        have hc' : K - (lf q K s).length = 0 := by omega
        rw [hc'] at h2
        rw [e1, e2, hc']
        exact h2
theorem dfs_all (row : Nat → Nat) (R n K M q : Nat) (hm : (lo q n).length ≤ M) (h : dfs (shs row R n) [] K M [] = true) :
    ∀ i ∈ (lo q n).flatMap (rws R), (red (kn row ((lf q K n).flatMap (rws R))) (row i, 0)).1 = 0 := by
  intro i hi
  rw [red_fst, kn_fst]
  refine dfs_path row R n K M q hm 0 (Nat.zero_le _) ?_ _ (List.mem_map.2 ⟨i, hi, rfl⟩)
  simp only [lf, lo, List.flatMap_nil, List.map_nil, List.foldl_nil, List.length_nil, Nat.sub_zero]
  rw [← List.range_eq_range']
  exact h
/-- the same, made for the kernel: every number and every list is made whole before it is handed on -/
def fN {α : Type} (n : Nat) (k : Nat → α) : α := match n with | 0 => k 0 | m + 1 => k (Nat.succ m)
def fL {α : Type} : List Nat → (List Nat → α) → α
  | [], k => k []
  | a :: l, k => fN a fun a' => fL l fun l' => k (a' :: l')
theorem fN_eq {α : Type} (n : Nat) (k : Nat → α) : fN n k = k n := by cases n <;> rfl
theorem fL_eq {α : Type} (l : List Nat) (k : List Nat → α) : fL l k = k l := by
  induction l generalizing k with
  | nil => rfl
  | cons a l ih => simp only [fL, fN_eq, ih]
def redK : List Nat → Nat → Nat
  | [], d => d
  | k :: ks, d => cond (Nat.beq (Nat.land d (Nat.land k (Nat.sub 18446744073709551616 k))) 0) (redK ks d) (fN (Nat.xor d k) fun d' => redK ks d')
theorem redK_eq (ks : List Nat) (d : Nat) : redK ks d = redD ks d := by
  induction ks generalizing d with
  | nil => rfl
  | cons k ks ih =>
    simp only [redK, fN_eq, ih]
    unfold redD
    rw [List.foldl_cons]
    by_cases c : d &&& low k = 0
    · rw [if_pos c]
      have : Nat.beq (Nat.land d (Nat.land k (Nat.sub 18446744073709551616 k))) 0 = true := Nat.beq_eq.mpr c
      rw [this]; rfl
    · rw [if_neg c]
      have : Nat.beq (Nat.land d (Nat.land k (Nat.sub 18446744073709551616 k))) 0 = false := by
        cases e : Nat.beq (Nat.land d (Nat.land k (Nat.sub 18446744073709551616 k))) 0
        · rfl
        · exact absurd (Nat.beq_eq.mp e) c
      rw [this]; rfl
def snocK : List Nat → Nat → List Nat
  | [], x => [x]
  | a :: l, x => a :: snocK l x
theorem snocK_eq (l : List Nat) (x : Nat) : snocK l x = l ++ [x] := by
  induction l with
  | nil => rfl
  | cons a l ih => simp [snocK, ih]
def addsK {α : Type} : List Nat → List Nat → (List Nat → α) → α
  | [], kd, k => k kd
  | d :: ds, kd, k => match redK kd d with
    | 0 => addsK ds kd k
    | m + 1 => fL (snocK kd (Nat.succ m)) fun kd' => addsK ds kd' k
theorem addsK_eq {α : Type} (ds kd : List Nat) (k : List Nat → α) : addsK ds kd k = k (ds.foldl addD kd) := by
  induction ds generalizing kd with
  | nil => rfl
  | cons d ds ih =>
    simp only [addsK, List.foldl_cons, fL_eq, ih]
    unfold addD
    rw [← redK_eq]
    cases h : redK kd d with
    | zero => simp
    | succ m => simp [snocK_eq]
def allK : List Nat → List Nat → Bool
  | _, [] => true
  | kd, r :: l => match redK kd r with
    | 0 => allK kd l
    | _ + 1 => false
theorem allK_eq (kd l : List Nat) : allK kd l = l.all fun r => redD kd r == 0 := by
  induction l with
  | nil => rfl
  | cons r l ih =>
    simp only [allK, List.all_cons, ih]
    rw [← redK_eq]
    cases redK kd r with
    | zero => simp
    | succ m => simp
def dfsK : List (List Nat) → List Nat → Nat → Nat → List Nat → Bool
  | [], kd, _, _, lost => allK kd lost
  | s :: rest, kd, c, m, lost => (match m with | 0 => true | m' + 1 => fL (s ++ lost) fun lost' => dfsK rest kd c m' lost') && (match c with | 0 => dfsK rest kd 0 m lost | c' + 1 => addsK s kd fun kd' => dfsK rest kd' c' m lost)
theorem dfsK_eq (S : List (List Nat)) (kd : List Nat) (c m : Nat) (l1 l2 : List Nat) (hl : ∀ r, r ∈ l2 → r ∈ l1) (h : dfsK S kd c m l1 = true) : dfs S kd c m l2 = true := by
  induction S generalizing kd c m l1 l2 with
  | nil =>
    simp only [dfsK, dfs, allK_eq, List.all_eq_true] at *
    exact fun r hr => h r (hl r hr)
  | cons s rest ih =>
    simp only [dfsK, dfs, Bool.and_eq_true, fL_eq, addsK_eq] at *
    refine ⟨?_, ?_⟩
    · cases m with
      | zero => rfl
      | succ m => exact ih _ _ _ _ _ (by intro r hr; rw [List.mem_append] at hr ⊢; rcases hr with hr | hr; exact Or.inr (hl r hr); exact Or.inl hr) h.1
    · cases c with
      | zero => exact ih _ _ _ _ _ hl h.2
      | succ c => exact ih _ _ _ _ _ hl h.2
end Sh
end Go.Proofs.Ytfnfnmonnfcpeab
