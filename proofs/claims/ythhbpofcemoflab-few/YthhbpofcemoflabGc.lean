import Derived.Test.YthhbpofcemoflabGb
namespace Go.Proofs.Ythhbpofcemoflab
open Go.RowKit
set_option maxRecDepth 20000
namespace Sh
/-- the sum of those rows whose bit is in s -/
def xn (s : Nat) (env : Nat → Nat) : Nat → Nat
  | 0 => 0
  | k + 1 => if s.testBit k = true then xn s env k ^^^ env k else xn s env k
theorem xr4 (a b c d : Nat) : (a ^^^ b) ^^^ (c ^^^ d) = (a ^^^ c) ^^^ (b ^^^ d) := by
  rw [Nat.xor_assoc, Nat.xor_assoc, ← Nat.xor_assoc b, Nat.xor_comm b c, Nat.xor_assoc c]
theorem xn_xor (a b : Nat) (env : Nat → Nat) (k : Nat) : xn (a ^^^ b) env k = xn a env k ^^^ xn b env k := by
  induction k with
  | zero => simp [xn]
  | succ k ih =>
    simp only [xn, Nat.testBit_xor, ih]
    cases a.testBit k <;> cases b.testBit k
    · simp
    · simp [Nat.xor_assoc]
    · simp [Nat.xor_assoc, Nat.xor_comm]
    · simp
      rw [xr4, Nat.xor_self, Nat.xor_zero]
theorem xn_zero (env : Nat → Nat) (k : Nat) : xn 0 env k = 0 := by
  induction k with
  | zero => rfl
  | succ k ih => simp [xn, ih]
theorem xn_pow (i : Nat) (env : Nat → Nat) (k : Nat) : xn (2 ^ i) env k = if i < k then env i else 0 := by
  induction k with
  | zero => rfl
  | succ k ih =>
    simp only [xn, Nat.testBit_two_pow, ih, decide_eq_true_eq]
    by_cases c : i = k
    · subst c; simp
    · rw [if_neg c]
      by_cases c2 : i < k
      · rw [if_pos c2, if_pos (by omega)]
      · rw [if_neg c2, if_neg (by omega)]
theorem xn_congr (s : Nat) {e f : Nat → Nat} {k : Nat} (h : ∀ r, r < k → e r = f r) : xn s e k = xn s f k := by
  induction k with
  | zero => rfl
  | succ k ih => simp only [xn, ih (fun r hr => h r (by omega)), h k (by omega)]
theorem xn_env (s : Nat) (e f : Nat → Nat) (k : Nat) : xn s (fun r => e r ^^^ f r) k = xn s e k ^^^ xn s f k := by
  induction k with
  | zero => simp [xn]
  | succ k ih =>
    simp only [xn, ih]
    split
    · rw [xr4]
    · rfl
/-- the lowest bit -/
def low (k : Nat) : Nat := k &&& (18446744073709551616 - k)
def stepR (e k : Nat × Nat) : Nat × Nat := if e.1 &&& low k.1 = 0 then e else (e.1 ^^^ k.1, e.2 ^^^ k.2)
def red (ks : List (Nat × Nat)) (e : Nat × Nat) : Nat × Nat := ks.foldl stepR e
def addE (ks : List (Nat × Nat)) (e : Nat × Nat) : List (Nat × Nat) := if (red ks e).1 = 0 then ks else ks ++ [red ks e]
/-- what an equation says is nought -/
def val (E : Nat → Nat) (n : Nat) (F : Nat → Nat) (m : Nat) (e : Nat × Nat) : Nat := xn e.1 E n ^^^ xn e.2 F m
theorem val_step {E : Nat → Nat} {n : Nat} {F : Nat → Nat} {m : Nat} {k : Nat × Nat} (hk : val E n F m k = 0) (e : Nat × Nat) : val E n F m (stepR e k) = val E n F m e := by
  unfold stepR
  split
  · rfl
  · unfold val at *
    rw [xn_xor, xn_xor, xr4, hk, Nat.xor_zero]
theorem val_red {E : Nat → Nat} {n : Nat} {F : Nat → Nat} {m : Nat} {ks : List (Nat × Nat)} (hk : ∀ k ∈ ks, val E n F m k = 0) (e : Nat × Nat) : val E n F m (red ks e) = val E n F m e := by
  unfold red
  induction ks generalizing e with
  | nil => rfl
  | cons k ks ih =>
    rw [List.foldl_cons, ih (fun k hk' => hk k (by simp [hk'])), val_step (hk k (by simp))]
theorem val_add {E : Nat → Nat} {n : Nat} {F : Nat → Nat} {m : Nat} {ks : List (Nat × Nat)} (hk : ∀ k ∈ ks, val E n F m k = 0) {e : Nat × Nat} (he : val E n F m e = 0) : ∀ k ∈ addE ks e, val E n F m k = 0 := by
  intro k h
  unfold addE at h
  split at h
  · exact hk k h
  · rw [List.mem_append, List.mem_singleton] at h
    rcases h with h | h
    · exact hk k h
    · subst h; rw [val_red hk, he]
/-- the equations that the rows l give -/
def kn (row : Nat → Nat) (l : List Nat) : List (Nat × Nat) := (List.range l.length).foldl (fun ks g => addE ks (row (l.getD g 0), 2 ^ g)) []
theorem foldl_congr' {α β : Type} {f g : β → α → β} {l : List α} {b : β} (h : ∀ b, ∀ a ∈ l, f b a = g b a) : l.foldl f b = l.foldl g b := by
  induction l generalizing b with
  | nil => rfl
  | cons a l ih => rw [List.foldl_cons, List.foldl_cons, h b a (by simp), ih (fun b a ha => h b a (by simp [ha]))]
theorem kn_snoc (row : Nat → Nat) (l : List Nat) (i : Nat) : kn row (l ++ [i]) = addE (kn row l) (row i, 2 ^ l.length) := by
  unfold kn
  rw [List.length_append, List.length_singleton, List.range_succ, List.foldl_append, List.foldl_cons, List.foldl_nil]
  rw [foldl_congr' (g := fun ks g => addE ks (row (l.getD g 0), 2 ^ g))]
  · congr 3
    rw [List.getD_eq_getElem?_getD, List.getElem?_append_right (Nat.le_refl _)]; simp
  · intro ks g hg
    rw [List.mem_range] at hg
    rw [List.getD_eq_getElem?_getD, List.getD_eq_getElem?_getD, List.getElem?_append_left hg]
theorem val_kn {E : Nat → Nat} {n : Nat} {F : Nat → Nat} {m : Nat} {row : Nat → Nat} (l : List Nat) (hl : l.length ≤ m) (h : ∀ g i, l[g]? = some i → F g = xn (row i) E n) : ∀ k ∈ kn row l, val E n F m k = 0 := by
  have key : ∀ t, t ≤ l.length → ∀ k ∈ kn row (l.take t), val E n F m k = 0 := by
    intro t ht
    induction t with
    | zero => intro k hk; simp [kn] at hk
    | succ t ih =>
      have hx : t < l.length := by omega
      rw [List.take_add_one, List.getElem?_eq_getElem hx, Option.toList_some, kn_snoc]
      refine val_add (ih (by omega)) ?_
      have hlt : (l.take t).length = t := by rw [List.length_take]; omega
      rw [hlt]
      unfold val
      simp only
      rw [xn_pow, if_pos (by omega), h t _ (List.getElem?_eq_getElem hx), Nat.xor_self]
  have := key l.length (Nat.le_refl _)
  rw [List.take_length] at this
  exact this
/-- soundness: where nothing of the data is left, the given rows tell the row -/
theorem red_tells {E : Nat → Nat} {n : Nat} {F : Nat → Nat} {m : Nat} {row : Nat → Nat} (l : List Nat) (hl : l.length ≤ m) (h : ∀ g i, l[g]? = some i → F g = xn (row i) E n) (r : Nat) (h0 : (red (kn row l) (r, 0)).1 = 0) : xn (red (kn row l) (r, 0)).2 F m = xn r E n := by
  have hv := val_red (val_kn l hl h) (r, 0)
  unfold val at hv
  rw [h0] at hv
  simp only [xn_zero] at hv
  simpa using hv
/-- of the data alone -/
def redD (ks : List Nat) (d : Nat) : Nat := ks.foldl (fun d k => if d &&& low k = 0 then d else d ^^^ k) d
def addD (ks : List Nat) (d : Nat) : List Nat := if redD ks d = 0 then ks else ks ++ [redD ks d]
theorem red_fst (ks : List (Nat × Nat)) (e : Nat × Nat) : (red ks e).1 = redD (ks.map (·.1)) e.1 := by
  unfold red redD
  induction ks generalizing e with
  | nil => rfl
  | cons k ks ih =>
    rw [List.foldl_cons, List.map_cons, List.foldl_cons, ih]
    congr 1
    unfold stepR
    split <;> rfl
theorem add_fst (ks : List (Nat × Nat)) (e : Nat × Nat) : (addE ks e).map (·.1) = addD (ks.map (·.1)) e.1 := by
  unfold addE addD
  rw [red_fst]
  split
  · rfl
  · rw [List.map_append, List.map_cons, List.map_nil, red_fst]
theorem kn_fst (row : Nat → Nat) (l : List Nat) : (kn row l).map (·.1) = (l.map row).foldl addD [] := by
  have key : ∀ t, t ≤ l.length → (kn row (l.take t)).map (·.1) = ((l.take t).map row).foldl addD [] := by
    intro t ht
    induction t with
    | zero => rfl
    | succ t ih =>
      have hx : t < l.length := by omega
      rw [List.take_add_one, List.getElem?_eq_getElem hx, Option.toList_some, kn_snoc, add_fst, ih (by omega), List.map_append, List.foldl_append]
      rfl
  have := key l.length (Nat.le_refl _)
  rw [List.take_length] at this
  exact this
/-- bounds: all in 64 bits -/
theorem low_lt {k : Nat} (h : k < 2 ^ 64) : low k < 2 ^ 64 := Nat.lt_of_le_of_lt Nat.and_le_left h
theorem stepR_lt {e k : Nat × Nat} {n : Nat} (he : e.1 < 2 ^ n ∧ e.2 < 2 ^ n) (hk : k.1 < 2 ^ n ∧ k.2 < 2 ^ n) : (stepR e k).1 < 2 ^ n ∧ (stepR e k).2 < 2 ^ n := by
  unfold stepR
  split
  · exact he
  · exact ⟨Nat.xor_lt_two_pow he.1 hk.1, Nat.xor_lt_two_pow he.2 hk.2⟩
theorem red_lt {ks : List (Nat × Nat)} {n : Nat} (hk : ∀ k ∈ ks, k.1 < 2 ^ n ∧ k.2 < 2 ^ n) {e : Nat × Nat} (he : e.1 < 2 ^ n ∧ e.2 < 2 ^ n) : (red ks e).1 < 2 ^ n ∧ (red ks e).2 < 2 ^ n := by
  unfold red
  induction ks generalizing e with
  | nil => exact he
  | cons k ks ih => rw [List.foldl_cons]; exact ih (fun k h => hk k (by simp [h])) (stepR_lt he (hk k (by simp)))
theorem addE_lt {ks : List (Nat × Nat)} {n : Nat} (hk : ∀ k ∈ ks, k.1 < 2 ^ n ∧ k.2 < 2 ^ n) {e : Nat × Nat} (he : e.1 < 2 ^ n ∧ e.2 < 2 ^ n) : ∀ k ∈ addE ks e, k.1 < 2 ^ n ∧ k.2 < 2 ^ n := by
  intro k h
  unfold addE at h
  split at h
  · exact hk k h
  · rw [List.mem_append, List.mem_singleton] at h
    rcases h with h | h
    · exact hk k h
    · subst h; exact red_lt hk he
theorem addE_len (ks : List (Nat × Nat)) (e : Nat × Nat) : (addE ks e).length ≤ ks.length + 1 := by
  unfold addE
  split
  · omega
  · simp
theorem kn_len (row : Nat → Nat) (l : List Nat) : (kn row l).length ≤ l.length := by
  have key : ∀ t, t ≤ l.length → (kn row (l.take t)).length ≤ t := by
    intro t ht
    induction t with
    | zero => exact Nat.le_refl _
    | succ t ih =>
      have hx : t < l.length := by omega
      rw [List.take_add_one, List.getElem?_eq_getElem hx, Option.toList_some, kn_snoc]
      exact Nat.le_trans (addE_len _ _) (Nat.succ_le_succ (ih (by omega)))
  have := key l.length (Nat.le_refl _)
  rw [List.take_length] at this
  exact this
theorem kn_lt {row : Nat → Nat} {n : Nat} (hr : ∀ i, row i < 2 ^ n) (l : List Nat) (hl : l.length ≤ n) : ∀ k ∈ kn row l, k.1 < 2 ^ n ∧ k.2 < 2 ^ n := by
  have key : ∀ t, t ≤ l.length → ∀ k ∈ kn row (l.take t), k.1 < 2 ^ n ∧ k.2 < 2 ^ n := by
    intro t ht
    induction t with
    | zero => intro k hk; simp [kn] at hk
    | succ t ih =>
      have hx : t < l.length := by omega
      rw [List.take_add_one, List.getElem?_eq_getElem hx, Option.toList_some, kn_snoc]
      refine addE_lt (ih (by omega)) ⟨hr _, ?_⟩
      have hlt : (l.take t).length = t := by rw [List.length_take]; omega
      rw [hlt]
      exact Nat.pow_lt_pow_right (by decide) (by omega)
  have := key l.length (Nat.le_refl _)
  rw [List.take_length] at this
  exact this
end Sh
end Go.Proofs.Ythhbpofcemoflab
namespace Go.Proofs.Ythhbpofcemoflab
open Go.RowKit
set_option maxRecDepth 20000
namespace Sh
/-- the shards that are left, the first K of them; the shards that are lost -/
def lf (q K : Nat) : Nat → List Nat
  | 0 => []
  | s + 1 => if q.testBit s = false ∧ (lf q K s).length < K then lf q K s ++ [s] else lf q K s
def lo (q : Nat) : Nat → List Nat
  | 0 => []
  | s + 1 => if q.testBit s = true then lo q s ++ [s] else lo q s
theorem lo_len_le (q s : Nat) : (lo q s).length ≤ s := by
  induction s with
  | zero => exact Nat.le_refl _
  | succ s ih =>
    simp only [lo]
    split
    · rw [List.length_append, List.length_singleton]; omega
    · omega
theorem lf_len (q K s : Nat) : (lf q K s).length = min K (s - (lo q s).length) := by
  induction s with
  | zero => simp [lf, lo]
  | succ s ih =>
    have := lo_len_le q s
    simp only [lf, lo]
    by_cases c : q.testBit s = true
    · rw [if_pos c, if_neg (by simp [c]), List.length_append, List.length_singleton, ih]; omega
    · rw [if_neg c]
      by_cases c2 : (lf q K s).length < K
      · rw [if_pos ⟨by simpa using c, c2⟩, List.length_append, List.length_singleton]; omega
      · rw [if_neg (fun h => c2 h.2)]; omega
theorem lf_lt {q K s : Nat} : ∀ i ∈ lf q K s, i < s := by
  induction s with
  | zero => intro i h; cases h
  | succ s ih =>
    intro i h
    simp only [lf] at h
    split at h
    · rw [List.mem_append, List.mem_singleton] at h
      rcases h with h | h
      · have := ih i h; omega
      · omega
    · have := ih i h; omega
theorem lo_lt {q s : Nat} : ∀ i ∈ lo q s, i < s ∧ q.testBit i = true := by
  induction s with
  | zero => intro i h; cases h
  | succ s ih =>
    intro i h
    simp only [lo] at h
    split at h
    · next c =>
      rw [List.mem_append, List.mem_singleton] at h
      rcases h with h | h
      · have := ih i h; exact ⟨by omega, this.2⟩
      · subst h; exact ⟨by omega, c⟩
    · have := ih i h; exact ⟨by omega, this.2⟩
/-- the rows of a shard -/
def rws (R t : Nat) : List Nat := (List.range R).map fun r => t * R + r
/-- the rows that are given, as the loop finds them -/
def gi (R q KR : Nat) : Nat → List Nat
  | 0 => []
  | i + 1 => if q.testBit (i / R) = false ∧ (gi R q KR i).length < KR then gi R q KR i ++ [i] else gi R q KR i
def ls (row : Nat → Nat) (R q : Nat) (ks : List (Nat × Nat)) : Nat → List Nat
  | 0 => []
  | i + 1 => if q.testBit (i / R) = true then ls row R q ks i ++ [(red ks (row i, 0)).2] else ls row R q ks i
theorem gi_len (R q KR i : Nat) : (gi R q KR i).length ≤ KR ∧ (gi R q KR i).length ≤ i := by
  induction i with
  | zero => simp [gi]
  | succ i ih =>
    simp only [gi]
    split
    · next c => rw [List.length_append, List.length_singleton]; omega
    · omega
theorem rws_len (l : List Nat) (R : Nat) : (l.flatMap (rws R)).length = l.length * R := by
  induction l with
  | nil => simp
  | cons a l ih => rw [List.flatMap_cons, List.length_append, ih, List.length_cons, Nat.add_mul, Nat.one_mul]; simp [rws]; omega
theorem sdiv {s R r : Nat} (hr : r < R) : (s * R + r) / R = s := by
  rw [Nat.mul_comm, Nat.mul_add_div (by omega), Nat.div_eq_of_lt hr, Nat.add_zero]
theorem gi_lf (R q K s : Nat) : gi R q (K * R) (s * R) = (lf q K s).flatMap (rws R) := by
  induction s with
  | zero => simp [gi, lf]
  | succ s ih =>
    have hl := rws_len (lf q K s) R
    rw [← ih] at hl
    simp only [lf]
    by_cases c : q.testBit s = false ∧ (lf q K s).length < K
    · rw [if_pos c, List.flatMap_append, List.flatMap_cons, List.flatMap_nil, List.append_nil, ← ih]
      have hK : ((lf q K s).length + 1) * R ≤ K * R := Nat.mul_le_mul_right _ c.2
      rw [Nat.add_mul, Nat.one_mul, ← hl] at hK
      have key : ∀ r, r ≤ R → gi R q (K * R) (s * R + r) = gi R q (K * R) (s * R) ++ (List.range r).map fun r => s * R + r := by
        intro r hr
        induction r with
        | zero => simp
        | succ r ih2 =>
          have e := ih2 (by omega)
          have hlen : (gi R q (K * R) (s * R + r)).length < K * R := by rw [e, List.length_append, List.length_map, List.length_range]; omega
          rw [← Nat.add_assoc]
          simp only [gi]
          rw [sdiv (by omega : r < R), if_pos ⟨c.1, hlen⟩, e, List.range_succ, List.map_append, List.append_assoc]
          rfl
      rw [Nat.add_mul, Nat.one_mul]
      exact key R (Nat.le_refl _)
    · rw [if_neg c, ← ih]
      have key : ∀ r, r ≤ R → gi R q (K * R) (s * R + r) = gi R q (K * R) (s * R) := by
        intro r hr
        induction r with
        | zero => rfl
        | succ r ih2 =>
          have e := ih2 (by omega)
          rw [← Nat.add_assoc]
          simp only [gi]
          rw [sdiv (by omega : r < R), if_neg, e]
          rintro ⟨h1, h2⟩
          rw [e] at h2
          refine c ⟨h1, ?_⟩
          rw [hl] at h2
          exact Nat.lt_of_mul_lt_mul_right h2
      rw [Nat.add_mul, Nat.one_mul]
      exact key R (Nat.le_refl _)
theorem ls_lo (row : Nat → Nat) (R q : Nat) (ks : List (Nat × Nat)) (s : Nat) : ls row R q ks (s * R) = (lo q s).flatMap fun t => (rws R t).map fun i => (red ks (row i, 0)).2 := by
  induction s with
  | zero => simp [ls, lo]
  | succ s ih =>
    simp only [lo]
    rw [Nat.add_mul, Nat.one_mul]
    by_cases c : q.testBit s = true
    · rw [if_pos c, List.flatMap_append, List.flatMap_cons, List.flatMap_nil, List.append_nil, ← ih]
      have key : ∀ r, r ≤ R → ls row R q ks (s * R + r) = ls row R q ks (s * R) ++ ((List.range r).map fun r => s * R + r).map fun i => (red ks (row i, 0)).2 := by
        intro r hr
        induction r with
        | zero => simp
        | succ r ih2 =>
          rw [← Nat.add_assoc]
          simp only [ls]
          rw [sdiv (by omega : r < R), if_pos c, ih2 (by omega), List.range_succ, List.map_append, List.map_append, List.append_assoc]
          rfl
      exact key R (Nat.le_refl _)
    · rw [if_neg c, ← ih]
      have key : ∀ r, r ≤ R → ls row R q ks (s * R + r) = ls row R q ks (s * R) := by
        intro r hr
        induction r with
        | zero => rfl
        | succ r ih2 =>
          rw [← Nat.add_assoc]
          simp only [ls]
          rw [sdiv (by omega : r < R), if_neg c, ih2 (by omega)]
      exact key R (Nat.le_refl _)
/-- all patterns of at most m losses among the rest -/
def dfs : List (List Nat) → List Nat → Nat → Nat → List Nat → Bool
  | [], kd, _, _, lost => lost.all fun r => redD kd r == 0
  | s :: rest, kd, c, m, lost => (match m with | 0 => true | m' + 1 => dfs rest kd c m' (lost ++ s)) && (match c with | 0 => dfs rest kd 0 m lost | c' + 1 => dfs rest (s.foldl addD kd) c' m lost)
def shs (row : Nat → Nat) (R n : Nat) : List (List Nat) := (List.range n).map fun t => (rws R t).map row
theorem dfs_path (row : Nat → Nat) (R n K M q : Nat) (hm : (lo q n).length ≤ M) (s : Nat) (hs : s ≤ n)
    (h : dfs ((List.range' s (n - s)).map fun t => (rws R t).map row) (((lf q K s).flatMap (rws R)).map row |>.foldl addD []) (K - (lf q K s).length) (M - (lo q s).length) (((lo q s).flatMap (rws R)).map row) = true) :
    ∀ r ∈ ((lo q n).flatMap (rws R)).map row, redD (((lf q K n).flatMap (rws R)).map row |>.foldl addD []) r = 0 := by
  obtain ⟨d, hd⟩ : ∃ d, n - s = d := ⟨_, rfl⟩
  induction d generalizing s with
  | zero =>
    have e : s = n := by omega
    subst e
    rw [hd] at h
    simp only [List.range'_zero, List.map_nil, dfs, List.all_eq_true, beq_iff_eq] at h
    exact h
  | succ d ih =>
    rw [hd, List.range'_succ, List.map_cons] at h
    simp only [dfs, Bool.and_eq_true] at h
    refine ih (s + 1) (by omega) ?_ (by omega)
    rw [show n - (s + 1) = d by omega]
    by_cases c : q.testBit s = true
    · have e1 : lo q (s + 1) = lo q s ++ [s] := by simp only [lo]; rw [if_pos c]
      have e2 : lf q K (s + 1) = lf q K s := by simp only [lf]; rw [if_neg (by simp [c])]
      have hle : ∀ a b, a ≤ b → (lo q a).length ≤ (lo q b).length := by
        intro a b hab
        induction b with
        | zero => have : a = 0 := by omega
                  subst this; exact Nat.le_refl _
        | succ b ihb =>
          by_cases e : a = b + 1
          · subst e; exact Nat.le_refl _
          · refine Nat.le_trans (ihb (by omega)) ?_
            simp only [lo]
            split
            · rw [List.length_append]; omega
            · exact Nat.le_refl _
      have h1 := hle (s + 1) n (by omega)
      rw [e1, List.length_append, List.length_singleton] at h1
      obtain ⟨m', hm'⟩ : ∃ m', M - (lo q s).length = m' + 1 := ⟨M - (lo q s).length - 1, by omega⟩
      have h2 := h.1
      rw [hm'] at h2
      rw [e1, e2, List.length_append, List.length_singleton, List.flatMap_append, List.map_append, show M - ((lo q s).length + 1) = m' by omega]
      simpa using h2
    · have e1 : lo q (s + 1) = lo q s := by simp only [lo]; rw [if_neg c]
      have h2 := h.2
      by_cases c2 : (lf q K s).length < K
      · have e2 : lf q K (s + 1) = lf q K s ++ [s] := by simp only [lf]; rw [if_pos ⟨by simpa using c, c2⟩]
        obtain ⟨c', hc'⟩ : ∃ c', K - (lf q K s).length = c' + 1 := ⟨K - (lf q K s).length - 1, by omega⟩
        rw [hc'] at h2
        rw [e1, e2, List.length_append, List.length_singleton, List.flatMap_append, List.map_append, List.foldl_append, show K - ((lf q K s).length + 1) = c' by omega]
        simpa using h2
      · have e2 : lf q K (s + 1) = lf q K s := by simp only [lf]; rw [if_neg (fun h => c2 h.2)]
        have hc' : K - (lf q K s).length = 0 := by omega
        rw [hc'] at h2
        rw [e1, e2, hc']
        exact h2
theorem dfs_all (row : Nat → Nat) (R n K M q : Nat) (hm : (lo q n).length ≤ M) (h : dfs (shs row R n) [] K M [] = true) :
    ∀ i ∈ (lo q n).flatMap (rws R), (red (kn row ((lf q K n).flatMap (rws R))) (row i, 0)).1 = 0 := by
  intro i hi
  rw [red_fst, kn_fst]
  refine dfs_path row R n K M q hm 0 (Nat.zero_le _) ?_ _ (List.mem_map.2 ⟨i, hi, rfl⟩)
  simp only [lf, lo, List.flatMap_nil, List.map_nil, List.foldl_nil, List.length_nil, Nat.sub_zero]
  rw [← List.range_eq_range']
  exact h
/-- the same, made for the kernel: every number and every list is made whole before it is handed on -/
def fN {α : Type} (n : Nat) (k : Nat → α) : α := match n with | 0 => k 0 | m + 1 => k (Nat.succ m)
def fL {α : Type} : List Nat → (List Nat → α) → α
  | [], k => k []
  | a :: l, k => fN a fun a' => fL l fun l' => k (a' :: l')
theorem fN_eq {α : Type} (n : Nat) (k : Nat → α) : fN n k = k n := by cases n <;> rfl
theorem fL_eq {α : Type} (l : List Nat) (k : List Nat → α) : fL l k = k l := by
  induction l generalizing k with
  | nil => rfl
  | cons a l ih => simp only [fL, fN_eq, ih]
def redK : List Nat → Nat → Nat
  | [], d => d
  | k :: ks, d => cond (Nat.beq (Nat.land d (Nat.land k (Nat.sub 18446744073709551616 k))) 0) (redK ks d) (fN (Nat.xor d k) fun d' => redK ks d')
theorem redK_eq (ks : List Nat) (d : Nat) : redK ks d = redD ks d := by
  induction ks generalizing d with
  | nil => rfl
  | cons k ks ih =>
    simp only [redK, fN_eq, ih]
    unfold redD
    rw [List.foldl_cons]
    by_cases c : d &&& low k = 0
    · rw [if_pos c]
      have : Nat.beq (Nat.land d (Nat.land k (Nat.sub 18446744073709551616 k))) 0 = true := Nat.beq_eq.mpr c
      rw [this]; rfl
    · rw [if_neg c]
      have : Nat.beq (Nat.land d (Nat.land k (Nat.sub 18446744073709551616 k))) 0 = false := by
        cases e : Nat.beq (Nat.land d (Nat.land k (Nat.sub 18446744073709551616 k))) 0
        · rfl
        · exact absurd (Nat.beq_eq.mp e) c
      rw [this]; rfl
def snocK : List Nat → Nat → List Nat
  | [], x => [x]
  | a :: l, x => a :: snocK l x
theorem snocK_eq (l : List Nat) (x : Nat) : snocK l x = l ++ [x] := by
  induction l with
  | nil => rfl
  | cons a l ih => simp [snocK, ih]
def addsK {α : Type} : List Nat → List Nat → (List Nat → α) → α
  | [], kd, k => k kd
  | d :: ds, kd, k => match redK kd d with
    | 0 => addsK ds kd k
    | m + 1 => fL (snocK kd (Nat.succ m)) fun kd' => addsK ds kd' k
theorem addsK_eq {α : Type} (ds kd : List Nat) (k : List Nat → α) : addsK ds kd k = k (ds.foldl addD kd) := by
  induction ds generalizing kd with
  | nil => rfl
  | cons d ds ih =>
    simp only [addsK, List.foldl_cons, fL_eq, ih]
    unfold addD
    rw [← redK_eq]
    cases h : redK kd d with
    | zero => simp
    | succ m => simp [snocK_eq]
def allK : List Nat → List Nat → Bool
  | _, [] => true
  | kd, r :: l => match redK kd r with
    | 0 => allK kd l
    | _ + 1 => false
theorem allK_eq (kd l : List Nat) : allK kd l = l.all fun r => redD kd r == 0 := by
  induction l with
  | nil => rfl
  | cons r l ih =>
    simp only [allK, List.all_cons, ih]
    rw [← redK_eq]
    cases redK kd r with
    | zero => simp
    | succ m => simp
def dfsK : List (List Nat) → List Nat → Nat → Nat → List Nat → Bool
  | [], kd, _, _, lost => allK kd lost
  | s :: rest, kd, c, m, lost => (match m with | 0 => true | m' + 1 => fL (s ++ lost) fun lost' => dfsK rest kd c m' lost') && (match c with | 0 => dfsK rest kd 0 m lost | c' + 1 => addsK s kd fun kd' => dfsK rest kd' c' m lost)
theorem dfsK_eq (S : List (List Nat)) (kd : List Nat) (c m : Nat) (l1 l2 : List Nat) (hl : ∀ r, r ∈ l2 → r ∈ l1) (h : dfsK S kd c m l1 = true) : dfs S kd c m l2 = true := by
  induction S generalizing kd c m l1 l2 with
  | nil =>
    simp only [dfsK, dfs, allK_eq, List.all_eq_true] at *
    exact fun r hr => h r (hl r hr)
  | cons s rest ih =>
    simp only [dfsK, dfs, Bool.and_eq_true, fL_eq, addsK_eq] at *
    refine ⟨?_, ?_⟩
    · cases m with
      | zero => rfl
      | succ m => exact ih _ _ _ _ _ (by intro r hr; rw [List.mem_append] at hr ⊢; rcases hr with hr | hr; exact Or.inr (hl r hr); exact Or.inl hr) h.1
    · cases c with
      | zero => exact ih _ _ _ _ _ hl h.2
      | succ c => exact ih _ _ _ _ _ hl h.2
end Sh
end Go.Proofs.Ythhbpofcemoflab
namespace Go.Proofs.Ythhbpofcemoflab
open Go.RowKit
set_option maxRecDepth 20000
namespace Sh
/-- in which registers something stands behind some operations -/
def fl (G : Nat) (ops : List (Int × Int × Int)) (r : Nat) : Bool := decide (r < G) || ops.any fun o => o.2.1 == (r : Int)
theorem fl_append (G : Nat) (A B : List (Int × Int × Int)) (r : Nat) : fl G (A ++ B) r = (fl G A r || B.any fun o => o.2.1 == (r : Int)) := by
  simp [fl, List.any_append, Bool.or_assoc]
theorem fl_given {G : Nat} (ops : List (Int × Int × Int)) {r : Nat} (h : r < G) : fl G ops r = true := by simp [fl, h]
theorem fl_start (G r : Nat) : fl G [] r = decide (r < G) := by simp [fl]
theorem fl_more {G : Nat} {A : List (Int × Int × Int)} (B : List (Int × Int × Int)) {r : Nat} (h : fl G A r = true) : fl G (A ++ B) r = true := by rw [fl_append, h]; rfl
def StepOk (G n : Nat) (f : Nat → Bool) (o : Int × Int × Int) : Prop := ∃ t s : Nat, o.2.1 = t ∧ o.2.2 = s ∧ G ≤ t ∧ t < n ∧ s < n ∧ ((o.1 = 0 ∧ s = 0) ∨ (o.1 = 1 ∧ f s = true) ∨ (o.1 = 2 ∧ f s = true ∧ f t = true))
/-- each operation may be done where it stands -/
def Steps (G n : Nat) (pre ops : List (Int × Int × Int)) : Prop := ∀ (k : Nat) (o : Int × Int × Int), ops[k]? = some o → StepOk G n (fl G (pre ++ ops.take k)) o
theorem Steps.append {G n : Nat} {pre A B : List (Int × Int × Int)} (hA : Steps G n pre A) (hB : Steps G n (pre ++ A) B) : Steps G n pre (A ++ B) := by
  intro k o ho
  by_cases h : k < A.length
  · rw [List.getElem?_append_left h] at ho
    have := hA k o ho
    rw [List.take_append_of_le_length (by omega)]
    exact this
  · rw [List.getElem?_append_right (by omega)] at ho
    have := hB _ o ho
    rw [List.append_assoc] at this
    have e : (A ++ B).take k = A ++ B.take (k - A.length) := by rw [List.take_append, List.take_of_length_le (by omega)]
    rw [e]
    exact this
theorem Steps.nil {G n : Nat} {pre : List (Int × Int × Int)} : Steps G n pre [] := by intro k o ho; simp at ho
theorem Steps.one {G n : Nat} {pre : List (Int × Int × Int)} {o : Int × Int × Int} (h : StepOk G n (fl G pre) o) : Steps G n pre [o] := by
  intro k o' ho
  cases k with
  | zero =>
    simp at ho
    subst ho
    simpa using h
  | succ k => simp at ho
/-- a program (P11) -/
structure Snd (G O B : Nat) (ops : List (Int × Int × Int)) : Prop where
  steps : Steps G (G + O + B) [] ops
  outs : ∀ j, j < O → fl G ops (G + j) = true
theorem plO_any (sum : Int) (t k : Nat) (h : plK sum k ≠ 1) : ((plO sum t k).any fun o => o.2.1 == (t : Int)) = true := by
  induction k with
  | zero => exact absurd rfl h
  | succ k ih =>
    by_cases c : (bits .and .u64 (sum / 2 ^ k) 1 == 1) = true
    · rw [plO_t c]; simp
    · have c' : (bits .and .u64 (sum / 2 ^ k) 1 == 1) = false := by simpa using c
      rw [plO_f c']
      rw [plK_f c'] at h
      exact ih h
theorem plO_steps (sum : Int) (G n t : Nat) (hg : G ≤ t) (ht : t < n) (pre : List (Int × Int × Int)) (k : Nat) (hk : k ≤ G) : Steps G n pre (plO sum t k) := by
  induction k with
  | zero => exact Steps.nil
  | succ k ih =>
    by_cases c : (bits .and .u64 (sum / 2 ^ k) 1 == 1) = true
    · rw [plO_t c]
      refine (ih (by omega)).append (Steps.one ⟨t, k, rfl, rfl, hg, ht, by omega, ?_⟩)
      by_cases h1 : plK sum k = 1
      · exact Or.inr (Or.inl ⟨h1, fl_given _ (by omega)⟩)
      · refine Or.inr (Or.inr ⟨(plK_12 sum k).resolve_left h1, fl_given _ (by omega), ?_⟩)
        rw [fl_append, plO_any sum t k h1, Bool.or_true]
    · have c' : (bits .and .u64 (sum / 2 ^ k) 1 == 1) = false := by simpa using c
      rw [plO_f c']
      exact ih (by omega)
theorem plRow_steps (sum : Int) (G n t : Nat) (hg : G ≤ t) (ht : t < n) (pre : List (Int × Int × Int)) : Steps G n pre (plRow G sum t) := by
  unfold plRow
  refine (plO_steps sum G n t hg ht pre G (Nat.le_refl _)).append ?_
  split
  · exact Steps.one ⟨t, 0, rfl, rfl, hg, ht, by omega, Or.inl ⟨rfl, rfl⟩⟩
  · exact Steps.nil
theorem plRow_any (sum : Int) (G t : Nat) : ((plRow G sum t).any fun o => o.2.1 == (t : Int)) = true := by
  unfold plRow
  rw [List.any_append]
  by_cases c : plK sum G = 1
  · simp [c]
  · rw [plO_any sum t G c, Bool.true_or]
theorem plA_steps (G : Nat) (sums : List Int) (n : Nat) (i : Nat) (hi : G + i ≤ n) : Steps G n [] (plA G sums i) := by
  induction i with
  | zero => exact Steps.nil
  | succ i ih =>
    simp only [plA]
    refine (ih (by omega)).append ?_
    have := plRow_steps (sums.getD i 0) G n (G + i) (by omega) (by omega) ([] ++ plA G sums i)
    rw [Int.natCast_add] at this
    exact this
theorem plA_outs (G : Nat) (sums : List Int) (i : Nat) : ∀ j, j < i → fl G (plA G sums i) (G + j) = true := by
  induction i with
  | zero => intro j hj; omega
  | succ i ih =>
    intro j hj
    simp only [plA]
    by_cases e : j = i
    · subst e
      rw [fl_append]
      have := plRow_any (sums.getD j 0) G (G + j)
      rw [Int.natCast_add] at this ⊢
      rw [this, Bool.or_true]
    · exact fl_more _ (ih j (by omega))
theorem plain_snd (G : Nat) (sums : List Int) : Snd G sums.length 0 (plain G sums) :=
  ⟨plA_steps G sums _ _ (by omega), plA_outs G sums _⟩
/-- what the registers' marks look like in memory -/
def flA (G n : Nat) (f : Nat → Bool) : Array Value := ([Value.int .i64 G, Value.int .i64 n] ++ (List.range 104).map fun r => Value.bool (f r)).toArray
theorem flA_get (G n : Nat) (f : Nat → Bool) (r : Nat) (hr : r < 104) : (flA G n f)[2 + r]? = some (.bool (f r)) := by
  unfold flA
  rw [List.getElem?_toArray, List.getElem?_append_right (by simp)]
  simp [List.getElem?_range hr]
theorem flA_set (G n : Nat) (f : Nat → Bool) (t : Nat) : (flA G n f).setIfInBounds (2 + t) (.bool true) = flA G n (fun r => f r || r == t) := by
  unfold flA
  apply Array.ext'
  rw [Array.toList_setIfInBounds]
  simp only
  rw [List.set_append_right _ _ (by simp)]
  congr 1
  apply List.ext_getElem
  · simp
  · intro i h1 h2
    simp only [List.length_cons, List.length_nil, Nat.zero_add, Nat.add_sub_cancel_left, List.getElem_set, List.getElem_map, List.getElem_range]
    by_cases e : t = i
    · subst e; simp
    · rw [if_neg e]
      have : (i == t) = false := by simp; omega
      rw [this, Bool.or_false]
theorem fl_snoc (G : Nat) (ops : List (Int × Int × Int)) (k t : Nat) (o : Int × Int × Int) (h : ops[k]? = some o) (ht : o.2.1 = t) : (fun r => fl G (ops.take k) r || r == t) = fl G (ops.take (k + 1)) := by
  funext r
  obtain ⟨h1, h2⟩ := List.getElem?_eq_some_iff.1 h
  rw [List.take_succ_eq_append_getElem h1, h2, fl_append]
  congr 1
  simp only [List.any_cons, List.any_nil, Bool.or_false, ht]
  by_cases e : r = t
  · subst e; simp
  · have e1 : (r == t) = false := by simpa using e
    have e2 : ((t : Int) == (r : Int)) = false := by simp; omega
    rw [e1, e2]
theorem fl_zero (k : Nat) : (fun r => decide (r < k) || r == k) = fun r => decide (r < k + 1) := by
  funext r
  by_cases h : r < k
  · simp [h]; omega
  · by_cases e : r = k
    · subst e; simp
    · have : ¬ r < k + 1 := by omega
      simp [h, e, this]
/-- a program as bytes -/
def txt (G O B : Nat) (ops : List (Int × Int × Int)) : List Int := [(88 : Int), 80, (G : Int), (O : Int), (B : Int), (ops.length : Int) % 256, (ops.length : Int) / 256] ++ ops.flatMap fun o => [o.1, o.2.1, o.2.2]
theorem oflat_len (ops : List (Int × Int × Int)) : (ops.flatMap fun o => [o.1, o.2.1, o.2.2]).length = 3 * ops.length := by
  induction ops with
  | nil => rfl
  | cons a l ih => simp only [List.flatMap_cons, List.length_append, List.length_cons, List.length_nil] at *; omega
theorem txt_len (G O B : Nat) (ops : List (Int × Int × Int)) : (txt G O B ops).length = 7 + 3 * ops.length := by
  unfold txt
  rw [List.length_append, oflat_len]
  rfl
theorem oflat_get {ops : List (Int × Int × Int)} {k : Nat} {o : Int × Int × Int} (h : ops[k]? = some o) : (ops.flatMap fun o => [o.1, o.2.1, o.2.2])[3 * k]? = some o.1 ∧ (ops.flatMap fun o => [o.1, o.2.1, o.2.2])[3 * k + 1]? = some o.2.1 ∧ (ops.flatMap fun o => [o.1, o.2.1, o.2.2])[3 * k + 2]? = some o.2.2 := by
  induction ops generalizing k with
  | nil => simp at h
  | cons a l ih =>
    rw [List.flatMap_cons]
    cases k with
    | zero => simp at h; subst h; simp
    | succ k =>
      rw [List.getElem?_cons_succ] at h
      have := ih h
      refine ⟨?_, ?_, ?_⟩
      · rw [List.getElem?_append_right (by simp only [List.length_cons, List.length_nil]; omega)]; rw [← this.1]; congr 1
      · rw [List.getElem?_append_right (by simp only [List.length_cons, List.length_nil]; omega)]; rw [← this.2.1]; congr 1
      · rw [List.getElem?_append_right (by simp only [List.length_cons, List.length_nil]; omega)]; rw [← this.2.2]; congr 1
theorem txt_get {G O B : Nat} {ops : List (Int × Int × Int)} {k : Nat} {o : Int × Int × Int} (h : ops[k]? = some o) : (txt G O B ops)[7 + 3 * k]? = some o.1 ∧ (txt G O B ops)[7 + 3 * k + 1]? = some o.2.1 ∧ (txt G O B ops)[7 + 3 * k + 2]? = some o.2.2 := by
  have := oflat_get h
  unfold txt
  refine ⟨?_, ?_, ?_⟩
  · rw [List.getElem?_append_right (by simp only [List.length_cons, List.length_nil]; omega)]; rw [← this.1]; congr 1; simp only [List.length_cons, List.length_nil]; omega
  · rw [List.getElem?_append_right (by simp only [List.length_cons, List.length_nil]; omega)]; rw [← this.2.1]; congr 1; simp only [List.length_cons, List.length_nil]; omega
  · rw [List.getElem?_append_right (by simp only [List.length_cons, List.length_nil]; omega)]; rw [← this.2.2]; congr 1; simp only [List.length_cons, List.length_nil]; omega
theorem oflat_snoc {ops : List (Int × Int × Int)} {k : Nat} {o : Int × Int × Int} (h : ops[k]? = some o) : ((ops.take (k + 1)).flatMap fun o => [o.1, o.2.1, o.2.2]) = ((ops.take k).flatMap fun o => [o.1, o.2.1, o.2.2]) ++ [o.1, o.2.1, o.2.2] := by
  obtain ⟨h1, h2⟩ := List.getElem?_eq_some_iff.1 h
  rw [List.take_succ_eq_append_getElem h1, h2, List.flatMap_append]
  simp
theorem len_all : (List.range 2049).all (fun L => bits .or .i64 ((L % 256 : Nat) : Int) (((L / 256 : Nat) : Int) * 256) == (L : Int)) = true := by decide +kernel
theorem len_or (L : Nat) (h : L ≤ 2048) : bits .or .i64 ((L : Int) % 256) ((L : Int) / 256 * 256) = (L : Int) := by
  have := List.all_eq_true.1 len_all L (List.mem_range.2 (by omega))
  have e := beq_iff_eq.1 this
  rw [Int.natCast_emod, Int.natCast_ediv] at e
  exact e
theorem snd_byte {G O B : Nat} {ops : List (Int × Int × Int)} (h : Snd G O B ops) (hG : G ≤ 48) (hO : O ≤ 40) (hB : B ≤ 16) {k : Nat} {o : Int × Int × Int} (ho : ops[k]? = some o) : (0 ≤ o.1 ∧ o.1 ≤ 2) ∧ (0 ≤ o.2.1 ∧ o.2.1 ≤ 103) ∧ (0 ≤ o.2.2 ∧ o.2.2 ≤ 103) := by
  obtain ⟨t, s, h1, h2, h3, h4, h5, h6⟩ := h.steps k o ho
  rw [h1, h2]
  refine ⟨?_, by omega, by omega⟩
  rcases h6 with ⟨h, _⟩ | ⟨h, _⟩ | ⟨h, _⟩ <;> rw [h] <;> decide
end Sh
end Go.Proofs.Ythhbpofcemoflab
namespace Go.Proofs.Ythhbpofcemoflab
open Go.RowKit
set_option maxRecDepth 20000
namespace Sh
def Bytes (X : List (List Int)) : Prop := ∀ x ∈ X, ∀ b ∈ x, Byte b
theorem byte0 : Byte 0 := ⟨by decide, by decide⟩
theorem env0_byte {D : List (List Int)} (h : Bytes D) (i r : Nat) : Byte (env0 D i r) := by
  unfold env0
  rw [List.getD_eq_getElem?_getD, List.getD_eq_getElem?_getD]
  cases h1 : D[r]? with
  | none => exact byte0
  | some x =>
    simp only [Option.getD_some]
    cases h2 : x[i]? with
    | none => exact byte0
    | some b => exact h x (List.mem_of_getElem? h1) b (List.mem_of_getElem? h2)
theorem rowsD_bytes {R size : Nat} {X : List (List Int)} (h : Bytes X) : Bytes (rowsD R size X) := by
  intro y hy b hb
  simp only [rowsD, List.mem_flatMap, List.mem_map, List.mem_range] at hy
  obtain ⟨x, hx, q, _, rfl⟩ := hy
  exact h x hx b (List.mem_of_mem_drop (List.mem_of_mem_take hb))
theorem wrapu64 (x : Int) (h0 : 0 ≤ x) (h1 : x < 18446744073709551616) : IntKind.u64.wrap x = x := by
  rw [IntKind.wrap_u64]
  omega
theorem bits_andu (a b : Nat) (ha : a < 2 ^ 64) (hb : b < 2 ^ 64) : bits .and .u64 (a : Int) (b : Int) = ((a &&& b : Nat) : Int) := by
  have ha' : a % 2 ^ IntKind.u64.bits = a := Nat.mod_eq_of_lt ha
  have hb' : b % 2 ^ IntKind.u64.bits = b := Nat.mod_eq_of_lt hb
  have hx : a &&& b < 2 ^ 64 := Nat.and_lt_two_pow _ hb
  simp only [bits, BitVec.ofInt_natCast, BitVec.toNat_and, BitVec.toNat_ofNat, ha', hb']
  exact wrapu64 _ (by omega) (by omega)
theorem bits_oru (a b : Nat) (ha : a < 2 ^ 64) (hb : b < 2 ^ 64) : bits .or .u64 (a : Int) (b : Int) = ((a ||| b : Nat) : Int) := by
  have ha' : a % 2 ^ IntKind.u64.bits = a := Nat.mod_eq_of_lt ha
  have hb' : b % 2 ^ IntKind.u64.bits = b := Nat.mod_eq_of_lt hb
  have hx : a ||| b < 2 ^ 64 := Nat.or_lt_two_pow ha hb
  simp only [bits, BitVec.ofInt_natCast, BitVec.toNat_or, BitVec.toNat_ofNat, ha', hb']
  exact wrapu64 _ (by omega) (by omega)
theorem bits_xoru (a b : Nat) (ha : a < 2 ^ 64) (hb : b < 2 ^ 64) : bits .xor .u64 (a : Int) (b : Int) = ((a ^^^ b : Nat) : Int) := by
  have ha' : a % 2 ^ IntKind.u64.bits = a := Nat.mod_eq_of_lt ha
  have hb' : b % 2 ^ IntKind.u64.bits = b := Nat.mod_eq_of_lt hb
  have hx : a ^^^ b < 2 ^ 64 := Nat.xor_lt_two_pow ha hb
  simp only [bits, BitVec.ofInt_natCast, BitVec.toNat_xor, BitVec.toNat_ofNat, ha', hb']
  exact wrapu64 _ (by omega) (by omega)
theorem bit_nat (s k : Nat) (hs : s < 2 ^ 64) : bit (s : Int) k = s.testBit k := by
  unfold bit
  have h1 : (s : Int) / 2 ^ k = ((s / 2 ^ k : Nat) : Int) := by simp
  have h2 : s / 2 ^ k < 2 ^ 64 := Nat.lt_of_le_of_lt (Nat.div_le_self _ _) hs
  have h3 := bits_andu (s / 2 ^ k) 1 h2 (by decide)
  rw [h1]
  rw [show ((1 : Nat) : Int) = 1 from rfl] at h3
  rw [h3, Nat.and_one_is_mod, Nat.testBit_eq_decide_div_mod_eq]
  rcases Nat.mod_two_eq_zero_or_one (s / 2 ^ k) with h | h <;> rw [h] <;> decide
theorem xn_lt {s : Nat} {e : Nat → Nat} (he : ∀ r, e r < 256) (k : Nat) : xn s e k < 256 := by
  induction k with
  | zero => exact Nat.zero_lt_succ _
  | succ k ih =>
    simp only [xn]
    split
    · exact Nat.xor_lt_two_pow (n := 8) ih (he k)
    · exact ih
def nat8 (env : Nat → Int) : Nat → Nat := fun r => (env r).toNat
theorem nat8_lt {env : Nat → Int} (h : ∀ r, Byte (env r)) (r : Nat) : nat8 env r < 256 := by have := h r; unfold Byte at this; unfold nat8; omega
theorem nat8_cast {env : Nat → Int} (h : ∀ r, Byte (env r)) (r : Nat) : ((nat8 env r : Nat) : Int) = env r := Int.toNat_of_nonneg (h r).1
theorem xs_xn {s : Nat} (hs : s < 2 ^ 64) {env : Nat → Int} (h : ∀ r, Byte (env r)) (k : Nat) : xs (s : Int) env k = ((xn s (nat8 env) k : Nat) : Int) := by
  induction k with
  | zero => rfl
  | succ k ih =>
    by_cases c : s.testBit k = true
    · rw [xs_t (by rw [bit_nat s k hs]; exact c), ih]
      simp only [xn, if_pos c]
      rw [← nat8_cast h k]
      exact bx_nat _ _ (xn_lt (nat8_lt h) k) (nat8_lt h k)
    · rw [xs_f (by rw [bit_nat s k hs]; exact c), ih]
      simp only [xn, if_neg c]
/-- what a register is the sum of, as bits: as it is given, behind an operation, behind all -/
def sm0 (G r : Nat) : Nat := if r < G then 2 ^ r else 0
def smS (o : Int × Int × Int) (m : Nat → Nat) : Nat → Nat := fun r => if r = o.2.1.toNat then (if o.1 = 0 then 0 else if o.1 = 1 then m o.2.2.toNat else m o.2.1.toNat ^^^ m o.2.2.toNat) else m r
def smL (ops : List (Int × Int × Int)) (m : Nat → Nat) : Nat → Nat := ops.foldl (fun m o => smS o m) m
def sm (G : Nat) (ops : List (Int × Int × Int)) : Nat → Nat := smL ops (sm0 G)
theorem smL_append (A B : List (Int × Int × Int)) (m : Nat → Nat) : smL (A ++ B) m = smL B (smL A m) := by simp [smL, List.foldl_append]
theorem ev_smL (ops : List (Int × Int × Int)) (G : Nat) (E : Nat → Nat) (hE : ∀ r, E r < 256) : ∀ (env : Nat → Int) (m : Nat → Nat), (∀ r, env r = ((xn (m r) E G : Nat) : Int)) → ∀ r, ev ops env r = ((xn (smL ops m r) E G : Nat) : Int) := by
  induction ops with
  | nil => intro env m h r; exact h r
  | cons o ops ih =>
    intro env m h r
    show ev ops (stepE o env) r = ((xn (smL ops (smS o m) r) E G : Nat) : Int)
    refine ih (stepE o env) (smS o m) ?_ r
    intro r
    unfold stepE smS
    by_cases hr : r = o.2.1.toNat
    · rw [if_pos hr, if_pos hr]
      unfold nv
      by_cases h0 : o.1 = 0
      · rw [if_pos h0, if_pos h0, xn_zero]
        rfl
      · rw [if_neg h0, if_neg h0]
        by_cases h1 : o.1 = 1
        · rw [if_pos h1, if_pos h1]
          exact h _
        · rw [if_neg h1, if_neg h1, xn_xor, h, h]
          exact bx_nat _ _ (xn_lt hE G) (xn_lt hE G)
    · rw [if_neg hr, if_neg hr]
      exact h r
/-- a program's registers are the sums of what they mean -/
theorem ev_sm (ops : List (Int × Int × Int)) (G : Nat) (env : Nat → Int) (hb : ∀ r, Byte (env r)) (h0 : ∀ r, G ≤ r → env r = 0) (r : Nat) : ev ops env r = ((xn (sm G ops r) (nat8 env) G : Nat) : Int) := by
  refine ev_smL ops G (nat8 env) (nat8_lt hb) env (sm0 G) ?_ r
  intro r
  unfold sm0
  by_cases hr : r < G
  · rw [if_pos hr, xn_pow, if_pos hr, nat8_cast hb]
  · rw [if_neg hr, xn_zero, h0 r (by omega)]
    rfl
/-- two programs of one meaning give the same registers -/
theorem regAt_means {G size j : Nat} {ops : List (Int × Int × Int)} {sums : List Int} {D : List (List Int)} (hD : D.length = G) (hb : Bytes D) (hj : j < sums.length) (s : Nat) (hs : sums.getD j 0 = (s : Int)) (hs2 : s < 2 ^ 64) (hm : sm G ops (G + j) = s) : regAt ops D G size size size 0 j = regAt (plain G sums) D G size size size 0 j := by
  unfold regAt
  apply List.map_congr_left
  intro i hi
  rw [List.mem_range] at hi
  rw [if_pos hi, if_pos hi, ev_sm ops G _ (env0_byte hb i) (fun r hr => env0_out hD i r hr), hm, ev_plain G sums _ (fun r _ => env0_byte hb i r) j hj, hs, xs_xn hs2 (env0_byte hb i)]
end Sh
end Go.Proofs.Ythhbpofcemoflab
namespace Go.Proofs.Ythhbpofcemoflab
open Go.RowKit
set_option maxRecDepth 20000
namespace Sh
/-- the bits of a number, in their order -/
def bl (s : Nat) : Nat → List Nat
  | 0 => []
  | n + 1 => if s.testBit n = true then bl s n ++ [n] else bl s n
theorem bl_t {s n : Nat} (h : s.testBit n = true) : bl s (n + 1) = bl s n ++ [n] := if_pos h
theorem bl_f {s n : Nat} (h : s.testBit n = false) : bl s (n + 1) = bl s n := if_neg (by simp [h])
theorem bl_mem {s n x : Nat} : x ∈ bl s n ↔ x < n ∧ s.testBit x = true := by
  induction n with
  | zero => simp [bl]
  | succ n ih =>
    cases c : s.testBit n
    · rw [bl_f c, ih]
      constructor
      · intro h; exact ⟨by omega, h.2⟩
      · intro h
        refine ⟨?_, h.2⟩
        rcases Nat.lt_or_eq_of_le (Nat.le_of_lt_succ h.1) with h1 | h1
        · exact h1
        · subst h1; rw [c] at h; exact absurd h.2 (by decide)
    · rw [bl_t c, List.mem_append, ih, List.mem_singleton]
      constructor
      · rintro (h | h)
        · exact ⟨by omega, h.2⟩
        · subst h; exact ⟨by omega, c⟩
      · intro h
        rcases Nat.lt_or_eq_of_le (Nat.le_of_lt_succ h.1) with h1 | h1
        · exact Or.inl ⟨h1, h.2⟩
        · exact Or.inr h1
theorem tb_hi {s n i : Nat} (h : s < 2 ^ n) (hi : n ≤ i) : s.testBit i = false := Nat.testBit_lt_two_pow (Nat.lt_of_lt_of_le h (Nat.pow_le_pow_right (by decide) hi))
theorem bl_stop {s n m : Nat} (h : s < 2 ^ n) (hm : n ≤ m) : bl s m = bl s n := by
  obtain ⟨d, rfl⟩ := Nat.exists_eq_add_of_le hm
  induction d with
  | zero => rfl
  | succ d ih =>
    have := bl_f (s := s) (n := n + d) (tb_hi h (by omega))
    rw [Nat.add_succ, this, ih (by omega)]
theorem bl_end {s n : Nat} (h : s / 2 ^ n = 0) (hn : n ≤ 64) : bl s 64 = bl s n := bl_stop (by
  rcases (Nat.div_eq_zero_iff.1 h) with h | h
  · have : 0 < 2 ^ n := Nat.pos_of_ne_zero (by exact Nat.pos_iff_ne_zero.1 (Nat.pow_pos (by decide)))
    omega
  · exact h) hn
/-- how many ones -/
def pcF : Nat → Nat → Nat
  | 0, _ => 0
  | n + 1, s => s % 2 + pcF n (s / 2)
def pc (s : Nat) : Nat := pcF 64 s
theorem pcF_top (n : Nat) : ∀ s, pcF (n + 1) s = pcF n s + (s.testBit n).toNat := by
  induction n with
  | zero =>
    intro s
    simp only [pcF, Nat.testBit_zero]
    rcases Nat.mod_two_eq_zero_or_one s with h | h <;> simp [h]
  | succ n ih =>
    intro s
    rw [pcF, ih (s / 2), Nat.testBit_div_two]
    conv => rhs; rw [pcF]
    omega
theorem pc_bl (n s : Nat) : (bl s n).length = pcF n s := by
  induction n with
  | zero => rfl
  | succ n ih =>
    rw [pcF_top]
    cases c : s.testBit n
    · rw [bl_f c, ih]; rfl
    · rw [bl_t c, List.length_append, ih]; rfl
theorem pcF_step (n : Nat) : ∀ s, s ≠ 0 → s < 2 ^ n → pcF n (s &&& (s - 1)) + 1 = pcF n s := by
  induction n with
  | zero => intro s h0 h1; simp at h1; omega
  | succ n ih =>
    intro s h0 h1
    simp only [pcF]
    rw [Nat.and_div_two]
    have hm : (s &&& (s - 1)) % 2 = 0 := by
      rcases Nat.mod_two_eq_zero_or_one (s &&& (s - 1)) with h | h
      · exact h
      · rw [Nat.and_mod_two_eq_one] at h; omega
    rw [hm]
    rcases Nat.mod_two_eq_zero_or_one s with h | h
    · have e : (s - 1) / 2 = s / 2 - 1 := by omega
      rw [e, h]
      have := ih (s / 2) (by omega) (by rw [Nat.pow_succ] at h1; omega)
      omega
    · have e : (s - 1) / 2 = s / 2 := by omega
      rw [e, h, Nat.and_self]
      omega
theorem pc_step {s : Nat} (h0 : s ≠ 0) (h1 : s < 2 ^ 64) : pc (s &&& (s - 1)) + 1 = pc s := pcF_step 64 s h0 h1
theorem pcF_zero (n : Nat) : pcF n 0 = 0 := by
  induction n with
  | zero => rfl
  | succ n ih => simp [pcF, ih]
theorem pc_zero : pc 0 = 0 := pcF_zero 64
theorem pcF_le (n : Nat) : ∀ s, pcF n s ≤ n := by
  induction n with
  | zero => intro s; exact Nat.le_refl _
  | succ n ih => intro s; have := ih (s / 2); simp only [pcF]; omega
theorem pc_le_of {s n : Nat} (h : s < 2 ^ n) (hn : n ≤ 64) : pc s ≤ n := by
  unfold pc
  rw [← pc_bl, bl_stop h hn, pc_bl]
  exact pcF_le n s
theorem pc_pos {s : Nat} (h0 : s ≠ 0) (h1 : s < 2 ^ 64) : 1 ≤ pc s := by have := pc_step h0 h1; omega
/-- the operations that lay registers into one -/
def layK (kd : Int) (l : List Nat) : Int := if l = [] then kd else 2
def layO (kd t : Int) : List Nat → List (Int × Int × Int)
  | [] => []
  | f :: r => (kd, t, (f : Int)) :: r.map fun (x : Nat) => (2, t, (x : Int))
theorem layO_snoc (kd t : Int) (l : List Nat) (x : Nat) : layO kd t (l ++ [x]) = layO kd t l ++ [(layK kd l, t, (x : Int))] := by
  cases l with
  | nil => rfl
  | cons f r => simp [layO, layK]
theorem layK_snoc (kd : Int) (l : List Nat) (x : Nat) : layK kd (l ++ [x]) = 2 := if_neg (by simp)
theorem layO_len (kd t : Int) (l : List Nat) : (layO kd t l).length = l.length := by cases l <;> simp [layO]
def trm (G O i : Nat) : Nat := if i < G then i else i + O
def addN (G O : Nat) (kd t : Int) (s n : Nat) : List (Int × Int × Int) := layO kd t ((bl s n).map (trm G O))
def addO (G O : Nat) (kd t : Int) (s : Nat) : List (Int × Int × Int) := addN G O kd t s 64
def addK (kd : Int) (s n : Nat) : Int := layK kd (bl s n)
theorem addN_t {G O : Nat} {kd t : Int} {s n : Nat} (h : s.testBit n = true) : addN G O kd t s (n + 1) = addN G O kd t s n ++ [(addK kd s n, t, ((trm G O n : Nat) : Int))] := by
  unfold addN
  rw [bl_t h, List.map_append, List.map_singleton, layO_snoc]
  unfold addK layK
  simp
theorem addN_f {G O : Nat} {kd t : Int} {s n : Nat} (h : s.testBit n = false) : addN G O kd t s (n + 1) = addN G O kd t s n := by unfold addN; rw [bl_f h]
theorem addK_t {kd : Int} {s n : Nat} (h : s.testBit n = true) : addK kd s (n + 1) = 2 := by unfold addK; rw [bl_t h, layK_snoc]
theorem addK_f {kd : Int} {s n : Nat} (h : s.testBit n = false) : addK kd s (n + 1) = addK kd s n := by unfold addK; rw [bl_f h]
theorem addN_len (G O : Nat) (kd t : Int) (s n : Nat) : (addN G O kd t s n).length = pcF n s := by unfold addN; rw [layO_len, List.length_map, pc_bl]
theorem addN_end {G O : Nat} {kd t : Int} {s n : Nat} (h : s / 2 ^ n = 0) (hn : n ≤ 64) : addO G O kd t s = addN G O kd t s n := by unfold addO addN; rw [bl_end h hn]
def sumO (G O : Nat) (t : Int) (s : Nat) : List (Int × Int × Int) := if s = 0 then [(0, t, 0)] else addO G O 1 t s
theorem sumO_len (G O : Nat) (t : Int) (s : Nat) : (sumO G O t s).length ≤ 64 := by
  unfold sumO
  split
  · simp
  · unfold addO; rw [addN_len]; exact pcF_le 64 s
def sumsO (G O : Nat) (S : List Nat) : Nat → List (Int × Int × Int)
  | 0 => []
  | i + 1 => sumsO G O S i ++ sumO G O ((G + i : Nat) : Int) (S.getD i 0)
theorem sumsO_len (G O : Nat) (S : List Nat) (i : Nat) : (sumsO G O S i).length ≤ 64 * i := by
  induction i with
  | zero => exact Nat.le_refl _
  | succ i ih =>
    have := sumO_len G O ((G + i : Nat) : Int) (S.getD i 0)
    simp only [sumsO, List.length_append]
    omega
/-- the plain program is that of the sums -/
theorem plO_addN {s t : Nat} (G O : Nat) (hs : s < 2 ^ 64) (k : Nat) (hk : k ≤ G) : plO (s : Int) (t : Int) k = addN G O 1 (t : Int) s k ∧ plK (s : Int) k = addK 1 s k := by
  induction k with
  | zero => exact ⟨rfl, rfl⟩
  | succ k ih =>
    obtain ⟨h1, h2⟩ := ih (by omega)
    have hb := bit_nat s k hs
    unfold bit at hb
    cases c : s.testBit k
    · rw [c] at hb
      exact ⟨by rw [plO_f hb, addN_f c, h1], by rw [plK_f hb, addK_f c, h2]⟩
    · rw [c] at hb
      refine ⟨?_, by rw [plK_t hb, addK_t c]⟩
      rw [plO_t hb, addN_t c, h1, h2]
      unfold trm
      rw [if_pos (by omega)]
theorem bl_nil {s n : Nat} (h : s < 2 ^ n) : bl s n = [] ↔ s = 0 := by
  constructor
  · intro e
    apply Nat.eq_of_testBit_eq
    intro i
    rw [Nat.zero_testBit]
    cases c : s.testBit i
    · rfl
    · have hi : i < n := by
        apply Decidable.byContradiction
        intro hi
        rw [tb_hi h (by omega)] at c
        cases c
      have := bl_mem.2 ⟨hi, c⟩
      rw [e] at this
      simp at this
  · intro e
    subst e
    have : ∀ x ∉ bl 0 n, True := fun _ _ => trivial
    apply List.eq_nil_iff_forall_not_mem.2
    intro x hx
    have := (bl_mem.1 hx).2
    simp at this
theorem plRow_sumO {G O s t : Nat} (hs : s < 2 ^ G) (hG : G ≤ 64) : plRow G (s : Int) (t : Int) = sumO G O (t : Int) s := by
  have h64 : s < 2 ^ 64 := Nat.lt_of_lt_of_le hs (Nat.pow_le_pow_right (by decide) hG)
  obtain ⟨h1, h2⟩ := plO_addN (t := t) G O h64 G (Nat.le_refl _)
  unfold plRow sumO
  rw [h1, h2]
  by_cases c : s = 0
  · subst c
    have e : bl 0 G = [] := (bl_nil (Nat.pow_pos (by decide))).2 rfl
    have e1 : addN G O 1 (t : Int) 0 G = [] := by unfold addN; rw [e]; rfl
    have e2 : addK 1 0 G = 1 := by unfold addK; rw [e]; rfl
    rw [e1, e2, if_pos rfl, if_pos (by decide)]
    rfl
  · have e : bl s G ≠ [] := fun h => c ((bl_nil hs).1 h)
    have e2 : addK 1 s G = 2 := by unfold addK layK; rw [if_neg e]
    rw [e2, if_neg c, if_neg (by decide), List.append_nil]
    unfold addO addN
    rw [bl_stop hs hG]
theorem plain_sumsO {G : Nat} (S : List Nat) (hG : G ≤ 64) (hS : ∀ s ∈ S, s < 2 ^ G) : plain G (S.map Int.ofNat) = sumsO G S.length S S.length := by
  unfold plain
  rw [List.length_map]
  have : ∀ i, i ≤ S.length → plA G (S.map Int.ofNat) i = sumsO G S.length S i := by
    intro i hi
    induction i with
    | zero => rfl
    | succ i ih =>
      have hx : i < S.length := by omega
      have e1 : (S.map Int.ofNat).getD i 0 = ((S.getD i 0 : Nat) : Int) := by
        simp [List.getD_eq_getElem?_getD, List.getElem?_eq_getElem hx]
      have e2 : S.getD i 0 < 2 ^ G := by
        rw [List.getD_eq_getElem?_getD, List.getElem?_eq_getElem hx]
        exact hS _ (List.getElem_mem hx)
      simp only [plA, sumsO]
      rw [ih (by omega), e1, ← Int.natCast_add, plRow_sumO (O := S.length) e2 hG]
  exact this _ (Nat.le_refl _)
end Sh
end Go.Proofs.Ythhbpofcemoflab
namespace Go.Proofs.Ythhbpofcemoflab
open Go.RowKit
set_option maxRecDepth 20000
namespace Sh
/-- the sum of what stands in some registers -/
def xl (m : Nat → Nat) : List Nat → Nat
  | [] => 0
  | f :: r => m f ^^^ xl m r
theorem xl_congr {m m' : Nat → Nat} {l : List Nat} (h : ∀ f ∈ l, m f = m' f) : xl m l = xl m' l := by
  induction l with
  | nil => rfl
  | cons f r ih => simp only [xl]; rw [h f (by simp), ih (fun g hg => h g (by simp [hg]))]
theorem xl_append (m : Nat → Nat) (l : List Nat) (x : Nat) : xl m (l ++ [x]) = xl m l ^^^ m x := by
  induction l with
  | nil => simp [xl]
  | cons f r ih => simp only [List.cons_append, xl]; rw [ih, Nat.xor_assoc]
theorem xl_map (m : Nat → Nat) (g : Nat → Nat) (l : List Nat) : xl m (l.map g) = xl (fun x => m (g x)) l := by
  induction l with
  | nil => rfl
  | cons f r ih => simp only [List.map_cons, xl]; rw [ih]
theorem xl_bl (s n : Nat) : xl (fun x => 2 ^ x) (bl s n) = s % 2 ^ n := by
  induction n with
  | zero => simp [bl, xl, Nat.mod_one]
  | succ n ih =>
    apply Nat.eq_of_testBit_eq
    intro i
    cases c : s.testBit n
    · rw [bl_f c, ih, Nat.testBit_mod_two_pow, Nat.testBit_mod_two_pow]
      by_cases h1 : i < n
      · simp [h1, show i < n + 1 by omega]
      · by_cases h2 : i = n
        · subst h2; simp [c]
        · simp [h1, show ¬ i < n + 1 by omega]
    · rw [bl_t c, xl_append, ih, Nat.testBit_xor, Nat.testBit_mod_two_pow, Nat.testBit_mod_two_pow, Nat.testBit_two_pow]
      by_cases h1 : i < n
      · simp [h1, show i < n + 1 by omega, show ¬ n = i by omega]
      · by_cases h2 : i = n
        · subst h2; simp [c]
        · simp [h1, show ¬ i < n + 1 by omega, show ¬ n = i by omega]
theorem sm_two (t : Nat) (l : List Nat) (ht : t ∉ l) : ∀ m : Nat → Nat, smL (l.map fun (x : Nat) => ((2 : Int), (t : Int), (x : Int))) m = fun r => if r = t then m t ^^^ xl m l else m r := by
  induction l with
  | nil =>
    intro m
    funext r
    simp only [List.map_nil, smL, List.foldl_nil, xl, Nat.xor_zero]
    split
    · next h => rw [h]
    · rfl
  | cons f l ih =>
    intro m
    have hf : f ≠ t := fun h => ht (by simp [h])
    show smL (l.map fun (x : Nat) => ((2 : Int), (t : Int), (x : Int))) (smS (2, (t : Int), (f : Int)) m) = _
    rw [ih (fun h => ht (by simp [h]))]
    funext r
    simp only [smS, Int.toNat_natCast]
    by_cases hr : r = t
    · rw [if_pos hr, if_pos hr, if_pos trivial, if_neg (by decide), if_neg (by decide), xl, Nat.xor_assoc]
      congr 2
      apply xl_congr
      intro g hg
      have hgt : g ≠ t := fun h => ht (by subst h; simp [hg])
      simp only [smS, Int.toNat_natCast]
      rw [if_neg hgt]
    · rw [if_neg hr, if_neg hr, if_neg hr]
theorem sm_one (t : Nat) (l : List Nat) (ht : t ∉ l) (hl : l ≠ []) (m : Nat → Nat) : smL (layO 1 (t : Int) l) m = fun r => if r = t then xl m l else m r := by
  cases l with
  | nil => exact absurd rfl hl
  | cons f l =>
    have hf : f ≠ t := fun h => ht (by simp [h])
    show smL (l.map fun (x : Nat) => ((2 : Int), (t : Int), (x : Int))) (smS (1, (t : Int), (f : Int)) m) = _
    rw [sm_two t l (fun h => ht (by simp [h]))]
    funext r
    simp only [smS, Int.toNat_natCast]
    by_cases hr : r = t
    · rw [if_pos hr, if_pos hr, if_pos trivial, if_neg (by decide), if_pos trivial, xl]
      congr 1
      apply xl_congr
      intro g hg
      have hgt : g ≠ t := fun h => ht (by subst h; simp [hg])
      simp only [smS, Int.toNat_natCast]
      rw [if_neg hgt]
    · rw [if_neg hr, if_neg hr, if_neg hr]
theorem sm_nought (t : Nat) (m : Nat → Nat) : smL [((0 : Int), (t : Int), (0 : Int))] m = fun r => if r = t then 0 else m r := by
  funext r
  simp only [smL, List.foldl_cons, List.foldl_nil, smS, Int.toNat_natCast]
  split
  · rw [if_pos trivial]
  · rfl
theorem Steps.mono {G n n' : Nat} {pre ops : List (Int × Int × Int)} (h : Steps G n pre ops) (hn : n ≤ n') : Steps G n' pre ops := by
  intro k o ho
  obtain ⟨t, s, h1, h2, h3, h4, h5, h6⟩ := h k o ho
  exact ⟨t, s, h1, h2, h3, by omega, by omega, h6⟩
theorem steps_two (G n t : Nat) (hG : G ≤ t) (ht : t < n) (l : List Nat) : ∀ pre : List (Int × Int × Int), (∀ f ∈ l, f < n ∧ fl G pre f = true) → fl G pre t = true → Steps G n pre (l.map fun (x : Nat) => ((2 : Int), (t : Int), (x : Int))) := by
  induction l with
  | nil => intro pre _ _; exact Steps.nil
  | cons f l ih =>
    intro pre h1 h2
    have hf := h1 f (by simp)
    refine Steps.append (A := [((2 : Int), (t : Int), (f : Int))]) (Steps.one ⟨t, f, rfl, rfl, hG, ht, hf.1, Or.inr (Or.inr ⟨rfl, hf.2, h2⟩)⟩) ?_
    exact ih _ (fun g hg => ⟨(h1 g (by simp [hg])).1, fl_more _ (h1 g (by simp [hg])).2⟩) (fl_more _ h2)
theorem steps_one (G n t : Nat) (hG : G ≤ t) (ht : t < n) (l : List Nat) (pre : List (Int × Int × Int)) (h1 : ∀ f ∈ l, f < n ∧ fl G pre f = true) : Steps G n pre (layO 1 (t : Int) l) := by
  cases l with
  | nil => exact Steps.nil
  | cons f l =>
    have hf := h1 f (by simp)
    refine Steps.append (A := [((1 : Int), (t : Int), (f : Int))]) (Steps.one ⟨t, f, rfl, rfl, hG, ht, hf.1, Or.inr (Or.inl ⟨rfl, hf.2⟩)⟩) ?_
    refine steps_two G n t hG ht l _ (fun g hg => ⟨(h1 g (by simp [hg])).1, fl_more _ (h1 g (by simp [hg])).2⟩) ?_
    rw [fl_append]
    simp
theorem any_lay (kd : Int) (t : Nat) (l : List Nat) (hl : l ≠ []) (r : Nat) : ((layO kd (t : Int) l).any fun o => o.2.1 == (r : Int)) = (r == t) := by
  cases l with
  | nil => exact absurd rfl hl
  | cons f l =>
    simp only [layO, List.any_cons, List.any_map]
    by_cases h : r = t
    · subst h; simp
    · have e1 : ((t : Int) == (r : Int)) = false := by simp; omega
      have e2 : (r == t) = false := by simpa using h
      rw [e1, e2, Bool.false_or]
      apply List.any_eq_false.2
      intro x _
      simp only [Function.comp]
      rw [e1]
      decide
/-- exclusive ors -/
def xr (ops : List (Int × Int × Int)) : Nat := (ops.filter fun o => o.1 == 2).length
theorem xr_append (A B : List (Int × Int × Int)) : xr (A ++ B) = xr A + xr B := by simp [xr]
theorem xr_two (t : Int) (l : List Nat) : xr (l.map fun (x : Nat) => ((2 : Int), t, (x : Int))) = l.length := by
  induction l with
  | nil => rfl
  | cons f l ih =>
    unfold xr at *
    rw [List.map_cons, List.filter_cons_of_pos (by simp), List.length_cons, ih, List.length_cons]
theorem xr_one (t : Int) (l : List Nat) : xr (layO 1 t l) = l.length - 1 := by
  cases l with
  | nil => rfl
  | cons f l =>
    have := xr_two t l
    unfold xr at *
    rw [layO, List.filter_cons_of_neg (by simp), this, List.length_cons]
    omega
/-- a program that is being made -/
structure Bd (G n : Nat) (ops : List (Int × Int × Int)) : Prop where
  steps : Steps G n [] ops
  ne : ∀ o ∈ ops, o.2.1 ≠ o.2.2
  giv : ∀ r, r < G → sm G ops r = 2 ^ r
theorem Bd.mono {G n n' : Nat} {ops : List (Int × Int × Int)} (h : Bd G n ops) (hn : n ≤ n') : Bd G n' ops := ⟨h.steps.mono hn, h.ne, h.giv⟩
theorem Bd.nil (G n : Nat) : Bd G n [] := ⟨Steps.nil, by simp, fun r hr => by simp [sm, smL, sm0, hr]⟩
theorem Bd.lay {G n : Nat} {ops : List (Int × Int × Int)} (h : Bd G n ops) (t : Nat) (hG : G ≤ t) (ht : t < n) (l : List Nat) (hl : l ≠ []) (hf : ∀ f ∈ l, f < n ∧ f ≠ t ∧ fl G ops f = true) :
    Bd G n (ops ++ layO 1 (t : Int) l) ∧ (∀ r, sm G (ops ++ layO 1 (t : Int) l) r = if r = t then xl (sm G ops) l else sm G ops r) ∧ (∀ r, fl G (ops ++ layO 1 (t : Int) l) r = (fl G ops r || r == t)) := by
  have hm : ∀ r, sm G (ops ++ layO 1 (t : Int) l) r = if r = t then xl (sm G ops) l else sm G ops r := by
    intro r
    show smL (ops ++ layO 1 (t : Int) l) (sm0 G) r = _
    rw [smL_append, sm_one t l (fun h => (hf t h).2.1 rfl) hl]
    rfl
  refine ⟨⟨h.steps.append (by rw [List.nil_append]; exact steps_one G n t hG ht l ops (fun f h => ⟨(hf f h).1, (hf f h).2.2⟩)), ?_, ?_⟩, hm, ?_⟩
  · intro o ho
    rw [List.mem_append] at ho
    rcases ho with ho | ho
    · exact h.ne o ho
    · cases l with
      | nil => exact absurd rfl hl
      | cons f l =>
        simp only [layO, List.mem_cons, List.mem_map] at ho
        rcases ho with rfl | ⟨x, hx, rfl⟩
        · have := (hf f (by simp)).2.1; simp only; omega
        · have := (hf x (by simp [hx])).2.1; simp only; omega
  · intro r hr
    rw [hm, if_neg (by omega)]
    exact h.giv r hr
  · intro r
    rw [fl_append, any_lay 1 t l hl r]
theorem Bd.zero {G n : Nat} {ops : List (Int × Int × Int)} (h : Bd G n ops) (t : Nat) (hG1 : 1 ≤ G) (hG : G ≤ t) (ht : t < n) :
    Bd G n (ops ++ [((0 : Int), (t : Int), (0 : Int))]) ∧ (∀ r, sm G (ops ++ [((0 : Int), (t : Int), (0 : Int))]) r = if r = t then 0 else sm G ops r) ∧ (∀ r, fl G (ops ++ [((0 : Int), (t : Int), (0 : Int))]) r = (fl G ops r || r == t)) := by
  have hm : ∀ r, sm G (ops ++ [((0 : Int), (t : Int), (0 : Int))]) r = if r = t then 0 else sm G ops r := by
    intro r
    show smL (ops ++ [((0 : Int), (t : Int), (0 : Int))]) (sm0 G) r = _
    rw [smL_append, sm_nought]
    rfl
  refine ⟨⟨h.steps.append (Steps.one ⟨t, 0, rfl, rfl, hG, ht, by omega, Or.inl ⟨rfl, rfl⟩⟩), ?_, ?_⟩, hm, ?_⟩
  · intro o ho
    rw [List.mem_append, List.mem_singleton] at ho
    rcases ho with ho | rfl
    · exact h.ne o ho
    · simp only; omega
  · intro r hr
    rw [hm, if_neg (by omega)]
    exact h.giv r hr
  · intro r
    rw [fl_append]
    simp only [List.any_cons, List.any_nil, Bool.or_false]
    congr 1
    by_cases h : r = t
    · subst h; simp
    · have e1 : ((t : Int) == (r : Int)) = false := by simp; omega
      have e2 : (r == t) = false := by simpa using h
      rw [e1, e2]
/-- a register becomes the sum of terms -/
theorem Bd.sum {G n : Nat} {ops : List (Int × Int × Int)} (h : Bd G n ops) (O t s : Nat) (hG1 : 1 ≤ G) (hG : G ≤ t) (ht : t < n) (hs : s < 2 ^ 64) (hf : ∀ x, s.testBit x = true → trm G O x < n ∧ trm G O x ≠ t ∧ fl G ops (trm G O x) = true) :
    Bd G n (ops ++ sumO G O (t : Int) s) ∧ (∀ r, sm G (ops ++ sumO G O (t : Int) s) r = if r = t then xl (fun x => sm G ops (trm G O x)) (bl s 64) else sm G ops r) ∧ (∀ r, fl G (ops ++ sumO G O (t : Int) s) r = (fl G ops r || r == t)) := by
  unfold sumO
  by_cases c : s = 0
  · rw [if_pos c]
    have e : bl s 64 = [] := (bl_nil hs).2 c
    rw [e]
    exact h.zero t hG1 hG ht
  · rw [if_neg c]
    have e : bl s 64 ≠ [] := fun h => c ((bl_nil hs).1 h)
    have := h.lay t hG ht ((bl s 64).map (trm G O)) (by simpa using e) (by
      intro f hf'
      obtain ⟨x, hx, rfl⟩ := List.mem_map.1 hf'
      exact hf x (bl_mem.1 hx).2)
    rw [xl_map] at this
    exact this
theorem xr_sum (G O t s : Nat) : xr (sumO G O (t : Int) s) = pc s - 1 := by
  unfold sumO
  split
  · next h => subst h; rw [pc_zero]; rfl
  · unfold addO addN; rw [xr_one, List.length_map, pc_bl]; rfl
/-- a good program: to these sums -/
structure Good (G : Nat) (S : List Nat) (B : Nat) (ops : List (Int × Int × Int)) : Prop where
  hB : B ≤ 16
  pos : 1 ≤ ops.length
  len : ops.length ≤ 2048
  ok : ∀ o ∈ ops, OpOk G (G + S.length + B) o
  snd : Snd G S.length B ops
  means : ∀ j, j < S.length → sm G ops (G + j) = S.getD j 0
theorem Bd.good {G B : Nat} {S : List Nat} {ops : List (Int × Int × Int)} (h : Bd G (G + S.length + B) ops) (hB : B ≤ 16) (hS : 1 ≤ S.length) (hl : ops.length ≤ 2048) (ho : ∀ j, j < S.length → fl G ops (G + j) = true ∧ sm G ops (G + j) = S.getD j 0) : Good G S B ops := by
  refine ⟨hB, ?_, hl, ?_, ⟨h.steps, fun j hj => (ho j hj).1⟩, fun j hj => (ho j hj).2⟩
  · cases e : ops with
    | nil =>
      have := (ho 0 hS).1
      rw [e, fl_start] at this
      simp at this
    | cons a l => simp
  · intro o hm
    obtain ⟨k, hk⟩ := List.getElem?_of_mem hm
    obtain ⟨t, s, h1, h2, h3, h4, h5, h6⟩ := h.steps k o hk
    have hne := h.ne o hm
    refine ⟨?_, t, s, h1, h2, h3, h4, h5, ?_⟩
    · rcases h6 with ⟨h, _⟩ | ⟨h, _⟩ | ⟨h, _⟩
      · exact Or.inl h
      · exact Or.inr (Or.inl h)
      · exact Or.inr (Or.inr h)
    · intro e
      apply hne
      rw [h1, h2, e]
/-- sums of numbers -/
def sumR (f : Nat → Nat) : Nat → Nat
  | 0 => 0
  | n + 1 => sumR f n + f n
theorem sumR_congr {f g : Nat → Nat} {n : Nat} (h : ∀ i, i < n → f i = g i) : sumR f n = sumR g n := by
  induction n with
  | zero => rfl
  | succ n ih => simp only [sumR]; rw [ih (fun i hi => h i (by omega)), h n (by omega)]
theorem sumR_add (f g : Nat → Nat) (n : Nat) : sumR (fun i => f i + g i) n = sumR f n + sumR g n := by
  induction n with
  | zero => rfl
  | succ n ih => simp only [sumR]; rw [ih]; omega
theorem sumR_le {f g : Nat → Nat} {n : Nat} (h : ∀ i, i < n → f i ≤ g i) : sumR f n ≤ sumR g n := by
  induction n with
  | zero => exact Nat.le_refl _
  | succ n ih => simp only [sumR]; have := ih (fun i hi => h i (by omega)); have := h n (by omega); omega
theorem sumR_one (c : Nat) (j : Nat) : ∀ n, sumR (fun i => if i = j then c else 0) n = if j < n then c else 0 := by
  intro n
  induction n with
  | zero => rfl
  | succ n ih =>
    simp only [sumR]
    rw [ih]
    by_cases h1 : j < n
    · rw [if_pos h1, if_neg (by omega), if_pos (by omega)]; omega
    · rw [if_neg h1]
      by_cases h2 : n = j
      · rw [if_pos h2, if_pos (by omega)]; omega
      · rw [if_neg h2, if_neg (by omega)]
theorem sumR_set {f g : Nat → Nat} {n j c : Nat} (hj : j < n) (h1 : g j = f j + c) (h2 : ∀ i, i < n → i ≠ j → g i = f i) : sumR g n = sumR f n + c := by
  have : sumR g n = sumR (fun i => f i + (if i = j then c else 0)) n := by
    apply sumR_congr
    intro i hi
    by_cases e : i = j
    · subst e; rw [if_pos rfl]; exact h1
    · rw [if_neg e, h2 i hi e]; rfl
  rw [this, sumR_add, sumR_one, if_pos hj]
theorem xr_sums (G O : Nat) (S : List Nat) (i : Nat) : xr (sumsO G O S i) = sumR (fun j => pc (S.getD j 0) - 1) i := by
  induction i with
  | zero => rfl
  | succ i ih => simp only [sumsO, sumR]; rw [xr_append, ih, xr_sum]
end Sh
end Go.Proofs.Ythhbpofcemoflab
