import Derived.Test.YtfnfnmonnfcpeabPure11
namespace Go.Proofs.Ytfnfnmonnfcpeab
open Go.RowKit
set_option maxRecDepth 20000
namespace Sh
/-- the sum of those rows whose bit is in s -/
def xn (s : Nat) (env : Nat → Nat) : Nat → Nat
  | 0 => 0
  | k + 1 => if s.testBit k = true then xn s env k ^^^ env k else xn s env k
theorem xr4 (a b c d : Nat) : (a ^^^ b) ^^^ (c ^^^ d) = (a ^^^ c) ^^^ (b ^^^ d) := by
  rw [Nat.xor_assoc, Nat.xor_assoc, ← Nat.xor_assoc b, Nat.xor_comm b c, Nat.xor_assoc c]
theorem xn_xor (a b : Nat) (env : Nat → Nat) (k : Nat) : xn (a ^^^ b) env k = xn a env k ^^^ xn b env k := by
  induction k with
  | zero => simp [xn]
  | succ k ih =>
    simp only [xn, Nat.testBit_xor, ih]
    cases a.testBit k <;> cases b.testBit k
    · simp
    · simp [Nat.xor_assoc]
    · simp [Nat.xor_assoc, Nat.xor_comm]
    · simp
      rw [xr4, Nat.xor_self, Nat.xor_zero]
theorem xn_zero (env : Nat → Nat) (k : Nat) : xn 0 env k = 0 := by
  induction k with
  | zero => rfl
  | succ k ih => simp [xn, ih]
theorem xn_pow (i : Nat) (env : Nat → Nat) (k : Nat) : xn (2 ^ i) env k = if i < k then env i else 0 := by
  induction k with
  | zero => rfl
  | succ k ih =>
    simp only [xn, Nat.testBit_two_pow, ih, decide_eq_true_eq]
    by_cases c : i = k
    · subst c; simp
    · rw [if_neg c]
      by_cases c2 : i < k
      · rw [if_pos c2, if_pos (by omega)]
      · rw [if_neg c2, if_neg (by omega)]
theorem xn_congr (s : Nat) {e f : Nat → Nat} {k : Nat} (h : ∀ r, r < k → e r = f r) : xn s e k = xn s f k := by
  induction k with
  | zero => rfl
  | succ k ih => simp only [xn, ih (fun r hr => h r (by omega)), h k (by omega)]
theorem xn_env (s : Nat) (e f : Nat → Nat) (k : Nat) : xn s (fun r => e r ^^^ f r) k = xn s e k ^^^ xn s f k := by
  induction k with
  | zero => simp [xn]
  | succ k ih =>
    simp only [xn, ih]
    split
    · rw [xr4]
    · rfl
/-- the lowest bit -/
def low (k : Nat) : Nat := k &&& (18446744073709551616 - k)
def stepR (e k : Nat × Nat) : Nat × Nat := if e.1 &&& low k.1 = 0 then e else (e.1 ^^^ k.1, e.2 ^^^ k.2)
def red (ks : List (Nat × Nat)) (e : Nat × Nat) : Nat × Nat := ks.foldl stepR e
def addE (ks : List (Nat × Nat)) (e : Nat × Nat) : List (Nat × Nat) := if (red ks e).1 = 0 then ks else ks ++ [red ks e]
/-- what an equation says is nought -/
def val (E : Nat → Nat) (n : Nat) (F : Nat → Nat) (m : Nat) (e : Nat × Nat) : Nat := xn e.1 E n ^^^ xn e.2 F m
theorem val_step {E : Nat → Nat} {n : Nat} {F : Nat → Nat} {m : Nat} {k : Nat × Nat} (hk : val E n F m k = 0) (e : Nat × Nat) : val E n F m (stepR e k) = val E n F m e := by
  unfold stepR
  split
  · rfl
  · unfold val at *
    rw [xn_xor, xn_xor, xr4, hk, Nat.xor_zero]
theorem val_red {E : Nat → Nat} {n : Nat} {F : Nat → Nat} {m : Nat} {ks : List (Nat × Nat)} (hk : ∀ k ∈ ks, val E n F m k = 0) (e : Nat × Nat) : val E n F m (red ks e) = val E n F m e := by
  unfold red
  induction ks generalizing e with
  | nil => rfl
  | cons k ks ih =>
    rw [List.foldl_cons, ih (fun k hk' => hk k (by simp [hk'])), val_step (hk k (by simp))]
theorem val_add {E : Nat → Nat} {n : Nat} {F : Nat → Nat} {m : Nat} {ks : List (Nat × Nat)} (hk : ∀ k ∈ ks, val E n F m k = 0) {e : Nat × Nat} (he : val E n F m e = 0) : ∀ k ∈ addE ks e, val E n F m k = 0 := by
  intro k h
  unfold addE at h
  split at h
  · exact hk k h
  · rw [List.mem_append, List.mem_singleton] at h
    rcases h with h | h
    · exact hk k h
    · subst h; rw [val_red hk, he]
/-- the equations that the rows l give -/
def kn (row : Nat → Nat) (l : List Nat) : List (Nat × Nat) := (List.range l.length).foldl (fun ks g => addE ks (row (l.getD g 0), 2 ^ g)) []
theorem foldl_congr' {α β : Type} {f g : β → α → β} {l : List α} {b : β} (h : ∀ b, ∀ a ∈ l, f b a = g b a) : l.foldl f b = l.foldl g b := by
  induction l generalizing b with
  | nil => rfl
  | cons a l ih => rw [List.foldl_cons, List.foldl_cons, h b a (by simp), ih (fun b a ha => h b a (by simp [ha]))]
theorem kn_snoc (row : Nat → Nat) (l : List Nat) (i : Nat) : kn row (l ++ [i]) = addE (kn row l) (row i, 2 ^ l.length) := by
  unfold kn
  rw [List.length_append, List.length_singleton, List.range_succ, List.foldl_append, List.foldl_cons, List.foldl_nil]
  rw [foldl_congr' (g := fun ks g => addE ks (row (l.getD g 0), 2 ^ g))]
  · congr 3
    rw [List.getD_eq_getElem?_getD, List.getElem?_append_right (Nat.le_refl _)]; simp
  · intro ks g hg
    rw [List.mem_range] at hg
    rw [List.getD_eq_getElem?_getD, List.getD_eq_getElem?_getD, List.getElem?_append_left hg]
theorem val_kn {E : Nat → Nat} {n : Nat} {F : Nat → Nat} {m : Nat} {row : Nat → Nat} (l : List Nat) (hl : l.length ≤ m) (h : ∀ g i, l[g]? = some i → F g = xn (row i) E n) : ∀ k ∈ kn row l, val E n F m k = 0 := by
  have key : ∀ t, t ≤ l.length → ∀ k ∈ kn row (l.take t), val E n F m k = 0 := by
    intro t ht
    induction t with
    | zero => intro k hk; simp [kn] at hk
    | succ t ih =>
      have hx : t < l.length := by omega
      rw [List.take_add_one, List.getElem?_eq_getElem hx, Option.toList_some, kn_snoc]
      refine val_add (ih (by omega)) ?_
      have hlt : (l.take t).length = t := by rw [List.length_take]; omega
      rw [hlt]
      unfold val
      simp only
      rw [xn_pow, if_pos (by omega), h t _ (List.getElem?_eq_getElem hx), Nat.xor_self]
  have := key l.length (Nat.le_refl _)
  rw [List.take_length] at this
  exact this
/-- soundness: where nothing of the data is left, the given rows tell the row -/
theorem red_tells {E : Nat → Nat} {n : Nat} {F : Nat → Nat} {m : Nat} {row : Nat → Nat} (l : List Nat) (hl : l.length ≤ m) (h : ∀ g i, l[g]? = some i → F g = xn (row i) E n) (r : Nat) (h0 : (red (kn row l) (r, 0)).1 = 0) : xn (red (kn row l) (r, 0)).2 F m = xn r E n := by
  have hv := val_red (val_kn l hl h) (r, 0)
  unfold val at hv
  rw [h0] at hv
  simp only [xn_zero] at hv
  simpa using hv
/-- of the data alone -/
def redD (ks : List Nat) (d : Nat) : Nat := ks.foldl (fun d k => if d &&& low k = 0 then d else d ^^^ k) d
def addD (ks : List Nat) (d : Nat) : List Nat := if redD ks d = 0 then ks else ks ++ [redD ks d]
theorem red_fst (ks : List (Nat × Nat)) (e : Nat × Nat) : (red ks e).1 = redD (ks.map (·.1)) e.1 := by
  unfold red redD
  induction ks generalizing e with
  | nil => rfl
  | cons k ks ih =>
    rw [List.foldl_cons, List.map_cons, List.foldl_cons, ih]
    congr 1
    unfold stepR
    split <;> rfl
theorem add_fst (ks : List (Nat × Nat)) (e : Nat × Nat) : (addE ks e).map (·.1) = addD (ks.map (·.1)) e.1 := by
  unfold addE addD
  rw [red_fst]
  split
  · rfl
  · rw [List.map_append, List.map_cons, List.map_nil, red_fst]
theorem kn_fst (row : Nat → Nat) (l : List Nat) : (kn row l).map (·.1) = (l.map row).foldl addD [] := by
  have key : ∀ t, t ≤ l.length → (kn row (l.take t)).map (·.1) = ((l.take t).map row).foldl addD [] := by
    intro t ht
    induction t with
    | zero => rfl
    | succ t ih =>
      have hx : t < l.length := by omega
      rw [List.take_add_one, List.getElem?_eq_getElem hx, Option.toList_some, kn_snoc, add_fst, ih (by omega), List.map_append, List.foldl_append]
      rfl
  have := key l.length (Nat.le_refl _)
  rw [List.take_length] at this
  exact this
/-- bounds: all in 64 bits -/
theorem low_lt {k : Nat} (h : k < 2 ^ 64) : low k < 2 ^ 64 := Nat.lt_of_le_of_lt Nat.and_le_left h
theorem stepR_lt {e k : Nat × Nat} {n : Nat} (he : e.1 < 2 ^ n ∧ e.2 < 2 ^ n) (hk : k.1 < 2 ^ n ∧ k.2 < 2 ^ n) : (stepR e k).1 < 2 ^ n ∧ (stepR e k).2 < 2 ^ n := by
  unfold stepR
  split
  · exact he
  · exact ⟨Nat.xor_lt_two_pow he.1 hk.1, Nat.xor_lt_two_pow he.2 hk.2⟩
theorem red_lt {ks : List (Nat × Nat)} {n : Nat} (hk : ∀ k ∈ ks, k.1 < 2 ^ n ∧ k.2 < 2 ^ n) {e : Nat × Nat} (he : e.1 < 2 ^ n ∧ e.2 < 2 ^ n) : (red ks e).1 < 2 ^ n ∧ (red ks e).2 < 2 ^ n := by
  unfold red
  induction ks generalizing e with
  | nil => exact he
  | cons k ks ih => rw [List.foldl_cons]; exact ih (fun k h => hk k (by simp [h])) (stepR_lt he (hk k (by simp)))
theorem addE_lt {ks : List (Nat × Nat)} {n : Nat} (hk : ∀ k ∈ ks, k.1 < 2 ^ n ∧ k.2 < 2 ^ n) {e : Nat × Nat} (he : e.1 < 2 ^ n ∧ e.2 < 2 ^ n) : ∀ k ∈ addE ks e, k.1 < 2 ^ n ∧ k.2 < 2 ^ n := by
  intro k h
  unfold addE at h
  split at h
  · exact hk k h
  · rw [List.mem_append, List.mem_singleton] at h
    rcases h with h | h
    · exact hk k h
    · subst h; exact red_lt hk he
theorem addE_len (ks : List (Nat × Nat)) (e : Nat × Nat) : (addE ks e).length ≤ ks.length + 1 := by
  unfold addE
  split
  · omega
  · simp
theorem kn_len (row : Nat → Nat) (l : List Nat) : (kn row l).length ≤ l.length := by
  have key : ∀ t, t ≤ l.length → (kn row (l.take t)).length ≤ t := by
    intro t ht
    induction t with
    | zero => exact Nat.le_refl _
    | succ t ih =>
      have hx : t < l.length := by omega
      rw [List.take_add_one, List.getElem?_eq_getElem hx, Option.toList_some, kn_snoc]
      exact Nat.le_trans (addE_len _ _) (Nat.succ_le_succ (ih (by omega)))
  have := key l.length (Nat.le_refl _)
  rw [List.take_length] at this
  exact this
theorem kn_lt {row : Nat → Nat} {n : Nat} (hr : ∀ i, row i < 2 ^ n) (l : List Nat) (hl : l.length ≤ n) : ∀ k ∈ kn row l, k.1 < 2 ^ n ∧ k.2 < 2 ^ n := by
  have key : ∀ t, t ≤ l.length → ∀ k ∈ kn row (l.take t), k.1 < 2 ^ n ∧ k.2 < 2 ^ n := by
    intro t ht
    induction t with
    | zero => intro k hk; simp [kn] at hk
    | succ t ih =>
      have hx : t < l.length := by omega
      rw [List.take_add_one, List.getElem?_eq_getElem hx, Option.toList_some, kn_snoc]
      refine addE_lt (ih (by omega)) ⟨hr _, ?_⟩
      have hlt : (l.take t).length = t := by rw [List.length_take]; omega
      rw [hlt]
      exact Nat.pow_lt_pow_right (by decide) (by omega)
  have := key l.length (Nat.le_refl _)
  rw [List.take_length] at this
  exact this
end Sh
end Go.Proofs.Ytfnfnmonnfcpeab
