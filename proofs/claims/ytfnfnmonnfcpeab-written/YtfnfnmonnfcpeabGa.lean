import Derived.Test.YtfnfnmonnfcpeabW21
import Derived.Test.YtfnfnmonnfcpeabPure11
namespace Go.Proofs.Ytfnfnmonnfcpeab
open Go.RowKit
set_option maxRecDepth 20000
namespace Sh
/-- the byte of parity at row j and place i -/
def pb (kind : Int) (K M : Nat) (N gd : Int) (size : Nat) (X : List (List Int)) (j i : Nat) : Int := xs ((parity kind K M N gd).getD j 0) (env0 (rowsD (R kind N) size X) i) (K * R kind N)
def parB (kind : Int) (K M : Nat) (N gd : Int) (size : Nat) (X : List (List Int)) : List (List Int) := (List.range M).map fun k => (List.range (R kind N)).flatMap fun q => (List.range size).map fun i => pb kind K M N gd size X (k * R kind N + q) i
def Bytes (X : List (List Int)) : Prop := ∀ x ∈ X, ∀ b ∈ x, Byte b
theorem byte0 : Byte 0 := ⟨by decide, by decide⟩
theorem env0_byte {D : List (List Int)} (h : Bytes D) (i r : Nat) : Byte (env0 D i r) := by
  unfold env0
  rw [List.getD_eq_getElem?_getD, List.getD_eq_getElem?_getD]
  cases h1 : D[r]? with
  | none => exact byte0
  | some x =>
    simp only [Option.getD_some]
    cases h2 : x[i]? with
    | none => exact byte0
    | some b => exact h x (List.mem_of_getElem? h1) b (List.mem_of_getElem? h2)
theorem rowsD_bytes {R size : Nat} {X : List (List Int)} (h : Bytes X) : Bytes (rowsD R size X) := by
  intro y hy b hb
  simp only [rowsD, List.mem_flatMap, List.mem_map, List.mem_range] at hy
  obtain ⟨x, hx, q, _, rfl⟩ := hy
  exact h x hx b (List.mem_of_mem_drop (List.mem_of_mem_take hb))
theorem par_eq {kind : Int} {K M : Nat} {N gd : Int} (hOk : Ok kind K M N gd) (size : Nat) (X : List (List Int)) (hX : Bytes X) : par kind K M N gd size X = parB kind K M N gd size X := by
  obtain ⟨hK, hM, h10, hR1, hR2, hKR, hMR, hPL⟩ := hOk.bounds
  unfold par parB
  apply List.map_congr_left
  intro k hk
  have hk : k < M := by simpa using hk
  unfold shB
  have key : ∀ q ∈ List.range (R kind N), (regs kind K M N gd size X).getD (k * R kind N + q) [] = (List.range size).map fun i => pb kind K M N gd size X (k * R kind N + q) i := by
    intro q hq
    have hq : q < R kind N := by simpa using hq
    have hj : k * R kind N + q < M * R kind N := by
      have : (k + 1) * R kind N ≤ M * R kind N := Nat.mul_le_mul_right _ hk
      rw [Nat.add_mul, Nat.one_mul] at this
      omega
    rw [List.getD_eq_getElem?_getD]
    simp only [regs, List.getElem?_map, List.getElem?_range hj, Option.map_some, Option.getD_some]
    simp only [regAt]
    apply List.map_congr_left
    intro i hi
    have hi : i < size := by simpa using hi
    rw [if_pos hi]
    exact ev_plain _ _ _ (fun r _ => env0_byte (rowsD_bytes hX) i r) _ (by rw [hPL]; exact hj)
  rw [List.flatMap_def, List.flatMap_def, List.map_congr_left key]
theorem pb_byte (kind : Int) (K M : Nat) (N gd : Int) (size : Nat) (X : List (List Int)) (j i : Nat) : Byte (pb kind K M N gd size X j i) := xs_byte _ _ _
theorem parB_bytes (kind : Int) (K M : Nat) (N gd : Int) (size : Nat) (X : List (List Int)) : Bytes (parB kind K M N gd size X) := by
  intro x hx b hb
  simp only [parB, List.mem_map] at hx
  obtain ⟨k, _, rfl⟩ := hx
  simp only [List.mem_flatMap, List.mem_map] at hb
  obtain ⟨q, _, i, _, rfl⟩ := hb
  exact pb_byte _ _ _ _ _ _ _ _ _
theorem flat_get {α : Type} (f : Nat → List α) (n : Nat) (R : Nat) (hf : ∀ q, q < R → (f q).length = n) (q i : Nat) (hq : q < R) (hi : i < n) : ((List.range R).flatMap f)[q * n + i]? = (f q)[i]? := by
  induction R with
  | zero => omega
  | succ R ih =>
    rw [List.range_succ, List.flatMap_append, List.flatMap_cons, List.flatMap_nil, List.append_nil]
    have hl : ((List.range R).flatMap f).length = R * n := by
      clear ih hq
      induction R with
      | zero => simp
      | succ R ih =>
        rw [List.range_succ, List.flatMap_append, List.flatMap_cons, List.flatMap_nil, List.append_nil, List.length_append, ih (fun q hq => hf q (by omega)), hf R (by omega), Nat.add_mul, Nat.one_mul]
    by_cases c : q < R
    · have : q * n + i < R * n := by
        have : (q + 1) * n ≤ R * n := Nat.mul_le_mul_right _ c
        rw [Nat.add_mul, Nat.one_mul] at this
        omega
      rw [List.getElem?_append_left (by omega)]
      exact ih (fun q hq => hf q (by omega)) c
    · have : q = R := by omega
      subst this
      rw [List.getElem?_append_right (by omega), hl, Nat.add_sub_cancel_left]
theorem parB_len (kind : Int) (K M : Nat) (N gd : Int) (size : Nat) (X : List (List Int)) : (parB kind K M N gd size X).length = M := by simp [parB]
theorem flat_len {α : Type} (f : Nat → List α) (n R : Nat) (hf : ∀ q, q < R → (f q).length = n) : ((List.range R).flatMap f).length = R * n := by
  induction R with
  | zero => simp
  | succ R ih =>
    rw [List.range_succ, List.flatMap_append, List.flatMap_cons, List.flatMap_nil, List.append_nil, List.length_append, ih (fun q hq => hf q (by omega)), hf R (by omega), Nat.add_mul, Nat.one_mul]
theorem parB_each {kind : Int} {K M : Nat} {N gd : Int} {size : Nat} {X : List (List Int)} {k : Nat} {x : List Int} (h : (parB kind K M N gd size X)[k]? = some x) : x.length = R kind N * size ∧ ∀ q i, q < R kind N → i < size → x[q * size + i]? = some (pb kind K M N gd size X (k * R kind N + q) i) := by
  have hk : k < M := by
    have := (List.getElem?_eq_some_iff.1 h).1
    simpa [parB] using this
  simp only [parB, List.getElem?_map, List.getElem?_range hk, Option.map_some, Option.some.injEq] at h
  subst h
  refine ⟨flat_len _ size _ (by intro q _; simp), ?_⟩
  intro q i hq hi
  rw [flat_get _ size (R kind N) (by intro q _; simp) q i hq hi]
  simp [List.getElem?_range hi]
end Sh
end Go.Proofs.Ytfnfnmonnfcpeab
namespace Go.Proofs.Ytfnfnmonnfcpeab
open Go.RowKit
set_option maxRecDepth 20000
namespace Sh
/-- the sum of those rows whose bit is in s -/
def xn (s : Nat) (env : Nat → Nat) : Nat → Nat
  | 0 => 0
  | k + 1 => if s.testBit k = true then xn s env k ^^^ env k else xn s env k
theorem xr4 (a b c d : Nat) : (a ^^^ b) ^^^ (c ^^^ d) = (a ^^^ c) ^^^ (b ^^^ d) := by
  rw [Nat.xor_assoc, Nat.xor_assoc, ← Nat.xor_assoc b, Nat.xor_comm b c, Nat.xor_assoc c]
theorem xn_xor (a b : Nat) (env : Nat → Nat) (k : Nat) : xn (a ^^^ b) env k = xn a env k ^^^ xn b env k := by
  induction k with
  | zero => simp [xn]
  | succ k ih =>
    simp only [xn, Nat.testBit_xor, ih]
    cases a.testBit k <;> cases b.testBit k
    · simp
    · simp [Nat.xor_assoc]
    · simp [Nat.xor_assoc, Nat.xor_comm]
    · simp
      rw [xr4, Nat.xor_self, Nat.xor_zero]
theorem xn_zero (env : Nat → Nat) (k : Nat) : xn 0 env k = 0 := by
  induction k with
  | zero => rfl
  | succ k ih => simp [xn, ih]
theorem xn_pow (i : Nat) (env : Nat → Nat) (k : Nat) : xn (2 ^ i) env k = if i < k then env i else 0 := by
  induction k with
  | zero => rfl
  | succ k ih =>
    simp only [xn, Nat.testBit_two_pow, ih, decide_eq_true_eq]
    by_cases c : i = k
    · subst c; simp
    · rw [if_neg c]
      by_cases c2 : i < k
      · rw [if_pos c2, if_pos (by omega)]
      · rw [if_neg c2, if_neg (by omega)]
theorem xn_congr (s : Nat) {e f : Nat → Nat} {k : Nat} (h : ∀ r, r < k → e r = f r) : xn s e k = xn s f k := by
  induction k with
  | zero => rfl
  | succ k ih => simp only [xn, ih (fun r hr => h r (by omega)), h k (by omega)]
theorem xn_env (s : Nat) (e f : Nat → Nat) (k : Nat) : xn s (fun r => e r ^^^ f r) k = xn s e k ^^^ xn s f k := by
  induction k with
  | zero => simp [xn]
  | succ k ih =>
    simp only [xn, ih]
    split
    · rw [xr4]
    · rfl
/-- the lowest bit -/
def low (k : Nat) : Nat := k &&& (18446744073709551616 - k)
def stepR (e k : Nat × Nat) : Nat × Nat := if e.1 &&& low k.1 = 0 then e else (e.1 ^^^ k.1, e.2 ^^^ k.2)
def red (ks : List (Nat × Nat)) (e : Nat × Nat) : Nat × Nat := ks.foldl stepR e
def addE (ks : List (Nat × Nat)) (e : Nat × Nat) : List (Nat × Nat) := if (red ks e).1 = 0 then ks else ks ++ [red ks e]
/-- what an equation says is nought -/
def val (E : Nat → Nat) (n : Nat) (F : Nat → Nat) (m : Nat) (e : Nat × Nat) : Nat := xn e.1 E n ^^^ xn e.2 F m
theorem val_step {E : Nat → Nat} {n : Nat} {F : Nat → Nat} {m : Nat} {k : Nat × Nat} (hk : val E n F m k = 0) (e : Nat × Nat) : val E n F m (stepR e k) = val E n F m e := by
  unfold stepR
  split
  · rfl
  · unfold val at *
    rw [xn_xor, xn_xor, xr4, hk, Nat.xor_zero]
theorem val_red {E : Nat → Nat} {n : Nat} {F : Nat → Nat} {m : Nat} {ks : List (Nat × Nat)} (hk : ∀ k ∈ ks, val E n F m k = 0) (e : Nat × Nat) : val E n F m (red ks e) = val E n F m e := by
  unfold red
  induction ks generalizing e with
  | nil => rfl
  | cons k ks ih =>
    rw [List.foldl_cons, ih (fun k hk' => hk k (by simp [hk'])), val_step (hk k (by simp))]
theorem val_add {E : Nat → Nat} {n : Nat} {F : Nat → Nat} {m : Nat} {ks : List (Nat × Nat)} (hk : ∀ k ∈ ks, val E n F m k = 0) {e : Nat × Nat} (he : val E n F m e = 0) : ∀ k ∈ addE ks e, val E n F m k = 0 := by
  intro k h
  unfold addE at h
  split at h
  · exact hk k h
  · rw [List.mem_append, List.mem_singleton] at h
    rcases h with h | h
    · exact hk k h
    · subst h; rw [val_red hk, he]
/-- the equations that the rows l give -/
def kn (row : Nat → Nat) (l : List Nat) : List (Nat × Nat) := (List.range l.length).foldl (fun ks g => addE ks (row (l.getD g 0), 2 ^ g)) []
theorem foldl_congr' {α β : Type} {f g : β → α → β} {l : List α} {b : β} (h : ∀ b, ∀ a ∈ l, f b a = g b a) : l.foldl f b = l.foldl g b := by
  induction l generalizing b with
  | nil => rfl
  | cons a l ih => rw [List.foldl_cons, List.foldl_cons, h b a (by simp), ih (fun b a ha => h b a (by simp [ha]))]
theorem kn_snoc (row : Nat → Nat) (l : List Nat) (i : Nat) : kn row (l ++ [i]) = addE (kn row l) (row i, 2 ^ l.length) := by
  unfold kn
  rw [List.length_append, List.length_singleton, List.range_succ, List.foldl_append, List.foldl_cons, List.foldl_nil]
  rw [foldl_congr' (g := fun ks g => addE ks (row (l.getD g 0), 2 ^ g))]
  · congr 3
    rw [List.getD_eq_getElem?_getD, List.getElem?_append_right (Nat.le_refl _)]; simp
  · intro ks g hg
    rw [List.mem_range] at hg
    rw [List.getD_eq_getElem?_getD, List.getD_eq_getElem?_getD, List.getElem?_append_left hg]
theorem val_kn {E : Nat → Nat} {n : Nat} {F : Nat → Nat} {m : Nat} {row : Nat → Nat} (l : List Nat) (hl : l.length ≤ m) (h : ∀ g i, l[g]? = some i → F g = xn (row i) E n) : ∀ k ∈ kn row l, val E n F m k = 0 := by
  have key : ∀ t, t ≤ l.length → ∀ k ∈ kn row (l.take t), val E n F m k = 0 := by
    intro t ht
    induction t with
    | zero => intro k hk; simp [kn] at hk
    | succ t ih =>
      have hx : t < l.length := by omega
      rw [List.take_add_one, List.getElem?_eq_getElem hx, Option.toList_some, kn_snoc]
      refine val_add (ih (by omega)) ?_
      have hlt : (l.take t).length = t := by rw [List.length_take]; omega
      rw [hlt]
      unfold val
      simp only
      rw [xn_pow, if_pos (by omega), h t _ (List.getElem?_eq_getElem hx), Nat.xor_self]
  have := key l.length (Nat.le_refl _)
  rw [List.take_length] at this
  exact this
/-- soundness: where nothing of the data is left, the given rows tell the row -/
theorem red_tells {E : Nat → Nat} {n : Nat} {F : Nat → Nat} {m : Nat} {row : Nat → Nat} (l : List Nat) (hl : l.length ≤ m) (h : ∀ g i, l[g]? = some i → F g = xn (row i) E n) (r : Nat) (h0 : (red (kn row l) (r, 0)).1 = 0) : xn (red (kn row l) (r, 0)).2 F m = xn r E n := by
  have hv := val_red (val_kn l hl h) (r, 0)
  unfold val at hv
  rw [h0] at hv
  simp only [xn_zero] at hv
  simpa using hv
/-- of the data alone -/
def redD (ks : List Nat) (d : Nat) : Nat := ks.foldl (fun d k => if d &&& low k = 0 then d else d ^^^ k) d
def addD (ks : List Nat) (d : Nat) : List Nat := if redD ks d = 0 then ks else ks ++ [redD ks d]
theorem red_fst (ks : List (Nat × Nat)) (e : Nat × Nat) : (red ks e).1 = redD (ks.map (·.1)) e.1 := by
  unfold red redD
  induction ks generalizing e with
  | nil => rfl
  | cons k ks ih =>
    rw [List.foldl_cons, List.map_cons, List.foldl_cons, ih]
    congr 1
    unfold stepR
    split <;> rfl
theorem add_fst (ks : List (Nat × Nat)) (e : Nat × Nat) : (addE ks e).map (·.1) = addD (ks.map (·.1)) e.1 := by
  unfold addE addD
  rw [red_fst]
  split
  · rfl
  · rw [List.map_append, List.map_cons, List.map_nil, red_fst]
theorem kn_fst (row : Nat → Nat) (l : List Nat) : (kn row l).map (·.1) = (l.map row).foldl addD [] := by
  have key : ∀ t, t ≤ l.length → (kn row (l.take t)).map (·.1) = ((l.take t).map row).foldl addD [] := by
    intro t ht
    induction t with
    | zero => rfl
    | succ t ih =>
      have hx : t < l.length := by omega
      rw [List.take_add_one, List.getElem?_eq_getElem hx, Option.toList_some, kn_snoc, add_fst, ih (by omega), List.map_append, List.foldl_append]
      rfl
  have := key l.length (Nat.le_refl _)
  rw [List.take_length] at this
  exact this
/-- bounds: all in 64 bits -/
theorem low_lt {k : Nat} (h : k < 2 ^ 64) : low k < 2 ^ 64 := Nat.lt_of_le_of_lt Nat.and_le_left h
theorem stepR_lt {e k : Nat × Nat} {n : Nat} (he : e.1 < 2 ^ n ∧ e.2 < 2 ^ n) (hk : k.1 < 2 ^ n ∧ k.2 < 2 ^ n) : (stepR e k).1 < 2 ^ n ∧ (stepR e k).2 < 2 ^ n := by
  unfold stepR
  split
  · exact he
  · exact ⟨Nat.xor_lt_two_pow he.1 hk.1, Nat.xor_lt_two_pow he.2 hk.2⟩
theorem red_lt {ks : List (Nat × Nat)} {n : Nat} (hk : ∀ k ∈ ks, k.1 < 2 ^ n ∧ k.2 < 2 ^ n) {e : Nat × Nat} (he : e.1 < 2 ^ n ∧ e.2 < 2 ^ n) : (red ks e).1 < 2 ^ n ∧ (red ks e).2 < 2 ^ n := by
  unfold red
  induction ks generalizing e with
  | nil => exact he
  | cons k ks ih => rw [List.foldl_cons]; exact ih (fun k h => hk k (by simp [h])) (stepR_lt he (hk k (by simp)))
theorem addE_lt {ks : List (Nat × Nat)} {n : Nat} (hk : ∀ k ∈ ks, k.1 < 2 ^ n ∧ k.2 < 2 ^ n) {e : Nat × Nat} (he : e.1 < 2 ^ n ∧ e.2 < 2 ^ n) : ∀ k ∈ addE ks e, k.1 < 2 ^ n ∧ k.2 < 2 ^ n := by
  intro k h
  unfold addE at h
  split at h
  · exact hk k h
  · rw [List.mem_append, List.mem_singleton] at h
    rcases h with h | h
    · exact hk k h
    · subst h; exact red_lt hk he
theorem addE_len (ks : List (Nat × Nat)) (e : Nat × Nat) : (addE ks e).length ≤ ks.length + 1 := by
  unfold addE
  split
  · omega
  · simp
theorem kn_len (row : Nat → Nat) (l : List Nat) : (kn row l).length ≤ l.length := by
  have key : ∀ t, t ≤ l.length → (kn row (l.take t)).length ≤ t := by
    intro t ht
    induction t with
    | zero => exact Nat.le_refl _
    | succ t ih =>
      have hx : t < l.length := by omega
      rw [List.take_add_one, List.getElem?_eq_getElem hx, Option.toList_some, kn_snoc]
      exact Nat.le_trans (addE_len _ _) (Nat.succ_le_succ (ih (by omega)))
  have := key l.length (Nat.le_refl _)
  rw [List.take_length] at this
  exact this
theorem kn_lt {row : Nat → Nat} {n : Nat} (hr : ∀ i, row i < 2 ^ n) (l : List Nat) (hl : l.length ≤ n) : ∀ k ∈ kn row l, k.1 < 2 ^ n ∧ k.2 < 2 ^ n := by
  have key : ∀ t, t ≤ l.length → ∀ k ∈ kn row (l.take t), k.1 < 2 ^ n ∧ k.2 < 2 ^ n := by
    intro t ht
    induction t with
    | zero => intro k hk; simp [kn] at hk
    | succ t ih =>
      have hx : t < l.length := by omega
      rw [List.take_add_one, List.getElem?_eq_getElem hx, Option.toList_some, kn_snoc]
      refine addE_lt (ih (by omega)) ⟨hr _, ?_⟩
      have hlt : (l.take t).length = t := by rw [List.length_take]; omega
      rw [hlt]
      exact Nat.pow_lt_pow_right (by decide) (by omega)
  have := key l.length (Nat.le_refl _)
  rw [List.take_length] at this
  exact this
end Sh
end Go.Proofs.Ytfnfnmonnfcpeab
namespace Go.Proofs.Ytfnfnmonnfcpeab
open Go.RowKit
set_option maxRecDepth 20000
namespace Sh
/-- the shards that are left, the first K of them; the shards that are lost -/
def lf (q K : Nat) : Nat → List Nat
  | 0 => []
  | s + 1 => if q.testBit s = false ∧ (lf q K s).length < K then lf q K s ++ [s] else lf q K s
def lo (q : Nat) : Nat → List Nat
  | 0 => []
  | s + 1 => if q.testBit s = true then lo q s ++ [s] else lo q s
theorem lo_len_le (q s : Nat) : (lo q s).length ≤ s := by
  induction s with
  | zero => exact Nat.le_refl _
  | succ s ih =>
    simp only [lo]
    split
    · rw [List.length_append, List.length_singleton]; omega
    · omega
theorem lf_len (q K s : Nat) : (lf q K s).length = min K (s - (lo q s).length) := by
  induction s with
  | zero => simp [lf, lo]
  | succ s ih =>
    have := lo_len_le q s
    simp only [lf, lo]
    by_cases c : q.testBit s = true
    · rw [if_pos c, if_neg (by simp [c]), List.length_append, List.length_singleton, ih]; omega
    · rw [if_neg c]
      by_cases c2 : (lf q K s).length < K
      · rw [if_pos ⟨by simpa using c, c2⟩, List.length_append, List.length_singleton]; omega
      · rw [if_neg (fun h => c2 h.2)]; omega
theorem lf_lt {q K s : Nat} : ∀ i ∈ lf q K s, i < s := by
  induction s with
  | zero => intro i h; cases h
  | succ s ih =>
    intro i h
    simp only [lf] at h
    split at h
    · rw [List.mem_append, List.mem_singleton] at h
      rcases h with h | h
      · have := ih i h; omega
      · omega
    · have := ih i h; omega
theorem lo_lt {q s : Nat} : ∀ i ∈ lo q s, i < s ∧ q.testBit i = true := by
  induction s with
  | zero => intro i h; cases h
  | succ s ih =>
    intro i h
    simp only [lo] at h
    split at h
    · next c =>
      rw [List.mem_append, List.mem_singleton] at h
      rcases h with h | h
      · have := ih i h; exact ⟨by omega, this.2⟩
      · subst h; exact ⟨by omega, c⟩
    · have := ih i h; exact ⟨by omega, this.2⟩
/-- the rows of a shard -/
def rws (R t : Nat) : List Nat := (List.range R).map fun r => t * R + r
/-- the rows that are given, as the loop finds them -/
def gi (R q KR : Nat) : Nat → List Nat
  | 0 => []
  | i + 1 => if q.testBit (i / R) = false ∧ (gi R q KR i).length < KR then gi R q KR i ++ [i] else gi R q KR i
def ls (row : Nat → Nat) (R q : Nat) (ks : List (Nat × Nat)) : Nat → List Nat
  | 0 => []
  | i + 1 => if q.testBit (i / R) = true then ls row R q ks i ++ [(red ks (row i, 0)).2] else ls row R q ks i
theorem gi_len (R q KR i : Nat) : (gi R q KR i).length ≤ KR ∧ (gi R q KR i).length ≤ i := by
  induction i with
  | zero => simp [gi]
  | succ i ih =>
    simp only [gi]
    split
    · next c => rw [List.length_append, List.length_singleton]; omega
    · omega
theorem rws_len (l : List Nat) (R : Nat) : (l.flatMap (rws R)).length = l.length * R := by
  induction l with
  | nil => simp
  | cons a l ih => rw [List.flatMap_cons, List.length_append, ih, List.length_cons, Nat.add_mul, Nat.one_mul]; simp [rws]; omega
theorem sdiv {s R r : Nat} (hr : r < R) : (s * R + r) / R = s := by
  rw [Nat.mul_comm, Nat.mul_add_div (by omega), Nat.div_eq_of_lt hr, Nat.add_zero]
theorem gi_lf (R q K s : Nat) : gi R q (K * R) (s * R) = (lf q K s).flatMap (rws R) := by
  induction s with
  | zero => simp [gi, lf]
  | succ s ih =>
    have hl := rws_len (lf q K s) R
    rw [← ih] at hl
    simp only [lf]
    by_cases c : q.testBit s = false ∧ (lf q K s).length < K
    · rw [if_pos c, List.flatMap_append, List.flatMap_cons, List.flatMap_nil, List.append_nil, ← ih]
      have hK : ((lf q K s).length + 1) * R ≤ K * R := Nat.mul_le_mul_right _ c.2
      rw [Nat.add_mul, Nat.one_mul, ← hl] at hK
      have key : ∀ r, r ≤ R → gi R q (K * R) (s * R + r) = gi R q (K * R) (s * R) ++ (List.range r).map fun r => s * R + r := by
        intro r hr
        induction r with
        | zero => simp
        | succ r ih2 =>
          have e := ih2 (by omega)
          have hlen : (gi R q (K * R) (s * R + r)).length < K * R := by rw [e, List.length_append, List.length_map, List.length_range]; omega
          rw [← Nat.add_assoc]
          simp only [gi]
          rw [sdiv (by omega : r < R), if_pos ⟨c.1, hlen⟩, e, List.range_succ, List.map_append, List.append_assoc]
          rfl
      rw [Nat.add_mul, Nat.one_mul]
      exact key R (Nat.le_refl _)
    · rw [if_neg c, ← ih]
      have key : ∀ r, r ≤ R → gi R q (K * R) (s * R + r) = gi R q (K * R) (s * R) := by
        intro r hr
        induction r with
        | zero => rfl
        | succ r ih2 =>
          have e := ih2 (by omega)
          rw [← Nat.add_assoc]
          simp only [gi]
          rw [sdiv (by omega : r < R), if_neg, e]
          rintro ⟨h1, h2⟩
          rw [e] at h2
          refine c ⟨h1, ?_⟩
          rw [hl] at h2
          exact Nat.lt_of_mul_lt_mul_right h2
      rw [Nat.add_mul, Nat.one_mul]
      exact key R (Nat.le_refl _)
theorem ls_lo (row : Nat → Nat) (R q : Nat) (ks : List (Nat × Nat)) (s : Nat) : ls row R q ks (s * R) = (lo q s).flatMap fun t => (rws R t).map fun i => (red ks (row i, 0)).2 := by
  induction s with
  | zero => simp [ls, lo]
  | succ s ih =>
    simp only [lo]
    rw [Nat.add_mul, Nat.one_mul]
    by_cases c : q.testBit s = true
    · rw [if_pos c, List.flatMap_append, List.flatMap_cons, List.flatMap_nil, List.append_nil, ← ih]
      have key : ∀ r, r ≤ R → ls row R q ks (s * R + r) = ls row R q ks (s * R) ++ ((List.range r).map fun r => s * R + r).map fun i => (red ks (row i, 0)).2 := by
        intro r hr
        induction r with
        | zero => simp
        | succ r ih2 =>
          rw [← Nat.add_assoc]
          simp only [ls]
          rw [sdiv (by omega : r < R), if_pos c, ih2 (by omega), List.range_succ, List.map_append, List.map_append, List.append_assoc]
          rfl
      exact key R (Nat.le_refl _)
    · rw [if_neg c, ← ih]
      have key : ∀ r, r ≤ R → ls row R q ks (s * R + r) = ls row R q ks (s * R) := by
        intro r hr
        induction r with
        | zero => rfl
        | succ r ih2 =>
          rw [← Nat.add_assoc]
          simp only [ls]
          rw [sdiv (by omega : r < R), if_neg c, ih2 (by omega)]
      exact key R (Nat.le_refl _)
/-- all patterns of at most m losses among the rest -/
def dfs : List (List Nat) → List Nat → Nat → Nat → List Nat → Bool
  | [], kd, _, _, lost => lost.all fun r => redD kd r == 0
  | s :: rest, kd, c, m, lost => (match m with | 0 => true | m' + 1 => dfs rest kd c m' (lost ++ s)) && (match c with | 0 => dfs rest kd 0 m lost | c' + 1 => dfs rest (s.foldl addD kd) c' m lost)
def shs (row : Nat → Nat) (R n : Nat) : List (List Nat) := (List.range n).map fun t => (rws R t).map row
theorem dfs_path (row : Nat → Nat) (R n K M q : Nat) (hm : (lo q n).length ≤ M) (s : Nat) (hs : s ≤ n)
    (h : dfs ((List.range' s (n - s)).map fun t => (rws R t).map row) (((lf q K s).flatMap (rws R)).map row |>.foldl addD []) (K - (lf q K s).length) (M - (lo q s).length) (((lo q s).flatMap (rws R)).map row) = true) :
    ∀ r ∈ ((lo q n).flatMap (rws R)).map row, redD (((lf q K n).flatMap (rws R)).map row |>.foldl addD []) r = 0 := by
  obtain ⟨d, hd⟩ : ∃ d, n - s = d := ⟨_, rfl⟩
  induction d generalizing s with
  | zero =>
    have e : s = n := by omega
    subst e
    rw [hd] at h
    simp only [List.range'_zero, List.map_nil, dfs, List.all_eq_true, beq_iff_eq] at h
    exact h
  | succ d ih =>
    rw [hd, List.range'_succ, List.map_cons] at h
    simp only [dfs, Bool.and_eq_true] at h
    refine ih (s + 1) (by omega) ?_ (by omega)
    rw [show n - (s + 1) = d by omega]
    by_cases c : q.testBit s = true
    · have e1 : lo q (s + 1) = lo q s ++ [s] := by simp only [lo]; rw [if_pos c]
      have e2 : lf q K (s + 1) = lf q K s := by simp only [lf]; rw [if_neg (by simp [c])]
      have hle : ∀ a b, a ≤ b → (lo q a).length ≤ (lo q b).length := by
        intro a b hab
        induction b with
        | zero => have : a = 0 := by omega
                  subst this; exact Nat.le_refl _
        | succ b ihb =>
          by_cases e : a = b + 1
          · subst e; exact Nat.le_refl _
          · refine Nat.le_trans (ihb (by omega)) ?_
            simp only [lo]
            split
            · rw [List.length_append]; omega
            · exact Nat.le_refl _
      have h1 := hle (s + 1) n (by omega)
      rw [e1, List.length_append, List.length_singleton] at h1
      obtain ⟨m', hm'⟩ : ∃ m', M - (lo q s).length = m' + 1 := ⟨M - (lo q s).length - 1, by omega⟩
      have h2 := h.1
      rw [hm'] at h2
      rw [e1, e2, List.length_append, List.length_singleton, List.flatMap_append, List.map_append, show M - ((lo q s).length + 1) = m' by omega]
      simpa using h2
    · have e1 : lo q (s + 1) = lo q s := by simp only [lo]; rw [if_neg c]
      have h2 := h.2
      by_cases c2 : (lf q K s).length < K
      · have e2 : lf q K (s + 1) = lf q K s ++ [s] := by simp only [lf]; rw [if_pos ⟨by simpa using c, c2⟩]
        obtain ⟨c', hc'⟩ : ∃ c', K - (lf q K s).length = c' + 1 := ⟨K - (lf q K s).length - 1, by omega⟩
        rw [hc'] at h2
        rw [e1, e2, List.length_append, List.length_singleton, List.flatMap_append, List.map_append, List.foldl_append, show K - ((lf q K s).length + 1) = c' by omega]
        simpa using h2
      · have e2 : lf q K (s + 1) = lf q K s := by simp only [lf]; rw [if_neg (fun h => c2 h.2)]
        have hc' : K - (lf q K s).length = 0 := by omega
        rw [hc'] at h2
        rw [e1, e2, hc']
        exact h2
theorem dfs_all (row : Nat → Nat) (R n K M q : Nat) (hm : (lo q n).length ≤ M) (h : dfs (shs row R n) [] K M [] = true) :
    ∀ i ∈ (lo q n).flatMap (rws R), (red (kn row ((lf q K n).flatMap (rws R))) (row i, 0)).1 = 0 := by
  intro i hi
  rw [red_fst, kn_fst]
  refine dfs_path row R n K M q hm 0 (Nat.zero_le _) ?_ _ (List.mem_map.2 ⟨i, hi, rfl⟩)
  simp only [lf, lo, List.flatMap_nil, List.map_nil, List.foldl_nil, List.length_nil, Nat.sub_zero]
  rw [← List.range_eq_range']
  exact h
/-- the same, made for the kernel: every number and every list is made whole before it is handed on -/
def fN {α : Type} (n : Nat) (k : Nat → α) : α := match n with | 0 => k 0 | m + 1 => k (Nat.succ m)
def fL {α : Type} : List Nat → (List Nat → α) → α
  | [], k => k []
  | a :: l, k => fN a fun a' => fL l fun l' => k (a' :: l')
theorem fN_eq {α : Type} (n : Nat) (k : Nat → α) : fN n k = k n := by cases n <;> rfl
theorem fL_eq {α : Type} (l : List Nat) (k : List Nat → α) : fL l k = k l := by
  induction l generalizing k with
  | nil => rfl
  | cons a l ih => simp only [fL, fN_eq, ih]
def redK : List Nat → Nat → Nat
  | [], d => d
  | k :: ks, d => cond (Nat.beq (Nat.land d (Nat.land k (Nat.sub 18446744073709551616 k))) 0) (redK ks d) (fN (Nat.xor d k) fun d' => redK ks d')
theorem redK_eq (ks : List Nat) (d : Nat) : redK ks d = redD ks d := by
  induction ks generalizing d with
  | nil => rfl
  | cons k ks ih =>
    simp only [redK, fN_eq, ih]
    unfold redD
    rw [List.foldl_cons]
    by_cases c : d &&& low k = 0
    · rw [if_pos c]
      have : Nat.beq (Nat.land d (Nat.land k (Nat.sub 18446744073709551616 k))) 0 = true := Nat.beq_eq.mpr c
      rw [this]; rfl
    · rw [if_neg c]
      have : Nat.beq (Nat.land d (Nat.land k (Nat.sub 18446744073709551616 k))) 0 = false := by
        cases e : Nat.beq (Nat.land d (Nat.land k (Nat.sub 18446744073709551616 k))) 0
        · rfl
        · exact absurd (Nat.beq_eq.mp e) c
      rw [this]; rfl
def snocK : List Nat → Nat → List Nat
  | [], x => [x]
  | a :: l, x => a :: snocK l x
theorem snocK_eq (l : List Nat) (x : Nat) : snocK l x = l ++ [x] := by
  induction l with
  | nil => rfl
  | cons a l ih => simp [snocK, ih]
def addsK {α : Type} : List Nat → List Nat → (List Nat → α) → α
  | [], kd, k => k kd
  | d :: ds, kd, k => match redK kd d with
    | 0 => addsK ds kd k
    | m + 1 => fL (snocK kd (Nat.succ m)) fun kd' => addsK ds kd' k
theorem addsK_eq {α : Type} (ds kd : List Nat) (k : List Nat → α) : addsK ds kd k = k (ds.foldl addD kd) := by
  induction ds generalizing kd with
  | nil => rfl
  | cons d ds ih =>
    simp only [addsK, List.foldl_cons, fL_eq, ih]
    unfold addD
    rw [← redK_eq]
    cases h : redK kd d with
    | zero => simp
    | succ m => simp [snocK_eq]
def allK : List Nat → List Nat → Bool
  | _, [] => true
  | kd, r :: l => match redK kd r with
    | 0 => allK kd l
    | _ + 1 => false
theorem allK_eq (kd l : List Nat) : allK kd l = l.all fun r => redD kd r == 0 := by
  induction l with
  | nil => rfl
  | cons r l ih =>
    simp only [allK, List.all_cons, ih]
    rw [← redK_eq]
    cases redK kd r with
    | zero => simp
    | succ m => simp
def dfsK : List (List Nat) → List Nat → Nat → Nat → List Nat → Bool
  | [], kd, _, _, lost => allK kd lost
  | s :: rest, kd, c, m, lost => (match m with | 0 => true | m' + 1 => fL (s ++ lost) fun lost' => dfsK rest kd c m' lost') && (match c with | 0 => dfsK rest kd 0 m lost | c' + 1 => addsK s kd fun kd' => dfsK rest kd' c' m lost)
theorem dfsK_eq (S : List (List Nat)) (kd : List Nat) (c m : Nat) (l1 l2 : List Nat) (hl : ∀ r, r ∈ l2 → r ∈ l1) (h : dfsK S kd c m l1 = true) : dfs S kd c m l2 = true := by
  induction S generalizing kd c m l1 l2 with
  | nil =>
    simp only [dfsK, dfs, allK_eq, List.all_eq_true] at *
    exact fun r hr => h r (hl r hr)
  | cons s rest ih =>
    simp only [dfsK, dfs, Bool.and_eq_true, fL_eq, addsK_eq] at *
    refine ⟨?_, ?_⟩
    · cases m with
      | zero => rfl
      | succ m => exact ih _ _ _ _ _ (by intro r hr; rw [List.mem_append] at hr ⊢; rcases hr with hr | hr; exact Or.inr (hl r hr); exact Or.inl hr) h.1
    · cases c with
      | zero => exact ih _ _ _ _ _ hl h.2
      | succ c => exact ih _ _ _ _ _ hl h.2
end Sh
end Go.Proofs.Ytfnfnmonnfcpeab
