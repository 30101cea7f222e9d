import Derived.Test.YthhbpofcemoflabGk
namespace Go.Proofs.Ythhbpofcemoflab
open Go.RowKit
set_option maxRecDepth 20000
namespace Sh
/-- of which rows row i of the parity is the sum when shard j is turned -/
def part (s a R : Nat) : Nat := s / 2 ^ a &&& (2 ^ R - 1)
def tn (s a b R i : Nat) : Nat := (2 ^ i ||| part s a R * 2 ^ b) ||| part s a R * 2 ^ (b + R)
def turnS (kind : Int) (K M : Nat) (N gd : Int) (j : Nat) : List Int := (List.range (M * R kind N)).map fun i => ((tn ((parity kind K M N gd).getD i 0).toNat (j * R kind N) (M * R kind N) (R kind N) i : Nat) : Int)
theorem part_lt (s a R : Nat) : part s a R < 2 ^ R := by
  have := Nat.two_pow_pos R
  have h : part s a R ≤ 2 ^ R - 1 := Nat.and_le_right
  omega
theorem part_bit (s a R k : Nat) : (part s a R).testBit k = (decide (k < R) && s.testBit (a + k)) := by
  unfold part
  rw [Nat.testBit_and, Nat.testBit_two_pow_sub_one, Nat.testBit_div_two_pow, Bool.and_comm, Nat.add_comm]
theorem mul_pow_bit (x b k : Nat) : (x * 2 ^ b).testBit k = (decide (b ≤ k) && x.testBit (k - b)) := by
  rw [Nat.mul_comm, Nat.testBit_two_pow_mul]
theorem tn_bit (s a b R i k : Nat) : (tn s a b R i).testBit k = ((decide (i = k) || (decide (b ≤ k ∧ k < b + R) && s.testBit (a + (k - b)))) || (decide (b + R ≤ k ∧ k < b + R + R) && s.testBit (a + (k - (b + R))))) := by
  unfold tn
  rw [Nat.testBit_or, Nat.testBit_or, Nat.testBit_two_pow, mul_pow_bit, mul_pow_bit, part_bit, part_bit]
  congr 1
  · congr 1
    by_cases c1 : b ≤ k <;> by_cases c2 : k < b + R
    · rw [decide_eq_true c1, decide_eq_true (by omega : k - b < R), decide_eq_true (⟨c1, c2⟩ : b ≤ k ∧ k < b + R)]; simp
    · rw [decide_eq_false (by omega : ¬ k - b < R), decide_eq_false (by omega : ¬ (b ≤ k ∧ k < b + R))]; simp
    · rw [decide_eq_false c1, decide_eq_false (by omega : ¬ (b ≤ k ∧ k < b + R))]; simp
    · rw [decide_eq_false c1, decide_eq_false (by omega : ¬ (b ≤ k ∧ k < b + R))]; simp
  · by_cases c1 : b + R ≤ k <;> by_cases c2 : k < b + R + R
    · rw [decide_eq_true c1, decide_eq_true (by omega : k - (b + R) < R), decide_eq_true (⟨c1, c2⟩ : b + R ≤ k ∧ k < b + R + R)]; simp
    · rw [decide_eq_false (by omega : ¬ k - (b + R) < R), decide_eq_false (by omega : ¬ (b + R ≤ k ∧ k < b + R + R))]; simp
    · rw [decide_eq_false c1, decide_eq_false (by omega : ¬ (b + R ≤ k ∧ k < b + R + R))]; simp
    · rw [decide_eq_false c1, decide_eq_false (by omega : ¬ (b + R ≤ k ∧ k < b + R + R))]; simp
theorem tn_lt (s a b R i : Nat) (hi : i < b) (n : Nat) (hn : b + R + R ≤ n) : tn s a b R i < 2 ^ n := by
  unfold tn
  have hp := part_lt s a R
  have h1 : part s a R * 2 ^ b < 2 ^ n := by
    have : part s a R * 2 ^ b < 2 ^ R * 2 ^ b := Nat.mul_lt_mul_of_pos_right hp (Nat.two_pow_pos b)
    rw [← Nat.pow_add] at this
    exact Nat.lt_of_lt_of_le this (Nat.pow_le_pow_right (by decide) (by omega))
  have h2 : part s a R * 2 ^ (b + R) < 2 ^ n := by
    have : part s a R * 2 ^ (b + R) < 2 ^ R * 2 ^ (b + R) := Nat.mul_lt_mul_of_pos_right hp (Nat.two_pow_pos _)
    rw [← Nat.pow_add] at this
    exact Nat.lt_of_lt_of_le this (Nat.pow_le_pow_right (by decide) (by omega))
  have h3 : 2 ^ i < 2 ^ n := Nat.pow_lt_pow_right (by decide) (by omega)
  exact Nat.or_lt_two_pow (Nat.or_lt_two_pow h3 h1) h2
theorem wrapN (x : Nat) (h : x < 2 ^ 64) : IntKind.u64.wrap (x : Int) = (x : Int) := wrapu64 _ (by omega) (by omega)
theorem tn_val (s a b R k : Nat) (hs : s < 2 ^ 48) (hR : R ≤ 6) (hb : b ≤ 40) (hk : k < b) :
    bits .or .u64 (bits .or .u64 (IntKind.u64.wrap (2 ^ k)) (IntKind.u64.wrap (bits .and .u64 ((s : Int) / 2 ^ a) (IntKind.u64.wrap (IntKind.u64.wrap (2 ^ R) - 1)) * 2 ^ b))) (IntKind.u64.wrap (bits .and .u64 ((s : Int) / 2 ^ a) (IntKind.u64.wrap (IntKind.u64.wrap (2 ^ R) - 1)) * 2 ^ (b + R))) = ((tn s a b R k : Nat) : Int) := by
  have p1 : ∀ n : Nat, n < 64 → IntKind.u64.wrap (2 ^ n) = ((2 ^ n : Nat) : Int) := by
    intro n hn
    rw [show (2 : Int) ^ n = ((2 ^ n : Nat) : Int) by simp]
    exact wrapN _ (Nat.pow_lt_pow_right (by decide) hn)
  have h1 : IntKind.u64.wrap (IntKind.u64.wrap (2 ^ R) - 1) = ((2 ^ R - 1 : Nat) : Int) := by
    rw [p1 R (by omega)]
    have hp := Nat.two_pow_pos R
    have hl : 2 ^ R ≤ 2 ^ 6 := Nat.pow_le_pow_right (by decide) hR
    rw [show ((2 ^ R : Nat) : Int) - 1 = ((2 ^ R - 1 : Nat) : Int) by omega]
    exact wrapN _ (by omega)
  have h2 : bits .and .u64 ((s : Int) / 2 ^ a) (IntKind.u64.wrap (IntKind.u64.wrap (2 ^ R) - 1)) = ((part s a R : Nat) : Int) := by
    rw [h1, show (s : Int) / 2 ^ a = ((s / 2 ^ a : Nat) : Int) by simp]
    have hl : 2 ^ R ≤ 2 ^ 6 := Nat.pow_le_pow_right (by decide) hR
    exact bits_andu _ _ (Nat.lt_of_le_of_lt (Nat.div_le_self _ _) (by omega)) (by omega)
  have hp := part_lt s a R
  have h3 : ∀ n : Nat, n + R < 64 → IntKind.u64.wrap (((part s a R : Nat) : Int) * 2 ^ n) = ((part s a R * 2 ^ n : Nat) : Int) ∧ part s a R * 2 ^ n < 2 ^ 64 := by
    intro n hn
    have : part s a R * 2 ^ n < 2 ^ R * 2 ^ n := Nat.mul_lt_mul_of_pos_right hp (Nat.two_pow_pos n)
    rw [← Nat.pow_add] at this
    have h64 : part s a R * 2 ^ n < 2 ^ 64 := Nat.lt_of_lt_of_le this (Nat.pow_le_pow_right (by decide) (by omega))
    refine ⟨?_, h64⟩
    rw [show ((part s a R : Nat) : Int) * 2 ^ n = ((part s a R * 2 ^ n : Nat) : Int) by simp]
    exact wrapN _ h64
  have hk64 : 2 ^ k < 2 ^ 64 := Nat.pow_lt_pow_right (by decide) (by omega)
  rw [h2, (h3 b (by omega)).1, (h3 (b + R) (by omega)).1, p1 k (by omega), bits_oru _ _ hk64 (h3 b (by omega)).2, bits_oru _ _ (Nat.or_lt_two_pow hk64 (h3 b (by omega)).2) (h3 (b + R) (by omega)).2]
  rfl
/-- a window of a sum -/
theorem xn_window (s : Nat) (f : Nat → Nat) (a R n : Nat) (hn : a + R ≤ n) : xn s (fun r => if a ≤ r ∧ r < a + R then f (r - a) else 0) n = xn (s / 2 ^ a) f R := by
  have key : ∀ k, xn s (fun r => if a ≤ r ∧ r < a + R then f (r - a) else 0) k = xn (s / 2 ^ a) f (min R (k - a)) := by
    intro k
    induction k with
    | zero => simp [xn]
    | succ k ih =>
      simp only [xn, ih]
      by_cases c : a ≤ k ∧ k < a + R
      · rw [if_pos c, show min R (k + 1 - a) = min R (k - a) + 1 by omega]
        simp only [xn]
        rw [Nat.testBit_div_two_pow, show min R (k - a) + a = k by omega, show min R (k - a) = k - a by omega]
      · rw [if_neg c, Nat.xor_zero, show min R (k + 1 - a) = min R (k - a) by omega]
        split <;> rfl
  rw [key n, show min R (n - a) = R by omega]
/-- a sum over three lists -/
theorem xn_tn (s a b R i : Nat) (hi : i < b) (e : Nat → Nat) : xn (tn s a b R i) e (b + R + R) = (e i ^^^ xn (s / 2 ^ a) (fun r => e (b + r)) R) ^^^ xn (s / 2 ^ a) (fun r => e (b + R + r)) R := by
  have k1 : ∀ k, k ≤ b → xn (tn s a b R i) e k = if i < k then e i else 0 := by
    intro k hk
    induction k with
    | zero => rfl
    | succ k ih =>
      have hb : (tn s a b R i).testBit k = decide (i = k) := by
        rw [tn_bit, decide_eq_false (by omega : ¬ (b ≤ k ∧ k < b + R)), decide_eq_false (by omega : ¬ (b + R ≤ k ∧ k < b + R + R))]; simp
      simp only [xn, hb, ih (by omega), decide_eq_true_eq]
      by_cases c : i = k
      · subst c; simp
      · rw [if_neg c]
        by_cases c2 : i < k
        · rw [if_pos c2, if_pos (by omega)]
        · rw [if_neg c2, if_neg (by omega)]
  have k2 : ∀ k, k ≤ R → xn (tn s a b R i) e (b + k) = e i ^^^ xn (s / 2 ^ a) (fun r => e (b + r)) k := by
    intro k hk
    induction k with
    | zero => rw [Nat.add_zero, k1 b (Nat.le_refl _), if_pos hi]; simp [xn]
    | succ k ih =>
      have hb : (tn s a b R i).testBit (b + k) = (s / 2 ^ a).testBit k := by
        rw [tn_bit, Nat.testBit_div_two_pow, decide_eq_false (by omega : ¬ i = b + k), decide_eq_true (by omega : b ≤ b + k ∧ b + k < b + R), decide_eq_false (by omega : ¬ (b + R ≤ b + k ∧ b + k < b + R + R)), show b + k - b = k by omega]; simp [Nat.add_comm]
      rw [← Nat.add_assoc]
      simp only [xn, hb, ih (by omega)]
      split
      · rw [Nat.xor_assoc]
      · rfl
  have k3 : ∀ k, k ≤ R → xn (tn s a b R i) e (b + R + k) = (e i ^^^ xn (s / 2 ^ a) (fun r => e (b + r)) R) ^^^ xn (s / 2 ^ a) (fun r => e (b + R + r)) k := by
    intro k hk
    induction k with
    | zero => rw [Nat.add_zero, k2 R (Nat.le_refl _)]; simp [xn]
    | succ k ih =>
      have hb : (tn s a b R i).testBit (b + R + k) = (s / 2 ^ a).testBit k := by
        rw [tn_bit, Nat.testBit_div_two_pow, decide_eq_false (by omega : ¬ i = b + R + k), decide_eq_false (by omega : ¬ (b ≤ b + R + k ∧ b + R + k < b + R)), decide_eq_true (by omega : b + R ≤ b + R + k ∧ b + R + k < b + R + R), show b + R + k - (b + R) = k by omega]; simp [Nat.add_comm]
      rw [← Nat.add_assoc]
      simp only [xn, hb, ih (by omega)]
      split
      · rw [Nat.xor_assoc]
      · rfl
  exact k3 R (Nat.le_refl _)
/-- WHAT IS UPDATED IS WHAT IS ENCODED ANEW -/
theorem turn_anew {kind : Int} {K M : Nat} {N gd : Int} (hOk : Ok kind K M N gd) (hP : Pb kind K M N gd) {size : Nat} {X : List (List Int)} (hX : X.length = K) (bX : Bytes X) {j : Nat} {x y : List Int} (hx : X[j]? = some x) (by' : ∀ b ∈ y, Byte b) :
    parG (R kind N) (M + 2) M size (turnS kind K M N gd j) (parB kind K M N gd size X ++ [x, y]) = parB kind K M N gd size (X.set j y) := by
  obtain ⟨hK, hM, h10, hR1, hR2, hKR, hMR, hPL⟩ := hOk.bounds
  have hj : j < K := by rw [← hX]; exact (List.getElem?_eq_some_iff.1 hx).1
  have hjR : j * R kind N + R kind N ≤ K * R kind N := by
    have : (j + 1) * R kind N ≤ K * R kind N := Nat.mul_le_mul_right _ hj
    rw [Nat.add_mul, Nat.one_mul] at this
    exact this
  have hFb : Bytes (parB kind K M N gd size X ++ [x, y]) := by
    intro z hz b hb
    rw [List.mem_append] at hz
    rcases hz with hz | hz
    · exact parB_bytes kind K M N gd size X z hz b hb
    · simp only [List.mem_cons, List.not_mem_nil, or_false] at hz
      rcases hz with rfl | rfl
      · exact bX z (List.mem_of_getElem? hx) b hb
      · exact by' b hb
  have bX' : Bytes (X.set j y) := by
    intro z hz b hb
    rcases List.mem_or_eq_of_mem_set hz with hz | rfl
    · exact bX z hz b hb
    · exact by' b hb
  rw [parG_eq _ _ _ _ _ _ hFb (by simp [turnS])]
  unfold parB
  apply List.map_congr_left
  intro k hk
  have hk : k < M := by simpa using hk
  rw [List.flatMap_def, List.flatMap_def]
  congr 1
  apply List.map_congr_left
  intro q hq
  have hq : q < R kind N := by simpa using hq
  apply List.map_congr_left
  intro i hi
  have hi : i < size := by simpa using hi
  have hkq : k * R kind N + q < M * R kind N := by
    have : (k + 1) * R kind N ≤ M * R kind N := Nat.mul_le_mul_right _ hk
    rw [Nat.add_mul, Nat.one_mul] at this
    omega
  have hts : (turnS kind K M N gd j).getD (k * R kind N + q) 0 = ((tn ((parity kind K M N gd).getD (k * R kind N + q) 0).toNat (j * R kind N) (M * R kind N) (R kind N) (k * R kind N + q) : Nat) : Int) := by
    unfold turnS
    rw [List.getD_eq_getElem?_getD, List.getElem?_map, List.getElem?_range hkq]
    rfl
  have hs : 0 ≤ (parity kind K M N gd).getD (k * R kind N + q) 0 ∧ (parity kind K M N gd).getD (k * R kind N + q) 0 < 2 ^ 48 := by
    rw [List.getD_eq_getElem?_getD, List.getElem?_eq_getElem (by rw [hPL]; exact hkq)]
    exact hP _ (List.getElem_mem _)
  have hpb : pb kind K M N gd size (X.set j y) (k * R kind N + q) i = xs ((parity kind K M N gd).getD (k * R kind N + q) 0) (env0 (rowsD (R kind N) size (X.set j y)) i) (K * R kind N) := rfl
  have hpb0 : pb kind K M N gd size X (k * R kind N + q) i = xs ((parity kind K M N gd).getD (k * R kind N + q) 0) (env0 (rowsD (R kind N) size X) i) (K * R kind N) := rfl
  have hF : ∀ r, Byte (env0 (rowsD (R kind N) size (parB kind K M N gd size X ++ [x, y])) i r) := fun r => env0_byte (rowsD_bytes hFb) i r
  have hE : ∀ r, Byte (env0 (rowsD (R kind N) size X) i r) := fun r => env0_byte (rowsD_bytes bX) i r
  have hE' : ∀ r, Byte (env0 (rowsD (R kind N) size (X.set j y)) i r) := fun r => env0_byte (rowsD_bytes bX') i r
  rw [hts, hpb]
  show xs _ (env0 (rowsD (R kind N) size (parB kind K M N gd size X ++ [x, y])) i) _ = _
  -- the three kinds of rows
  have hl0 : (parB kind K M N gd size X).length = M := parB_len _ _ _ _ _ _ _
  have f0 : env0 (rowsD (R kind N) size (parB kind K M N gd size X ++ [x, y])) i (k * R kind N + q) = pb kind K M N gd size X (k * R kind N + q) i := by
    obtain ⟨z, hz⟩ : ∃ z, (parB kind K M N gd size X)[k]? = some z := ⟨_, List.getElem?_eq_getElem (by omega)⟩
    rw [env_row (x := z) (by rw [List.getElem?_append_left (by omega)]; exact hz) hq hi, List.getD_eq_getElem?_getD, (parB_each hz).2 q i hq hi]
    rfl
  have f1 : ∀ r, r < R kind N → env0 (rowsD (R kind N) size (parB kind K M N gd size X ++ [x, y])) i (M * R kind N + r) = x.getD (r * size + i) 0 := fun r hr => env_row (by rw [List.getElem?_append_right (by omega), hl0, Nat.sub_self]; rfl) hr hi
  have f2 : ∀ r, r < R kind N → env0 (rowsD (R kind N) size (parB kind K M N gd size X ++ [x, y])) i (M * R kind N + R kind N + r) = y.getD (r * size + i) 0 := fun r hr => by
    rw [show M * R kind N + R kind N + r = (M + 1) * R kind N + r by rw [Nat.add_mul, Nat.one_mul]]
    exact env_row (by rw [List.getElem?_append_right (by omega), hl0, Nat.add_sub_cancel_left]; rfl) hr hi
  generalize hs0 : (parity kind K M N gd).getD (k * R kind N + q) 0 = s at *
  obtain ⟨sN, rfl⟩ := Int.eq_ofNat_of_zero_le hs.1
  have hs64 : sN < 2 ^ 64 := by omega
  rw [Int.toNat_natCast, xs_xn (Nat.lt_trans (tn_lt sN (j * R kind N) (M * R kind N) (R kind N) (k * R kind N + q) hkq 52 (by omega)) (by decide)) hF, xs_xn hs64 hE', show (M + 2) * R kind N = M * R kind N + R kind N + R kind N by rw [Nat.add_mul]; omega, xn_tn _ _ _ _ _ hkq]
  congr 1
  have e0 : nat8 (env0 (rowsD (R kind N) size (parB kind K M N gd size X ++ [x, y])) i) (k * R kind N + q) = xn sN (nat8 (env0 (rowsD (R kind N) size X) i)) (K * R kind N) := by
    apply Int.ofNat_inj.1
    rw [nat8_cast hF, f0, hpb0, xs_xn hs64 hE]
  rw [e0]
  -- the data as it is: the data as it was, and the window
  have hen : ∀ r, r < K * R kind N → nat8 (env0 (rowsD (R kind N) size (X.set j y)) i) r = nat8 (env0 (rowsD (R kind N) size X) i) r ^^^ (if j * R kind N ≤ r ∧ r < j * R kind N + R kind N then (fun t => (x.getD (t * size + i) 0).toNat ^^^ (y.getD (t * size + i) 0).toNat) (r - j * R kind N) else 0) := by
    intro r hr
    have ha : r / R kind N < K := Nat.div_lt_of_lt_mul (by rw [Nat.mul_comm]; exact hr)
    have hc := Nat.mod_lt r (show 0 < R kind N by omega)
    have e : r = r / R kind N * R kind N + r % R kind N := by rw [Nat.mul_comm]; exact (Nat.div_add_mod r _).symm
    generalize r / R kind N = a at *
    generalize r % R kind N = c at *
    subst e
    obtain ⟨z, hz⟩ : ∃ z, X[a]? = some z := ⟨_, List.getElem?_eq_getElem (by omega)⟩
    unfold nat8
    by_cases c2 : a = j
    · subst c2
      rw [hx] at hz
      injection hz with hz
      subst hz
      rw [if_pos (by omega), env_row hx hc hi, env_row (x := y) (by rw [List.getElem?_set_self (by omega)]) hc hi, Nat.add_sub_cancel_left]
      simp only
      rw [← Nat.xor_assoc, Nat.xor_self, Nat.zero_xor]
    · have hna : ¬ (j * R kind N ≤ a * R kind N + c ∧ a * R kind N + c < j * R kind N + R kind N) := by
        rintro ⟨h1, h2⟩
        rcases Nat.lt_or_gt_of_ne c2 with h | h
        · have : (a + 1) * R kind N ≤ j * R kind N := Nat.mul_le_mul_right _ h
          rw [Nat.add_mul, Nat.one_mul] at this
          omega
        · have : (j + 1) * R kind N ≤ a * R kind N := Nat.mul_le_mul_right _ h
          rw [Nat.add_mul, Nat.one_mul] at this
          omega
      rw [if_neg hna, env_row hz hc hi, env_row (x := z) (by rw [List.getElem?_set_ne (by omega)]; exact hz) hc hi, Nat.xor_zero]
  rw [xn_congr sN hen, xn_env, xn_window _ (fun t => (x.getD (t * size + i) 0).toNat ^^^ (y.getD (t * size + i) 0).toNat) _ _ _ hjR, xn_env, Nat.xor_assoc]
  congr 2
  · apply xn_congr
    intro r hr
    unfold nat8
    rw [f1 r hr]
  · apply xn_congr
    intro r hr
    unfold nat8
    rw [f2 r hr]
end Sh
end Go.Proofs.Ythhbpofcemoflab
