import Derived.Test.YtfnfnmonnfcpeabPure10
namespace Go.Proofs.Ytfnfnmonnfcpeab
open Go.RowKit
set_option maxRecDepth 20000
namespace Sh
def Byte (x : Int) : Prop := 0 ≤ x ∧ x ≤ 255
def bx (a b : Int) : Int := bits .xor .u8 a b
theorem bx_byte (a b : Int) : Byte (bx a b) := ⟨bits_lo_u8 _ _ _, bits_hi_u8 _ _ _⟩
theorem bx_nat (a b : Nat) (ha : a < 256) (hb : b < 256) : bx (a : Int) (b : Int) = ((a ^^^ b : Nat) : Int) := by
  have ha' : a % 2 ^ IntKind.u8.bits = a := Nat.mod_eq_of_lt ha
  have hb' : b % 2 ^ IntKind.u8.bits = b := Nat.mod_eq_of_lt hb
  have hx : a ^^^ b < 2 ^ 8 := Nat.xor_lt_two_pow (n := 8) ha hb
  simp only [bx, bits, BitVec.ofInt_natCast, BitVec.toNat_xor, BitVec.toNat_ofNat, ha', hb']
  exact wraps_u8 _ (Int.natCast_nonneg _) (by exact_mod_cast hx)
theorem byte_nat {x : Int} (h : Byte x) : ∃ n : Nat, x = n ∧ n < 256 := by
  obtain ⟨n, rfl⟩ := Int.eq_ofNat_of_zero_le h.1
  exact ⟨n, rfl, by have := h.2; omega⟩
theorem bx_zero {x : Int} (h : Byte x) : bx 0 x = x := by
  obtain ⟨n, rfl, hn⟩ := byte_nat h
  have := bx_nat 0 n (by decide) hn
  simpa using this
theorem bx_comm {x y : Int} (hx : Byte x) (hy : Byte y) : bx x y = bx y x := by
  obtain ⟨n, rfl, hn⟩ := byte_nat hx
  obtain ⟨m, rfl, hm⟩ := byte_nat hy
  rw [bx_nat n m hn hm, bx_nat m n hm hn, Nat.xor_comm]
theorem bx_assoc {x y z : Int} (hx : Byte x) (hy : Byte y) (hz : Byte z) : bx (bx x y) z = bx x (bx y z) := by
  obtain ⟨n, rfl, hn⟩ := byte_nat hx
  obtain ⟨m, rfl, hm⟩ := byte_nat hy
  obtain ⟨k, rfl, hk⟩ := byte_nat hz
  rw [bx_nat n m hn hm, bx_nat m k hm hk, bx_nat _ k (Nat.xor_lt_two_pow (n := 8) hn hm) hk, bx_nat n _ hn (Nat.xor_lt_two_pow (n := 8) hm hk), Nat.xor_assoc]
theorem bx_self {x : Int} (hx : Byte x) : bx x x = 0 := by
  obtain ⟨n, rfl, hn⟩ := byte_nat hx
  rw [bx_nat n n hn hn]
  simp
theorem bx_swap {a b c d : Int} (ha : Byte a) (hb : Byte b) (hc : Byte c) (hd : Byte d) : bx (bx a b) (bx c d) = bx (bx a c) (bx b d) := by
  rw [bx_assoc ha hb (bx_byte _ _), ← bx_assoc hb hc hd, bx_comm hb hc, bx_assoc hc hb hd, ← bx_assoc ha hc (bx_byte _ _)]
/-- the bits of a sum -/
def bit (s : Int) (k : Nat) : Bool := bits .and .u64 (s / 2 ^ k) 1 == 1
/-- the sum that a number stands for, over the first k of the given -/
def xs (s : Int) (env : Nat → Int) : Nat → Int
  | 0 => 0
  | k + 1 => if bit s k = true then bx (xs s env k) (env k) else xs s env k
theorem xs_t {s : Int} {env : Nat → Int} {k : Nat} (h : bit s k = true) : xs s env (k + 1) = bx (xs s env k) (env k) := if_pos h
theorem xs_f {s : Int} {env : Nat → Int} {k : Nat} (h : ¬ bit s k = true) : xs s env (k + 1) = xs s env k := if_neg h
theorem xs_byte (s : Int) (env : Nat → Int) (k : Nat) : Byte (xs s env k) := by
  induction k with
  | zero => exact ⟨(by decide : (0 : Int) ≤ 0), (by decide : (0 : Int) ≤ 255)⟩
  | succ k ih =>
    simp only [xs]
    split
    · exact bx_byte _ _
    · exact ih
theorem xs_congr (s : Int) (e1 e2 : Nat → Int) (k : Nat) (h : ∀ r, r < k → e1 r = e2 r) : xs s e1 k = xs s e2 k := by
  induction k with
  | zero => rfl
  | succ k ih => simp only [xs, ih (fun r hr => h r (by omega)), h k (by omega)]
theorem xs_none (s : Int) (env : Nat → Int) (k : Nat) (h : plK s k = 1) : xs s env k = 0 := by
  induction k with
  | zero => rfl
  | succ k ih =>
    simp only [plK] at h
    split at h
    · cases h
    · next c => rw [xs_f (s := s) (k := k) c]; exact ih h
theorem ev_append (a b : List (Int × Int × Int)) (env : Nat → Int) : ev (a ++ b) env = ev b (ev a env) := by simp [ev, List.foldl_append]
theorem nv_1 (x f : Int) : nv 1 x f = f := by simp [nv]
theorem nv_2 (x f : Int) : nv 2 x f = bx x f := by simp [nv, bx]
theorem ev_plO (s : Int) (t G : Nat) (hG : G ≤ t) (env : Nat → Int) (hb : ∀ r, r < G → Byte (env r)) (k : Nat) (hk : k ≤ G) :
    ev (plO s t k) env = fun r => if r = t then (if plK s k = 1 then env t else xs s env k) else env r := by
  induction k with
  | zero =>
    funext r
    simp only [plO, ev, List.foldl_nil, plK, if_true]
    split
    · next e => rw [e]
    · rfl
  | succ k ih =>
    have ih := ih (by omega)
    by_cases c : (bits .and .u64 (s / 2 ^ k) 1 == 1) = true
    · rw [plO_t c, ev_append, ih]
      funext r
      simp only [ev, List.foldl_cons, List.foldl_nil, stepE, Int.toNat_natCast, plK_t c]
      have hkt : ¬ k = t := by omega
      by_cases e : r = t
      · rw [if_pos e, if_pos e, if_pos trivial, if_neg hkt, if_neg (by decide : ¬ (2 : Int) = 1), xs_t (s := s) (k := k) c]
        rcases plK_12 s k with h1 | h2
        · rw [h1, xs_none s env k h1, nv_1]
          exact (bx_zero (hb k (by omega))).symm
        · rw [h2, nv_2, if_neg (by decide : ¬ (2 : Int) = 1)]
      · rw [if_neg e, if_neg e, if_neg e]
    · have c' : (bits .and .u64 (s / 2 ^ k) 1 == 1) = false := by simpa using c
      rw [plO_f c', ih]
      funext r
      rw [plK_f c', xs_f (s := s) (k := k) c]
theorem ev_plRow (s : Int) (t G : Nat) (hG : G ≤ t) (env : Nat → Int) (hb : ∀ r, r < G → Byte (env r)) :
    ev (plRow G s t) env = fun r => if r = t then xs s env G else env r := by
  unfold plRow
  rw [ev_append, ev_plO s t G hG env hb G (Nat.le_refl _)]
  by_cases c : plK s G = 1
  · have c' : (plK s G == 1) = true := beq_iff_eq.2 c
    rw [if_pos c']
    funext r
    simp only [ev, List.foldl_cons, List.foldl_nil, stepE, Int.toNat_natCast]
    by_cases e : r = t
    · rw [if_pos e, if_pos e, xs_none s env G c]
      rfl
    · rw [if_neg e, if_neg e, if_neg e]
  · have c' : ¬ (plK s G == 1) = true := fun h => c (beq_iff_eq.1 h)
    rw [if_neg c']
    funext r
    simp only [ev, List.foldl_nil]
    rw [if_neg c]
theorem ev_plA (G : Nat) (sums : List Int) (env : Nat → Int) (hb : ∀ r, r < G → Byte (env r)) (i : Nat) :
    ev (plA G sums i) env = fun r => if G ≤ r ∧ r < G + i then xs (sums.getD (r - G) 0) env G else env r := by
  induction i with
  | zero =>
    funext r
    simp only [plA, ev, List.foldl_nil]
    rw [if_neg (by omega)]
  | succ i ih =>
    have e : (G : Int) + (i : Int) = ((G + i : Nat) : Int) := by omega
    simp only [plA]
    rw [ev_append, ih, e, ev_plRow _ _ G (by omega) _ (by intro r hr; rw [if_neg (by omega)]; exact hb r hr)]
    funext r
    by_cases c : r = G + i
    · rw [if_pos c, if_pos (by omega), c, show G + i - G = i by omega]
      apply xs_congr
      intro q hq
      rw [if_neg (by omega)]
    · rw [if_neg c]
      by_cases c2 : G ≤ r ∧ r < G + i
      · rw [if_pos c2, if_pos (by omega)]
      · rw [if_neg c2, if_neg (by omega)]
theorem ev_plain (G : Nat) (sums : List Int) (env : Nat → Int) (hb : ∀ r, r < G → Byte (env r)) (j : Nat) (hj : j < sums.length) : ev (plain G sums) env (G + j) = xs (sums.getD j 0) env G := by
  unfold plain
  rw [ev_plA G sums env hb]
  simp only
  rw [if_pos (by omega), show G + j - G = j by omega]
end Sh
end Go.Proofs.Ytfnfnmonnfcpeab
