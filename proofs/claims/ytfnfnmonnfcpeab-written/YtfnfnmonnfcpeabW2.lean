import Derived.Test.YtfnfnmonnfcpeabW1
namespace Go.Proofs.Ytfnfnmonnfcpeab
open Go.RowKit
set_option maxRecDepth 20000

theorem pow_small {d : Nat} (h1 : 1 ≤ d) (h4 : d ≤ 4) : ((2 : Nat) ^ d ≤ 16 ∧ 1 ≤ (2 : Nat) ^ d) ∧ ((2 ^ d : Nat) : Int) = (2 : Int) ^ d := by
  rcases (by omega : d = 1 ∨ d = 2 ∨ d = 3 ∨ d = 4) with rfl | rfl | rfl | rfl <;> decide

set_option maxHeartbeats 400000 in
theorem over_zero (d : Nat) (a : Int) (w : World) :
    Calls Try.prog 71 #[.agg #[.int .i64 d, .int .i64 (Sh.mod d)], .int .i64 a, .int .i64 0] w fun e w' => e = .returned (.int .i64 (Sh.over d (Sh.mod d) a 0)) ∧ Below w.heap.size w w' := by
  generalize hm : Sh.mod d = m
  have Hm : Hid (Sh.mod d = m) := hm
  clear hm
  go_enter Try.func71, Try.ntmps71
  go_wp2
  go_ret
  exact ⟨ret_int (by simp [Sh.over]), (Below.refl _ _).alloc (Nat.le_refl _) _⟩

set_option maxHeartbeats 400000 in
theorem over_pos (d : Nat) (a b : Int) (w : World) (h1 : 1 ≤ d) (h4 : d ≤ 4) (hb : (b == 0) = false) :
    Calls Try.prog 71 #[.agg #[.int .i64 d, .int .i64 (Sh.mod d)], .int .i64 a, .int .i64 b] w fun e w' => e = .returned (.int .i64 (Sh.over d (Sh.mod d) a b)) ∧ Below w.heap.size w w' := by
  have ht := times_any d
  have Ht : Hid (∀ (a b : Int) (w : World), 1 ≤ d → d ≤ 4 → Sh.In d a → Calls Try.prog 72 #[.agg #[.int .i64 d, .int .i64 (Sh.mod d)], .int .i64 a, .int .i64 b] w fun e w' => e = .returned (.int .i64 (Sh.times d (Sh.mod d) a b)) ∧ Below w.heap.size w w') := ht
  clear ht
  generalize hm : Sh.mod d = m at *
  have Hm : Hid (Sh.mod d = m) := hm
  clear hm
  obtain ⟨⟨p16, p1⟩, pe⟩ := pow_small h1 h4
  generalize hN : (2 : Nat) ^ d = N at *
  have HN : Hid ((2 : Nat) ^ d = N) := hN
  have hw : wrap64 (2 ^ d) = (N : Int) := by rw [← pe]; exact IntWalk.wrap64_in _ ⟨by omega, by omega⟩
  have HP : Hid ((N : Int) = 2 ^ d) := pe
  clear hN pe
  go_enter Try.func71, Try.ntmps71
  go_wp2
  rw [hw]
  clear hw
  go_loopw [7, 8, 15] (fun _ _ i wr => ∃ k : Nat, k ≤ N ∧ i = .int .i64 k ∧ (∀ q : Nat, q < k → ¬ Sh.times d m q b = a) ∧ Below (w.heap.size + 1) (w.alloc (.cells #[.int .i64 d, .int .i64 m] 109)) wr) (fun _ _ i _ => N - (intOf i).toNat)
  case atStart => exact ⟨0, Nat.zero_le _, rfl, by intro q hq; omega, Below.refl _ _⟩
  case round =>
    obtain ⟨k, hk, rfl, hno, hbl⟩ := hrel
    have Hno : Hid (∀ q : Nat, q < k → ¬ Sh.times d m q b = a) := hno
    clear hno
    have hc0 := box_cell hbl (by simp) 0 rfl
    have hc1 := box_cell hbl (by simp) 1 rfl
    have hsz := box_size hbl
    by_cases hlt : k < N
    · have hin : Sh.In d (k : Int) := ⟨by omega, by have := HP.out; simp only [Int.toNat_natCast]; omega⟩
      have Hc := Ht.out (k : Int) b
      have HC : Hid _ := Hc
      clear Hc
      by_cases heq : Sh.times d m k b = a
      · have hq : (Sh.times d m k b == a) = true := by simp [heq]
        have Heq : Hid (Sh.times d m k b = a) := heq
        clear heq
        go_wp2_with (go_at_call 72; refine (HC.out _ h1 h4 hin).mono ?_; rintro e w' ⟨rfl, hb1⟩)
        go_ret
        exact ⟨ret_int (Sh.over_hit hb (by simpa [HN.out] using hlt) Heq.out Hno.out).symm, (((Below.refl _ _).alloc (Nat.le_refl _) _).trans (hbl.mono (by simp))).trans (hb1.mono (by omega))⟩
      · have hq : (Sh.times d m k b == a) = false := by simp [heq]
        go_wp2_with (go_at_call 72; refine (HC.out _ h1 h4 hin).mono ?_; rintro e w' ⟨rfl, hb1⟩)
        go_roundw
        case rel => exact ⟨k + 1, by omega, by go_num, Sh.no_succ Hno.out heq, hbl.trans (hb1.mono (by omega))⟩
        case measure => simp [intOf]; omega
    · have hkd : k = N := by omega
      subst hkd
      go_wp2
      go_ret
      exact ⟨ret_int (Sh.over_miss hb (by simpa [HN.out] using Hno.out)).symm, ((Below.refl _ _).alloc (Nat.le_refl _) _).trans (hbl.mono (by simp))⟩

theorem over_any (d : Nat) (a b : Int) (w : World) (h1 : 1 ≤ d) (h4 : d ≤ 4) :
    Calls Try.prog 71 #[.agg #[.int .i64 d, .int .i64 (Sh.mod d)], .int .i64 a, .int .i64 b] w fun e w' => e = .returned (.int .i64 (Sh.over d (Sh.mod d) a b)) ∧ Below w.heap.size w w' := by
  by_cases h : b = 0
  · subst h; exact over_zero d a w
  · exact over_pos d a b w h1 h4 (by simp [h])

end Go.Proofs.Ytfnfnmonnfcpeab
