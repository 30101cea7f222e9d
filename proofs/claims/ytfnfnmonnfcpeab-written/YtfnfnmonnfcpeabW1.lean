import Derived.Test.YtfnfnmonnfcpeabRows
import Derived.WalkKit
import Derived.WalkSpells
import Derived.WalkLawsBesides
import Derived.Test.YtfnfnmonnfcpeabPure
namespace Go.Proofs.Ytfnfnmonnfcpeab
open Go.RowKit
set_option maxRecDepth 20000

set_option maxHeartbeats 400000 in
theorem pick_pos (c n : Int) (w : World) (h : 0 ≤ c) (hn : 1 ≤ n) :
    Calls Try.prog 10 #[.int .i64 c, .int .i64 n] w fun e w' => e = .returned (.int .i64 (c % n)) ∧ w' = w := by
  go_enter Try.func10, Try.ntmps10
  go_wp2
  go_ret
  exact ⟨rfl, rfl⟩

set_option maxHeartbeats 400000 in
theorem pick_neg (c n : Int) (w : World) (h : c < 0) (hl : -9223372036854775808 ≤ c) (hn : 1 ≤ n) :
    Calls Try.prog 10 #[.int .i64 c, .int .i64 n] w fun e w' => e = .returned (.int .i64 ((-1 - c) % n)) ∧ w' = w := by
  go_enter Try.func10, Try.ntmps10
  go_wp2
  go_ret
  refine ⟨ret_int (a := -((c + 1).tmod n)) ?_, rfl⟩
  rw [← Int.neg_tmod, Int.tmod_eq_emod_of_nonneg (by omega)]
  congr 1
  omega

set_option maxHeartbeats 400000 in
theorem timesX_any (d m a : Int) (w : World) (hd : 0 ≤ d) (hd' : d ≤ 4) (ha : 0 ≤ a) (ha' : a ≤ 15) :
    Calls Try.prog 75 #[.agg #[.int .i64 d, .int .i64 m], .int .i64 a] w fun e w' => e = .returned (.int .i64 (Sh.tx d m a)) ∧ Below w.heap.size w w' := by
  go_enter Try.func75, Try.ntmps75
  go_wp2
  all_goals
    go_ret
    exact ⟨by first | exact ret_int (Sh.tx_t (by assumption)).symm | exact ret_int (Sh.tx_f (by assumption)).symm, (Below.refl _ _).alloc (Nat.le_refl _) _⟩

set_option maxHeartbeats 400000 in
theorem times_any (d : Nat) (a b : Int) (w : World) (h1 : 1 ≤ d) (h4 : d ≤ 4) (ha : Sh.In d a) :
    Calls Try.prog 72 #[.agg #[.int .i64 d, .int .i64 (Sh.mod d)], .int .i64 a, .int .i64 b] w fun e w' => e = .returned (.int .i64 (Sh.times d (Sh.mod d) a b)) ∧ Below w.heap.size w w' := by
  generalize hm : Sh.mod d = m
  have Hm : Hid (Sh.mod d = m) := hm
  clear hm
  go_enter Try.func72, Try.ntmps72
  go_wp2
  go_loopw [1, 7, 11] (fun x p i wr => ∃ k : Nat, k ≤ d ∧ i = .int .i64 k ∧ x = .int .i64 (Sh.tmA d m a k) ∧ p = .int .i64 (Sh.tmP d m a b k) ∧ Below (w.heap.size + 1) (w.alloc (.cells #[.int .i64 d, .int .i64 m] 109)) wr) (fun _ _ i _ => d - (intOf i).toNat)
  case atStart => exact ⟨0, Nat.zero_le _, rfl, rfl, rfl, Below.refl _ _⟩
  case round =>
    obtain ⟨k, hk, rfl, rfl, rfl, hbl⟩ := hrel
    have hA : Sh.In d (Sh.tmA d m a k) := by rw [← Hm.out]; exact Sh.in_tmA h1 h4 ha k
    have hA' := hA.le h4
    clear ha hA
    have hc0 := box_cell hbl (by simp) 0 rfl
    have hc1 := box_cell hbl (by simp) 1 rfl
    have hsz := box_size hbl
    by_cases hlt : k < d
    · go_wp2_with (go_at_call 75; refine (timesX_any _ _ _ _ (by omega) (by omega) (by omega) (by omega)).mono ?_; rintro e w' ⟨rfl, hb1⟩)
      all_goals
        go_roundw
        case rel => exact ⟨k + 1, by omega, by go_num, rfl, by first | exact val_int (Sh.tmP_t (by assumption)).symm | exact val_int (Sh.tmP_f (by assumption)).symm, hbl.trans (hb1.mono (by omega))⟩
        case measure => simp [intOf]; omega
    · have hkd : k = d := by omega
      subst hkd
      go_wp2
      go_ret
      exact ⟨ret_int (by simp [Sh.times]), ((Below.refl _ _).alloc (Nat.le_refl _) _).trans (hbl.mono (by simp))⟩

end Go.Proofs.Ytfnfnmonnfcpeab
