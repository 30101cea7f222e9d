import Derived.Test.YthhbpofcemoflabW21
import Derived.Test.YthhbpofcemoflabGb
namespace Go.Proofs.Ythhbpofcemoflab
open Go.RowKit
set_option maxRecDepth 20000

theorem pick_any (c n : Int) (w : World) (hl : -9223372036854775808 ≤ c) (hn : 1 ≤ n) :
    Calls Try.prog 11 #[.int .i64 c, .int .i64 n] w fun e w' => ∃ r : Nat, e = .returned (.int .i64 r) ∧ (r : Int) < n ∧ w' = w := by
  by_cases h : 0 ≤ c
  · refine (pick_pos c n w h hn).mono ?_
    rintro e w' ⟨rfl, rfl⟩
    have h1 := Int.emod_nonneg c (show n ≠ 0 by omega)
    have h2 := Int.emod_lt_of_pos c (show 0 < n by omega)
    exact ⟨(c % n).toNat, ret_int (by omega), by omega, rfl⟩
  · refine (pick_neg c n w (by omega) hl hn).mono ?_
    rintro e w' ⟨rfl, rfl⟩
    have h1 := Int.emod_nonneg (-1 - c) (show n ≠ 0 by omega)
    have h2 := Int.emod_lt_of_pos (-1 - c) (show 0 < n by omega)
    exact ⟨((-1 - c) % n).toNat, ret_int (by omega), by omega, rfl⟩

set_option maxHeartbeats 400000 in
theorem set_zero (w : World) :
    Calls Try.prog 27 #[.agg #[.int .i64 0, .int .i64 0, .int .i64 0, .int .i64 0]] w fun e w' => e = .returned (.bool false) ∧ Below w.heap.size w w' := by
  go_enter Try.func27, Try.ntmps27
  go_wp2
  go_ret
  exact ⟨rfl, (Below.refl _ _).alloc (Nat.le_refl _) _⟩

set_option maxHeartbeats 1000000 in
theorem new_zero (kind : Int) (K M : Nat) (N gd : Int) (w : World) (h : Sh.Ok kind K M N gd) :
    Calls Try.prog 15 #[.agg #[.int .i64 kind, .int .i64 K, .int .i64 M, .int .i64 N, .int .i64 gd], .agg #[.int .i64 0, .int .i64 0, .int .i64 0, .int .i64 0]] w
      fun e w' => e = .returned (.tuple #[.pointer none, .int .i64 2]) ∧ Below w.heap.size w w' := by
  have HE := hide (fun w => ex_ok kind K M N gd w h)
  have HS := hide (fun w => set_zero w)
  clear h
  go_enter Try.func15, Try.ntmps15
  go_wp2_with (first | (go_at_call 26; refine (HE.out _).mono ?_; rintro e w1 ⟨rfl, hb1⟩; have q0 := box_cell2b hb1 (by simp <;> omega) 0 rfl; have q1 := box_cell2b hb1 (by simp <;> omega) 1 rfl; have q2 := box_cell2b hb1 (by simp <;> omega) 2 rfl; have q3 := box_cell2b hb1 (by simp <;> omega) 3 rfl; have hs1 := box_size2 hb1) | (go_at_call 27; refine (HS.out _).mono ?_; rintro e w2 ⟨rfl, hb2⟩; have hb12 := hb1.trans (hb2.mono hb1.size)))
  go_ret2
  exact ⟨rfl, (((Below.refl _ _).alloc (Nat.le_refl _) _).alloc (by simp) _).trans (hb12.mono (by simp; omega))⟩

end Go.Proofs.Ythhbpofcemoflab
