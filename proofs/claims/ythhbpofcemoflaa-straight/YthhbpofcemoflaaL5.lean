import Derived.Test.YthhbpofcemoflaaL4
namespace Go.Proofs.Ythhbpofcemoflaa
open Go.RowKit
set_option maxRecDepth 20000
theorem straightT_any (c : Int) (s : ByteArray) (w : World) (hc : -9223372036854775808 ≤ c ∧ c ≤ 9223372036854775807) (hs : s.size ≤ maxLen) : Calls Try.prog 3 #[.int .i64 c, .string s] w fun e w' => e = .returned (.bool true) ∧ Below w.heap.size w w' := by
  go_enter Try.func3, Try.ntmps3
  go_wp2_with fail
  refine (some_any s _ hs).mono ?_
  rintro e w1 ⟨t, rfl, ht, rfl⟩
  go_wp2_with fail
  refine (straight_any c t _ hc.1 ht).mono ?_
  rintro e w2 ⟨rfl, hb⟩
  go_wp2
  go_ret
  exact ⟨rfl, hb⟩
end Go.Proofs.Ythhbpofcemoflaa
