import Derived.Test.YthhbpofcemoflaaGw
namespace Go.Proofs.Ythhbpofcemoflaa
open Go.RowKit
set_option maxRecDepth 20000
theorem sumsT_any (c : Int) (s o : ByteArray) (w : World) (hc : -9223372036854775808 ≤ c ∧ c ≤ 9223372036854775807) (hs : s.size ≤ maxLen) (ho : o.size ≤ maxLen) : Calls Try.prog 4 #[.int .i64 c, .string s, .string o] w fun e w' => e = .returned (.bool true) ∧ Below w.heap.size w w' := by
  go_enter Try.func4, Try.ntmps4
  go_wp2_with fail
  refine (some_any s _ hs).mono ?_
  rintro e w1 ⟨t, rfl, ht, rfl⟩
  go_wp2_with fail
  refine (some_any o _ ho).mono ?_
  rintro e w1 ⟨u, rfl, hu, rfl⟩
  go_wp2_with fail
  refine (summed_any c t u _ hc.1 ht hu).mono ?_
  rintro e w2 ⟨rfl, hb⟩
  go_wp2
  go_ret
  exact ⟨rfl, hb⟩
end Go.Proofs.Ythhbpofcemoflaa
