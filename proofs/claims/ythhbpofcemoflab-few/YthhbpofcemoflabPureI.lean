import Derived.Test.YthhbpofcemoflabGd
namespace Go.Proofs.Ythhbpofcemoflab
open Go.RowKit
set_option maxRecDepth 20000
namespace Sh
theorem opt0 (scr : Int) (G : Nat) (S : List Nat) : opt 0 scr G S = (0, sumsO G S.length S S.length) := by
  unfold opt
  rw [if_neg (by decide), if_neg (by decide), if_neg (by decide)]
/-- two sums with two terms in common -/
def Two (S : List Nat) : Prop := ∃ i j, j < i ∧ i < S.length ∧ (S.getD i 0 &&& S.getD j 0) &&& ((S.getD i 0 &&& S.getD j 0) - 1) ≠ 0
/-- the count that the best level is held against -/
def lst (G : Nat) (S : List Nat) : Nat → Nat
  | 0 => cnt 0 0 G S
  | j + 1 => cnt 3 ((4 * j : Nat) : Int) G S
theorem Fit.round {G : Nat} {S : List Nat} (h : Fit G S) (j : Nat) (hj : j ≤ 4) :
    cnt 3 ((4 * j : Nat) : Int) G S ≤ cnt 1 0 G S ∧ cnt 3 ((4 * j : Nat) : Int) G S ≤ cnt 2 ((4 * j : Nat) : Int) G S ∧ cnt 3 ((4 * j : Nat) : Int) G S ≤ lst G S j ∧ cnt 2 ((4 * j : Nat) : Int) G S ≤ cnt 0 0 G S ∧ (Two S → 1 ≤ j → cnt 2 ((4 * j : Nat) : Int) G S < cnt 0 0 G S) := by
  refine ⟨cnt3_1 _ _ _ _, cnt3_2 _ _ _, ?_, by rw [h.cnt0]; exact h.cnt2 (by omega), ?_⟩
  · cases j with
    | zero => show _ ≤ cnt 0 0 G S; rw [h.cnt0]; exact h.cnt3_0 _
    | succ j => exact h.cnt3_mono (by omega) (by omega)
  · rintro ⟨i, k, hki, hi, hc⟩ h1
    rw [h.cnt0]
    exact h.cnt2_lt (by omega) (by omega) hki hi hc
end Sh
end Go.Proofs.Ythhbpofcemoflab
