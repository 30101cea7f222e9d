import Derived.Test.YtfnfnmonnfcpeabPureZ
import Derived.Test.YtfnfnmonnfcpeabL1
namespace Go.Proofs.Ytfnfnmonnfcpeab
open Go.RowKit
set_option maxRecDepth 20000
namespace Sh
def pbB (kind : Int) (K M : Nat) (N gd : Int) : Bool := (parity kind K M N gd).all fun s => decide (0 ≤ s) && decide (s < 281474976710656)
set_option maxRecDepth 100000 in
theorem cds_pbB : ∀ t ∈ cds, pbB t.1 t.2.1 t.2.2.1 t.2.2.2.1 t.2.2.2.2 = true := by decide +kernel
theorem cds_pb : ∀ t ∈ cds, Pb t.1 t.2.1 t.2.2.1 t.2.2.2.1 t.2.2.2.2 := by
  intro t ht s hs
  have h := cds_pbB t ht
  simp only [pbB, List.all_eq_true, Bool.and_eq_true, decide_eq_true_eq] at h
  have := h s hs
  exact ⟨this.1, by omega⟩
end Sh
end Go.Proofs.Ytfnfnmonnfcpeab
