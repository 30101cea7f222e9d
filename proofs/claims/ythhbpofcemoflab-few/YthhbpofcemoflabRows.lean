/-
  No cell of these rows narrows 'for every input' (looked for: loops, veiled, ifaces, maps, wideKeys, modest, calm, conditions, laid).
  DERIVED. THE GIVEN ROWS OF THIS SEAT. 7 by the template 'for every input the law returns true; each argument reads behind the call as it read before'; 0 by the template 'total and deterministic' (their statements: YthhbpofcemoflabTotals.lean).
  GIVEN WITH THE SEED: the statements are not yours to turn. If you find one false, say at which input.
  Laid BY PROGRAM, IN A SANDBOX (cutbox-rows.mjs): the forced cells as the released guide's own fill.sh prints them over the translation 9a3d842ef864db6c… (all of the seat's roots in one cut). By AI agents, Wed Nov 11 2026. No macro, syntax, notation, axiom, sorry.
-/
import Derived.Test.YthhbpofcemoflabChecked
import GoSem.Claim
import GoSem.ClaimJoined
import GoSem.ClaimMapViews
import Derived.JoinedTies
import Derived.KernelRfl
namespace Go.Proofs.Ythhbpofcemoflab
/- THE CELL 'sum', in the pinned program and in every row, IS THE sha256 OF THE DUMP (.gsa) THAT YthhbpofcemoflabProg.lean LOADS. Nothing in Lean hashes anything: it is a label: what it is worth is what the hold of that sum in a sandbox is worth. -/
noncomputable def Try.pinned : Pinned := { name := "ythhbpofcemoflab", sum := "9a3d842ef864db6c4cb1f02b07f01f98696e82ed746094333b2299ce967ab056", checked := Try.checked }
namespace Rows
def none {H : Type} : Left H := { results := [], args := [] }

/-- 'shardskeep.Known': WHATEVER THE INPUT: true; the input reads as it did. -/
def knownSpec : ChangeSpec := { name := "known", fn := fun _ => fun
  | [d] => { results := [.lit (.bool true)], args := [d] }
  | _ => none }
def knownRow : OpenClaim := { program := "ythhbpofcemoflab", sum := "9a3d842ef864db6c4cb1f02b07f01f98696e82ed746094333b2299ce967ab056", func := "shards/shardskeep.Known", spec := "known", apart := false }
def KnownSaid : Prop := knownRow.holds Try.pinned (OpenSpec.ofChange knownSpec)

/-- ITS FALSE NEIGHBOUR: 'it returns false'. Refute it at one input. -/
def knownWrong : ChangeSpec := { name := "known", fn := fun _ => fun
  | [d] => { results := [.lit (.bool false)], args := [d] }
  | _ => none }
def KnownWrongFalsely : Prop := knownRow.holds Try.pinned (OpenSpec.ofChange knownWrong)

/-- 'shardskeep.Back': WHATEVER THE INPUT: true; the input reads as it did. -/
def backSpec : ChangeSpec := { name := "back", fn := fun _ => fun
  | [d1, d2, d3] => { results := [.lit (.bool true)], args := [d1, d2, d3] }
  | _ => none }
def backRow : OpenClaim := { program := "ythhbpofcemoflab", sum := "9a3d842ef864db6c4cb1f02b07f01f98696e82ed746094333b2299ce967ab056", func := "shards/shardskeep.Back", spec := "back", apart := false }
def BackSaid : Prop := backRow.holds Try.pinned (OpenSpec.ofChange backSpec)

/-- ITS FALSE NEIGHBOUR: 'it returns false'. Refute it at one input. -/
def backWrong : ChangeSpec := { name := "back", fn := fun _ => fun
  | [d1, d2, d3] => { results := [.lit (.bool false)], args := [d1, d2, d3] }
  | _ => none }
def BackWrongFalsely : Prop := backRow.holds Try.pinned (OpenSpec.ofChange backWrong)

/-- 'shardskeep.Renewed': WHATEVER THE INPUT: true; the input reads as it did. -/
def renewedSpec : ChangeSpec := { name := "renewed", fn := fun _ => fun
  | [d1, d2, d3, d4] => { results := [.lit (.bool true)], args := [d1, d2, d3, d4] }
  | _ => none }
def renewedRow : OpenClaim := { program := "ythhbpofcemoflab", sum := "9a3d842ef864db6c4cb1f02b07f01f98696e82ed746094333b2299ce967ab056", func := "shards/shardskeep.Renewed", spec := "renewed", apart := false }
def RenewedSaid : Prop := renewedRow.holds Try.pinned (OpenSpec.ofChange renewedSpec)

/-- ITS FALSE NEIGHBOUR: 'it returns false'. Refute it at one input. -/
def renewedWrong : ChangeSpec := { name := "renewed", fn := fun _ => fun
  | [d1, d2, d3, d4] => { results := [.lit (.bool false)], args := [d1, d2, d3, d4] }
  | _ => none }
def RenewedWrongFalsely : Prop := renewedRow.holds Try.pinned (OpenSpec.ofChange renewedWrong)

/-- 'shardskeep.Settled': WHATEVER THE INPUT: true; the input reads as it did. -/
def settledSpec : ChangeSpec := { name := "settled", fn := fun _ => fun
  | [d1, d2, d3] => { results := [.lit (.bool true)], args := [d1, d2, d3] }
  | _ => none }
def settledRow : OpenClaim := { program := "ythhbpofcemoflab", sum := "9a3d842ef864db6c4cb1f02b07f01f98696e82ed746094333b2299ce967ab056", func := "shards/shardskeep.Settled", spec := "settled", apart := false }
def SettledSaid : Prop := settledRow.holds Try.pinned (OpenSpec.ofChange settledSpec)

/-- ITS FALSE NEIGHBOUR: 'it returns false'. Refute it at one input. -/
def settledWrong : ChangeSpec := { name := "settled", fn := fun _ => fun
  | [d1, d2, d3] => { results := [.lit (.bool false)], args := [d1, d2, d3] }
  | _ => none }
def SettledWrongFalsely : Prop := settledRow.holds Try.pinned (OpenSpec.ofChange settledWrong)

/-- 'shardskeep.Many': WHATEVER THE INPUT: true; the input reads as it did. -/
def manySpec : ChangeSpec := { name := "many", fn := fun _ => fun
  | [d1, d2] => { results := [.lit (.bool true)], args := [d1, d2] }
  | _ => none }
def manyRow : OpenClaim := { program := "ythhbpofcemoflab", sum := "9a3d842ef864db6c4cb1f02b07f01f98696e82ed746094333b2299ce967ab056", func := "shards/shardskeep.Many", spec := "many", apart := false }
def ManySaid : Prop := manyRow.holds Try.pinned (OpenSpec.ofChange manySpec)

/-- ITS FALSE NEIGHBOUR: 'it returns false'. Refute it at one input. -/
def manyWrong : ChangeSpec := { name := "many", fn := fun _ => fun
  | [d1, d2] => { results := [.lit (.bool false)], args := [d1, d2] }
  | _ => none }
def ManyWrongFalsely : Prop := manyRow.holds Try.pinned (OpenSpec.ofChange manyWrong)

/-- 'shardskeep.Written': WHATEVER THE INPUT: true; the input reads as it did. -/
def writtenSpec : ChangeSpec := { name := "written", fn := fun _ => fun
  | [d1, d2, d3] => { results := [.lit (.bool true)], args := [d1, d2, d3] }
  | _ => none }
def writtenRow : OpenClaim := { program := "ythhbpofcemoflab", sum := "9a3d842ef864db6c4cb1f02b07f01f98696e82ed746094333b2299ce967ab056", func := "shards/shardskeep.Written", spec := "written", apart := false }
def WrittenSaid : Prop := writtenRow.holds Try.pinned (OpenSpec.ofChange writtenSpec)

/-- ITS FALSE NEIGHBOUR: 'it returns false'. Refute it at one input. -/
def writtenWrong : ChangeSpec := { name := "written", fn := fun _ => fun
  | [d1, d2, d3] => { results := [.lit (.bool false)], args := [d1, d2, d3] }
  | _ => none }
def WrittenWrongFalsely : Prop := writtenRow.holds Try.pinned (OpenSpec.ofChange writtenWrong)

/-- 'shardskeep.Few': WHATEVER THE INPUT: true; the input reads as it did. -/
def fewSpec : ChangeSpec := { name := "few", fn := fun _ => fun
  | [d1, d2] => { results := [.lit (.bool true)], args := [d1, d2] }
  | _ => none }
def fewRow : OpenClaim := { program := "ythhbpofcemoflab", sum := "9a3d842ef864db6c4cb1f02b07f01f98696e82ed746094333b2299ce967ab056", func := "shards/shardskeep.Few", spec := "few", apart := false }
def FewSaid : Prop := fewRow.holds Try.pinned (OpenSpec.ofChange fewSpec)

/-- ITS FALSE NEIGHBOUR: 'it returns false'. Refute it at one input. -/
def fewWrong : ChangeSpec := { name := "few", fn := fun _ => fun
  | [d1, d2] => { results := [.lit (.bool false)], args := [d1, d2] }
  | _ => none }
def FewWrongFalsely : Prop := fewRow.holds Try.pinned (OpenSpec.ofChange fewWrong)

/- THE SECOND FORM. 'bulk': how many values and letters a reading holds, each counted each time it is reached (what is shared counts as often as it is met; a slice's spare places count too). A statement '..UptoSaid' is the law's where the arguments, and the package variables that the reading takes, are together of bulk at most 1048576: NARROWER than '..Said'. Prove '..Said' where nothing that the law and all that it calls make is longer than what came in: it says more and counts as full. Else prove '..UptoSaid'. A law counts once. -/
mutual
def uptoBulk {H : Type} : DataW H → Nat
  | .lit (.string bytes) => bytes.length + 1
  | .lit _ => 1
  | .nil => 1
  | .ptr d => uptoBulk d + 1
  | .slice elems spare => uptoBulkAll elems + uptoBulkAll spare + 1
  | .agg parts => uptoBulkAll parts + 1
  | .iface _ d => uptoBulk d + 1
  | .map entries => uptoBulkEntries entries + 1
  | .held _ => 1
def uptoBulkAll {H : Type} : List (DataW H) → Nat
  | [] => 0
  | d :: r => uptoBulk d + uptoBulkAll r
def uptoBulkEntries {H : Type} : List (Lit × DataW H) → Nat
  | [] => 0
  | x :: r => uptoBulkEntry x + uptoBulkEntries r
def uptoBulkEntry {H : Type} : Lit × DataW H → Nat
  | (.string bytes, d) => bytes.length + uptoBulk d + 1
  | (_, d) => uptoBulk d + 1
 end
def uptoSmall : (H : Type) → List (DataW H) → Bool := fun _ ds => decide (uptoBulkAll ds ≤ 1048576)
def OpenSpec.upto (s : _root_.Go.ChangeSpec) : _root_.Go.OpenSpec := { _root_.Go.OpenSpec.ofChange s with cond := some uptoSmall }

/-- 'shardskeep.Known', WHERE WHAT IT READS IS OF BULK AT MOST 1048576: true; the input reads as it did. -/
def knownUptoRow : OpenClaim := { program := "ythhbpofcemoflab", sum := "9a3d842ef864db6c4cb1f02b07f01f98696e82ed746094333b2299ce967ab056", func := "shards/shardskeep.Known", spec := "known", apart := false, narrowed := true }
def KnownUptoSaid : Prop := knownUptoRow.holds Try.pinned (OpenSpec.upto knownSpec)

/-- 'shardskeep.Back', WHERE WHAT IT READS IS OF BULK AT MOST 1048576: true; the input reads as it did. -/
def backUptoRow : OpenClaim := { program := "ythhbpofcemoflab", sum := "9a3d842ef864db6c4cb1f02b07f01f98696e82ed746094333b2299ce967ab056", func := "shards/shardskeep.Back", spec := "back", apart := false, narrowed := true }
def BackUptoSaid : Prop := backUptoRow.holds Try.pinned (OpenSpec.upto backSpec)

/-- 'shardskeep.Renewed', WHERE WHAT IT READS IS OF BULK AT MOST 1048576: true; the input reads as it did. -/
def renewedUptoRow : OpenClaim := { program := "ythhbpofcemoflab", sum := "9a3d842ef864db6c4cb1f02b07f01f98696e82ed746094333b2299ce967ab056", func := "shards/shardskeep.Renewed", spec := "renewed", apart := false, narrowed := true }
def RenewedUptoSaid : Prop := renewedUptoRow.holds Try.pinned (OpenSpec.upto renewedSpec)

/-- 'shardskeep.Settled', WHERE WHAT IT READS IS OF BULK AT MOST 1048576: true; the input reads as it did. -/
def settledUptoRow : OpenClaim := { program := "ythhbpofcemoflab", sum := "9a3d842ef864db6c4cb1f02b07f01f98696e82ed746094333b2299ce967ab056", func := "shards/shardskeep.Settled", spec := "settled", apart := false, narrowed := true }
def SettledUptoSaid : Prop := settledUptoRow.holds Try.pinned (OpenSpec.upto settledSpec)

/-- 'shardskeep.Many', WHERE WHAT IT READS IS OF BULK AT MOST 1048576: true; the input reads as it did. -/
def manyUptoRow : OpenClaim := { program := "ythhbpofcemoflab", sum := "9a3d842ef864db6c4cb1f02b07f01f98696e82ed746094333b2299ce967ab056", func := "shards/shardskeep.Many", spec := "many", apart := false, narrowed := true }
def ManyUptoSaid : Prop := manyUptoRow.holds Try.pinned (OpenSpec.upto manySpec)

/-- 'shardskeep.Written', WHERE WHAT IT READS IS OF BULK AT MOST 1048576: true; the input reads as it did. -/
def writtenUptoRow : OpenClaim := { program := "ythhbpofcemoflab", sum := "9a3d842ef864db6c4cb1f02b07f01f98696e82ed746094333b2299ce967ab056", func := "shards/shardskeep.Written", spec := "written", apart := false, narrowed := true }
def WrittenUptoSaid : Prop := writtenUptoRow.holds Try.pinned (OpenSpec.upto writtenSpec)

/-- 'shardskeep.Few', WHERE WHAT IT READS IS OF BULK AT MOST 1048576: true; the input reads as it did. -/
def fewUptoRow : OpenClaim := { program := "ythhbpofcemoflab", sum := "9a3d842ef864db6c4cb1f02b07f01f98696e82ed746094333b2299ce967ab056", func := "shards/shardskeep.Few", spec := "few", apart := false, narrowed := true }
def FewUptoSaid : Prop := fewUptoRow.holds Try.pinned (OpenSpec.upto fewSpec)

end Rows
end Go.Proofs.Ythhbpofcemoflab
