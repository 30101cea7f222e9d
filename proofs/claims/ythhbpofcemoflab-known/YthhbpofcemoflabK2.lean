import Derived.Test.YthhbpofcemoflabK1
namespace Go.Proofs.Ythhbpofcemoflab
open Go.RowKit
set_option maxRecDepth 20000
namespace Sh
/-- the examples: kind, K, M, N, good, data, parity -/
def gl : List (Int × Nat × Nat × Int × Int × List UInt8 × List UInt8) := [(1, 3, 2, 3, 0, [1, 38, 76, 113, 151, 188], [218, 235, 91, 140]),
  (1, 5, 2, 5, 0, [1, 38, 75, 112, 150, 187, 224, 5, 43, 80, 117, 154, 192, 229, 10, 47, 85, 122, 159, 196], [41, 82, 75, 4, 43, 192, 223, 192]),
  (2, 2, 2, 3, 0, [1, 38, 76, 113], [77, 87, 86, 106]),
  (2, 4, 2, 5, 0, [1, 38, 75, 112, 150, 187, 224, 5, 43, 80, 117, 154, 192, 229, 10, 47], [124, 40, 212, 192, 185, 75, 27, 0]),
  (3, 3, 3, 3, 0, [1, 38, 76, 113, 151, 188], [218, 235, 91, 140, 128, 65]),
  (3, 4, 3, 5, 0, [1, 38, 75, 112, 150, 187, 224, 5, 43, 80, 117, 154, 192, 229, 10, 47], [124, 40, 212, 192, 4, 10, 78, 149, 44, 144, 66, 114]),
  (0, 2, 2, 2, 0, [1, 38, 76, 113], [86, 60, 27, 107]),
  (0, 3, 2, 3, 0, [1, 38, 75, 113, 150, 187, 225, 6, 43], [198, 77, 186, 161, 86, 27]),
  (0, 3, 2, 3, 1, [1, 38, 75, 113, 150, 187, 225, 6, 43], [145, 182, 219, 32, 208, 16]),
  (0, 4, 3, 4, 0, [1, 38, 75, 112, 150, 187, 224, 5, 43, 80, 117, 154, 192, 229, 10, 47], [212, 201, 48, 175, 36, 104, 239, 227, 178, 154, 162, 46]),
  (0, 4, 3, 4, 1, [1, 38, 75, 112, 150, 187, 224, 5, 43, 80, 117, 154, 192, 229, 10, 47], [124, 40, 212, 192, 0, 88, 24, 35, 78, 44, 48, 180])]
def glCells : List Value := gl.flatMap fun t => [.int .i64 t.1, .int .i64 t.2.1, .int .i64 t.2.2.1, .int .i64 t.2.2.2.1, .int .i64 t.2.2.2.2.1, .string ⟨t.2.2.2.2.2.1.toArray⟩, .string ⟨t.2.2.2.2.2.2.toArray⟩]
end Sh

set_option maxRecDepth 10000 in
set_option maxHeartbeats 1000000 in
theorem golds_any (w : World) : Calls Try.prog 10 #[] w fun e w' => ∃ g, e = .returned (.slice (some ⟨g, 0, none⟩) 11 11) ∧ w'.heap[g]? = some (.cells Sh.glCells.toArray 27 (0, 0)) ∧ Below w.heap.size w w' := by
  go_enter Try.func10, Try.ntmps10
  go_wp2
  go_ret
  exact ⟨w.heap.size, rfl, heap_alloc_new w _, (Below.refl _ _).alloc (Nat.le_refl _) _⟩
end Go.Proofs.Ythhbpofcemoflab
