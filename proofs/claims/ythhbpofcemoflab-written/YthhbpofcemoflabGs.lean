import Derived.Test.YthhbpofcemoflabGr
namespace Go.Proofs.Ythhbpofcemoflab
open Go.RowKit
set_option maxRecDepth 20000
namespace Sh
def rw8 : List (List Nat) := [[1, 2], [4, 8], [16, 32], [21, 42], [57, 30]]
set_option maxRecDepth 100000 in
theorem mds8 : dfsK rw8 [] 3 2 [] = true := by decide +kernel
set_option maxRecDepth 100000 in
theorem shs8 : shs (row 1 3 2 3 0) (R 1 3) (3 + 2) = rw8 := by decide +kernel
def rw9 : List (List Nat) := [[1, 2, 4, 8], [16, 32, 64, 128], [17, 34, 68, 136], [129, 146, 164, 200]]
set_option maxRecDepth 100000 in
theorem mds9 : dfsK rw9 [] 2 2 [] = true := by decide +kernel
set_option maxRecDepth 100000 in
theorem shs9 : shs (row 1 2 2 5 0) (R 1 5) (2 + 2) = rw9 := by decide +kernel
def rw10 : List (List Nat) := [[1, 2, 4, 8], [16, 32, 64, 128], [256, 512, 1024, 2048], [4096, 8192, 16384, 32768], [65536, 131072, 262144, 524288], [69905, 139810, 279620, 559240], [224385, 369810, 599460, 79560]]
set_option maxRecDepth 100000 in
theorem mds10 : dfsK rw10 [] 5 2 [] = true := by decide +kernel
set_option maxRecDepth 100000 in
theorem shs10 : shs (row 1 5 2 5 0) (R 1 5) (5 + 2) = rw10 := by decide +kernel
def rw11 : List (List Nat) := [[1, 2, 4, 8, 16, 32], [64, 128, 256, 512, 1024, 2048], [4096, 8192, 16384, 32768, 65536, 131072], [262144, 524288, 1048576, 2097152, 4194304, 8388608], [16777216, 33554432, 67108864, 134217728, 268435456, 536870912], [1073741824, 2147483648, 4294967296, 8589934592, 17179869184, 34359738368], [68719476736, 137438953472, 274877906944, 549755813888, 1099511627776, 2199023255552], [69810262081, 139620524162, 279241048324, 558482096648, 1116964193296, 2233928386592], [212808697857, 354680899650, 638408792196, 1204807870728, 2269976807952, 72044612640]]
set_option maxRecDepth 100000 in
theorem mds11 : dfsK rw11 [] 7 2 [] = true := by decide +kernel
set_option maxRecDepth 100000 in
theorem shs11 : shs (row 1 7 2 7 0) (R 1 7) (7 + 2) = rw11 := by decide +kernel
def rw12 : List (List Nat) := [[1, 2], [4, 8], [5, 10], [11, 6]]
set_option maxRecDepth 100000 in
theorem mds12 : dfsK rw12 [] 2 2 [] = true := by decide +kernel
set_option maxRecDepth 100000 in
theorem shs12 : shs (row 2 2 2 3 0) (R 2 3) (2 + 2) = rw12 := by decide +kernel
def rw13 : List (List Nat) := [[1, 2, 4, 8], [16, 32, 64, 128], [256, 512, 1024, 2048], [4096, 8192, 16384, 32768], [4369, 8738, 17476, 34952], [27171, 50262, 35244, 4680]]
set_option maxRecDepth 100000 in
theorem mds13 : dfsK rw13 [] 4 2 [] = true := by decide +kernel
set_option maxRecDepth 100000 in
theorem shs13 : shs (row 2 4 2 5 0) (R 2 5) (4 + 2) = rw13 := by decide +kernel
def rw14 : List (List Nat) := [[1, 2, 4, 8], [16, 32, 64, 128], [256, 512, 1024, 2048], [273, 546, 1092, 2184], [2595, 1110, 2476, 584]]
set_option maxRecDepth 100000 in
theorem mds14 : dfsK rw14 [] 3 2 [] = true := by decide +kernel
set_option maxRecDepth 100000 in
theorem shs14 : shs (row 2 3 2 5 0) (R 2 5) (3 + 2) = rw14 := by decide +kernel
def rw15 : List (List Nat) := [[1, 2, 4, 8, 16, 32], [64, 128, 256, 512, 1024, 2048], [4096, 8192, 16384, 32768, 65536, 131072], [262144, 524288, 1048576, 2097152, 4194304, 8388608], [16777216, 33554432, 67108864, 134217728, 268435456, 536870912], [1073741824, 2147483648, 4294967296, 8589934592, 17179869184, 34359738368], [1090785345, 2181570690, 4363141380, 8726282760, 17452565520, 34905131040], [6615081091, 13229900102, 26443027084, 51812574488, 34922449456, 1108378656]]
set_option maxRecDepth 100000 in
theorem mds15 : dfsK rw15 [] 6 2 [] = true := by decide +kernel
set_option maxRecDepth 100000 in
theorem shs15 : shs (row 2 6 2 7 0) (R 2 7) (6 + 2) = rw15 := by decide +kernel
def rw16 : List (List Nat) := [[1, 2], [4, 8], [16, 32], [21, 42], [57, 30], [45, 54]]
set_option maxRecDepth 100000 in
theorem mds16 : dfsK rw16 [] 3 3 [] = true := by decide +kernel
set_option maxRecDepth 100000 in
theorem shs16 : shs (row 3 3 3 3 0) (R 3 3) (3 + 3) = rw16 := by decide +kernel
def rw17 : List (List Nat) := [[1, 2, 4, 8], [16, 32, 64, 128], [256, 512, 1024, 2048], [4096, 8192, 16384, 32768], [65536, 131072, 262144, 524288], [69905, 139810, 279620, 559240], [224385, 369810, 599460, 79560], [575025, 608850, 676500, 811800]]
set_option maxRecDepth 100000 in
theorem mds17 : dfsK rw17 [] 5 3 [] = true := by decide +kernel
set_option maxRecDepth 100000 in
theorem shs17 : shs (row 3 5 3 5 0) (R 3 5) (5 + 3) = rw17 := by decide +kernel
def rw18 : List (List Nat) := [[1, 2, 4, 8, 16, 32], [64, 128, 256, 512, 1024, 2048], [4096, 8192, 16384, 32768, 65536, 131072], [262144, 524288, 1048576, 2097152, 4194304, 8388608], [266305, 532610, 1065220, 2130440, 4260880, 8521760], [6490113, 10553410, 2168964, 2435336, 2705936, 3247136], [3170497, 5284162, 9511492, 1188936, 1321040, 1585248]]
set_option maxRecDepth 100000 in
theorem mds18 : dfsK rw18 [] 4 3 [] = true := by decide +kernel
set_option maxRecDepth 100000 in
theorem shs18 : shs (row 3 4 3 7 0) (R 3 7) (4 + 3) = rw18 := by decide +kernel
end Sh
end Go.Proofs.Ythhbpofcemoflab
namespace Go.Proofs.Ythhbpofcemoflab
open Go.RowKit
set_option maxRecDepth 20000
namespace Sh
def rw19 : List (List Nat) := [[1, 2, 4, 8, 16, 32], [64, 128, 256, 512, 1024, 2048], [4096, 8192, 16384, 32768, 65536, 131072], [262144, 524288, 1048576, 2097152, 4194304, 8388608], [16777216, 33554432, 67108864, 134217728, 268435456, 536870912], [1073741824, 2147483648, 4294967296, 8589934592, 17179869184, 34359738368], [68719476736, 137438953472, 274877906944, 549755813888, 1099511627776, 2199023255552], [69810262081, 139620524162, 279241048324, 558482096648, 1116964193296, 2233928386592], [212808697857, 354680899650, 638408792196, 1204807870728, 2269976807952, 72044612640], [2250968686785, 2285598974274, 2354859549252, 2493380699208, 2770422999120, 3324507598944]]
set_option maxRecDepth 100000 in
theorem mds19 : dfsK rw19 [] 7 3 [] = true := by decide +kernel
set_option maxRecDepth 100000 in
theorem shs19 : shs (row 3 7 3 7 0) (R 3 7) (7 + 3) = rw19 := by decide +kernel
theorem cds_dfs : ∀ t ∈ cds, dfs (shs (row t.1 t.2.1 t.2.2.1 t.2.2.2.1 t.2.2.2.2) (R t.1 t.2.2.2.1) (t.2.1 + t.2.2.1)) [] t.2.1 t.2.2.1 [] = true := by
  intro t ht
  simp only [cds, List.mem_cons, List.not_mem_nil, or_false] at ht
  rcases ht with rfl | rfl | rfl | rfl | rfl | rfl | rfl | rfl | rfl | rfl | rfl | rfl | rfl | rfl | rfl | rfl | rfl | rfl | rfl | rfl
  · simp only; rw [shs0]; exact dfsK_eq _ _ _ _ [] [] (fun _ h => h) mds0
  · simp only; rw [shs1]; exact dfsK_eq _ _ _ _ [] [] (fun _ h => h) mds1
  · simp only; rw [shs2]; exact dfsK_eq _ _ _ _ [] [] (fun _ h => h) mds2
  · simp only; rw [shs3]; exact dfsK_eq _ _ _ _ [] [] (fun _ h => h) mds3
  · simp only; rw [shs4]; exact dfsK_eq _ _ _ _ [] [] (fun _ h => h) mds4
  · simp only; rw [shs5]; exact dfsK_eq _ _ _ _ [] [] (fun _ h => h) mds5
  · simp only; rw [shs6]; exact dfsK_eq _ _ _ _ [] [] (fun _ h => h) mds6
  · simp only; rw [shs7]; exact dfsK_eq _ _ _ _ [] [] (fun _ h => h) mds7
  · simp only; rw [shs8]; exact dfsK_eq _ _ _ _ [] [] (fun _ h => h) mds8
  · simp only; rw [shs9]; exact dfsK_eq _ _ _ _ [] [] (fun _ h => h) mds9
  · simp only; rw [shs10]; exact dfsK_eq _ _ _ _ [] [] (fun _ h => h) mds10
  · simp only; rw [shs11]; exact dfsK_eq _ _ _ _ [] [] (fun _ h => h) mds11
  · simp only; rw [shs12]; exact dfsK_eq _ _ _ _ [] [] (fun _ h => h) mds12
  · simp only; rw [shs13]; exact dfsK_eq _ _ _ _ [] [] (fun _ h => h) mds13
  · simp only; rw [shs14]; exact dfsK_eq _ _ _ _ [] [] (fun _ h => h) mds14
  · simp only; rw [shs15]; exact dfsK_eq _ _ _ _ [] [] (fun _ h => h) mds15
  · simp only; rw [shs16]; exact dfsK_eq _ _ _ _ [] [] (fun _ h => h) mds16
  · simp only; rw [shs17]; exact dfsK_eq _ _ _ _ [] [] (fun _ h => h) mds17
  · simp only; rw [shs18]; exact dfsK_eq _ _ _ _ [] [] (fun _ h => h) mds18
  · simp only; rw [shs19]; exact dfsK_eq _ _ _ _ [] [] (fun _ h => h) mds19
end Sh
end Go.Proofs.Ythhbpofcemoflab
