import Derived.Test.YthhbpofcemoflabGk
namespace Go.Proofs.Ythhbpofcemoflab
open Go.RowKit
set_option maxRecDepth 20000
namespace Sh
def rw0 : List (List Nat) := [[1], [1]]
set_option maxRecDepth 100000 in
theorem mds0 : dfsK rw0 [] 1 1 [] = true := by decide +kernel
set_option maxRecDepth 100000 in
theorem shs0 : shs (row 0 1 1 1 0) (R 0 1) (1 + 1) = rw0 := by decide +kernel
def rw1 : List (List Nat) := [[1, 2], [4, 8], [11, 13], [14, 7]]
set_option maxRecDepth 100000 in
theorem mds1 : dfsK rw1 [] 2 2 [] = true := by decide +kernel
set_option maxRecDepth 100000 in
theorem shs1 : shs (row 0 2 2 2 0) (R 0 2) (2 + 2) = rw1 := by decide +kernel
def rw2 : List (List Nat) := [[1, 2], [4, 8], [5, 10], [13, 6]]
set_option maxRecDepth 100000 in
theorem mds2 : dfsK rw2 [] 2 2 [] = true := by decide +kernel
set_option maxRecDepth 100000 in
theorem shs2 : shs (row 0 2 2 2 1) (R 0 2) (2 + 2) = rw2 := by decide +kernel
def rw3 : List (List Nat) := [[1, 2, 4], [8, 16, 32], [64, 128, 256], [512, 1024, 2048], [4096, 8192, 16384], [11070, 28491, 23711], [21987, 31852, 27345], [20137, 21434, 10100]]
set_option maxRecDepth 100000 in
theorem mds3 : dfsK rw3 [] 5 3 [] = true := by decide +kernel
set_option maxRecDepth 100000 in
theorem shs3 : shs (row 0 5 3 3 0) (R 0 3) (5 + 3) = rw3 := by decide +kernel
def rw4 : List (List Nat) := [[1, 2, 4], [8, 16, 32], [64, 128, 256], [512, 1024, 2048], [585, 1170, 2340], [3211, 1940, 3937], [1703, 2473, 851], [668, 1445, 2378]]
set_option maxRecDepth 100000 in
theorem mds4 : dfsK rw4 [] 4 4 [] = true := by decide +kernel
set_option maxRecDepth 100000 in
theorem shs4 : shs (row 0 4 4 3 1) (R 0 3) (4 + 4) = rw4 := by decide +kernel
def rw5 : List (List Nat) := [[1, 2, 4, 8], [16, 32, 64, 128], [256, 512, 1024, 2048], [4096, 8192, 16384, 32768], [65536, 131072, 262144, 524288], [1048576, 2097152, 4194304, 8388608], [1118481, 2236962, 4473924, 8947848], [1598659, 2731092, 4348344, 8696417], [13056593, 5787618, 11636436, 6495656]]
set_option maxRecDepth 100000 in
theorem mds5 : dfsK rw5 [] 6 3 [] = true := by decide +kernel
set_option maxRecDepth 100000 in
theorem shs5 : shs (row 0 6 3 4 1) (R 0 4) (6 + 3) = rw5 := by decide +kernel
end Sh
end Go.Proofs.Ythhbpofcemoflab
namespace Go.Proofs.Ythhbpofcemoflab
open Go.RowKit
set_option maxRecDepth 20000
namespace Sh
def rw6 : List (List Nat) := [[1, 2, 4, 8], [16, 32, 64, 128], [256, 512, 1024, 2048], [4096, 8192, 16384, 32768], [65536, 131072, 262144, 524288], [1048576, 2097152, 4194304, 8388608], [16777216, 33554432, 67108864, 134217728], [150788990, 152403331, 37485079, 74900799], [260949939, 26695892, 53457320, 122577745], [90930385, 246252914, 224009204, 179648232]]
set_option maxRecDepth 100000 in
theorem mds6 : dfsK rw6 [] 7 3 [] = true := by decide +kernel
set_option maxRecDepth 100000 in
theorem shs6 : shs (row 0 7 3 4 0) (R 0 4) (7 + 3) = rw6 := by decide +kernel
def rw7 : List (List Nat) := [[1, 2, 4, 8], [16, 32, 64, 128], [143, 145, 35, 71], [248, 25, 50, 116], [86, 234, 213, 171], [101, 174, 93, 186], [74, 207, 158, 45], [164, 252, 233, 210], [41, 107, 198, 156], [146, 182, 108, 201]]
set_option maxRecDepth 100000 in
theorem mds7 : dfsK rw7 [] 2 8 [] = true := by decide +kernel
set_option maxRecDepth 100000 in
theorem shs7 : shs (row 0 2 8 4 0) (R 0 4) (2 + 8) = rw7 := by decide +kernel
end Sh
end Go.Proofs.Ythhbpofcemoflab
