import Derived.Test.YtfnfnmonnfcpeabPure4
namespace Go.Proofs.Ytfnfnmonnfcpeab
open Go.RowKit
set_option maxRecDepth 20000
namespace Sh
def opCells (l : List (Int × Int × Int)) : List Value := l.flatMap fun o => [.int .i64 o.1, .int .i64 o.2.1, .int .i64 o.2.2]
theorem opCells_snoc (l : List (Int × Int × Int)) (a b c : Int) : opCells (l ++ [(a, b, c)]) = opCells l ++ [.int .i64 a, .int .i64 b, .int .i64 c] := by simp [opCells]
theorem opCells_len (l : List (Int × Int × Int)) : (opCells l).length = l.length * 3 := by
  induction l with
  | nil => rfl
  | cons x l ih => simp only [opCells, List.flatMap_cons, List.length_append, List.length_cons, List.length_nil] at *; omega
def plK (sum : Int) : Nat → Int
  | 0 => 1
  | k + 1 => if (bits .and .u64 (sum / 2 ^ k) 1 == 1) = true then 2 else plK sum k
def plO (sum t : Int) : Nat → List (Int × Int × Int)
  | 0 => []
  | k + 1 => if (bits .and .u64 (sum / 2 ^ k) 1 == 1) = true then plO sum t k ++ [(plK sum k, t, (k : Int))] else plO sum t k
theorem plK_t {sum : Int} {k : Nat} (h : (bits .and .u64 (sum / 2 ^ k) 1 == 1) = true) : plK sum (k + 1) = 2 := if_pos h
theorem plK_f {sum : Int} {k : Nat} (h : (bits .and .u64 (sum / 2 ^ k) 1 == 1) = false) : plK sum (k + 1) = plK sum k := if_neg (by simp [h])
theorem plO_t {sum t : Int} {k : Nat} (h : (bits .and .u64 (sum / 2 ^ k) 1 == 1) = true) : plO sum t (k + 1) = plO sum t k ++ [(plK sum k, t, (k : Int))] := if_pos h
theorem plO_f {sum t : Int} {k : Nat} (h : (bits .and .u64 (sum / 2 ^ k) 1 == 1) = false) : plO sum t (k + 1) = plO sum t k := if_neg (by simp [h])
theorem plO_len (sum t : Int) (k : Nat) : (plO sum t k).length ≤ k := by
  induction k with
  | zero => exact Nat.le_refl _
  | succ k ih =>
    simp only [plO]
    split
    · simp only [List.length_append, List.length_cons, List.length_nil]; omega
    · omega
def plRow (given : Nat) (sum t : Int) : List (Int × Int × Int) := plO sum t given ++ (if (plK sum given == 1) = true then [(0, t, 0)] else [])
def plA (given : Nat) (sums : List Int) : Nat → List (Int × Int × Int)
  | 0 => []
  | i + 1 => plA given sums i ++ plRow given (sums.getD i 0) ((given : Int) + i)
def plain (given : Nat) (sums : List Int) : List (Int × Int × Int) := plA given sums sums.length
theorem plA_len (given : Nat) (sums : List Int) (hg : given ≤ 48) (i : Nat) : (plA given sums i).length ≤ 49 * i := by
  induction i with
  | zero => exact Nat.le_refl _
  | succ i ih =>
    have := plO_len (sums.getD i 0) ((given : Int) + i) given
    have h2 : (if (plK (sums.getD i 0) given == 1) = true then [((0 : Int), (given : Int) + i, (0 : Int))] else []).length ≤ 1 := by split <;> simp
    simp only [plA, plRow, List.length_append]
    omega
end Sh
theorem own_form3 {w : World} {base : Nat} {e : TypeId} {size : Nat} {v : Value} {n : Nat} {xs : List Value} (h : w.ownsRow base e size v n xs) (hn : 1 ≤ n) :
    ∃ g cap, v = .slice (some ⟨g, 0, none⟩) n cap ∧ base ≤ g ∧ g < w.heap.size := by
  obtain ⟨h1, h2⟩ := h
  rcases h2 with ⟨_, h2⟩ | ⟨g, cap, cur, hv, hg, hh, hc, _, hs, ht⟩
  · omega
  · exact ⟨g, cap, hv, hg, (Array.getElem?_eq_some_iff.1 hh).1⟩
theorem blk_cell {w : World} {b j : Nat} {c : Array Value} {t : TypeId} {f : Nat × Nat} {u : Value} (h : w.heap[b]? = some (.cells c t f)) (hu : c[j]? = some u) : w.cell? ⟨b, j, none⟩ = some u := by simp [World.cell?, h, hu]
theorem blk_frozen {w : World} {b : Nat} {c : Array Value} {t : TypeId} (h : w.heap[b]? = some (.cells c t (0, 0))) (j : Nat) : w.frozen? ⟨b, j, none⟩ = false := by simp [World.frozen?, h]
theorem blk_set {w : World} {b j : Nat} {c : Array Value} {t : TypeId} {f : Nat × Nat} {u : Value} (h : w.heap[b]? = some (.cells c t f)) : (w.setCell ⟨b, j, none⟩ u).heap[b]? = some (.cells (c.setIfInBounds j u) t f) := by
  simp [World.setCell, Array.getElem?_modify, h]
theorem blk_lt {w : World} {b : Nat} {o : Obj} (h : w.heap[b]? = some o) : b < w.heap.size := (Array.getElem?_eq_some_iff.1 h).1
structure Sh.PS (wr w : World) (given L : Int) (T O : TypeId) (v : Value) (ops : List (Int × Int × Int)) : Prop where
  own : wr.ownsRow (w.heap.size + 2) O 3 v ops.length (Sh.opCells ops)
  box : wr.heap[w.heap.size + 1]? = some (.cells #[.int .i64 given, .int .i64 L, .int .i64 0, v] T (0, 0))
  res : wr.heap[w.heap.size]? = some (.cells #[.int .i64 0, .int .i64 0, .int .i64 0, .slice none 0 0] T (0, 0))
  low : Below w.heap.size w wr
theorem Sh.PS.push {wr w w' : World} {given L : Int} {T O : TypeId} {v v' : Value} {ops : List (Int × Int × Int)} (h : Sh.PS wr w given L T O v ops) (a b c : Int)
    (ho : w'.ownsRow (w.heap.size + 2) O 3 v' (ops.length + 1) (Sh.opCells ops ++ [.int .i64 a, .int .i64 b, .int .i64 c])) (hb : Below (w.heap.size + 2) wr w') :
    Sh.PS (w'.setCell ⟨w.heap.size + 1, 3, none⟩ v') w given L T O v' (ops ++ [(a, b, c)]) := by
  refine ⟨?_, ?_, ?_, ?_⟩
  · rw [Sh.opCells_snoc, List.length_append]
    exact ownsRow_setCell_below ho (by simp) _
  · have := blk_set (j := 3) (u := v') ((hb.block (w.heap.size + 1) (by omega)).trans h.box)
    simpa using this
  · rw [Below.heap_setCell _ _ _ _ (by simp)]
    exact (hb.block w.heap.size (by omega)).trans h.res
  · exact (h.low.trans (hb.mono (by omega))).setCell (by simp) _
end Go.Proofs.Ytfnfnmonnfcpeab
