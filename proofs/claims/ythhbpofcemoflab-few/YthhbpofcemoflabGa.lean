import Derived.WalkKit
import Derived.WalkSpells
namespace Go.Proofs.Ythhbpofcemoflab
open Go.RowKit
set_option maxRecDepth 20000
namespace Sh
/-- the field's step: times x -/
def tx (d m a : Int) : Int := if (bits .and .i64 (a * 2 / 2 ^ d.toNat) 1 == 1) = true then bits .xor .i64 (a * 2) m else a * 2
def tmA (d m a : Int) : Nat → Int
  | 0 => a
  | k + 1 => tx d m (tmA d m a k)
def tmP (d m a b : Int) : Nat → Int
  | 0 => 0
  | k + 1 => if (bits .and .i64 (b / 2 ^ k) 1 == 1) = true then bits .xor .i64 (tmP d m a b k) (tmA d m a k) else tmP d m a b k
def times (d m a b : Int) : Int := tmP d m a b d.toNat
def mod (d : Nat) : Int := if d = 1 then 3 else if d = 2 then 7 else if d = 3 then 11 else 19
def In (d x : Int) : Prop := 0 ≤ x ∧ x < 2 ^ d.toNat
theorem tx_t {d m a : Int} (h : (bits .and .i64 (a * 2 / 2 ^ d.toNat) 1 == 1) = true) : tx d m a = bits .xor .i64 (a * 2) m := if_pos h
theorem tx_f {d m a : Int} (h : (bits .and .i64 (a * 2 / 2 ^ d.toNat) 1 == 1) = false) : tx d m a = a * 2 := if_neg (by simp [h])
theorem tmP_t {d m a b : Int} {k : Nat} (h : (bits .and .i64 (b / 2 ^ k) 1 == 1) = true) : tmP d m a b (k + 1) = bits .xor .i64 (tmP d m a b k) (tmA d m a k) := if_pos h
theorem tmP_f {d m a b : Int} {k : Nat} (h : (bits .and .i64 (b / 2 ^ k) 1 == 1) = false) : tmP d m a b (k + 1) = tmP d m a b k := if_neg (by simp [h])
theorem in_tx {d : Nat} (h1 : 1 ≤ d) (h4 : d ≤ 4) {a : Int} (ha : In d a) : In d (tx d (mod d) a) := by
  obtain ⟨a0, a1⟩ := ha
  obtain ⟨n, rfl⟩ := Int.eq_ofNat_of_zero_le a0
  have key : ∀ d : Fin 5, 1 ≤ d.val → ∀ n : Fin 16, (n.val : Int) < 2 ^ d.val → 0 ≤ tx d.val (mod d.val) n.val ∧ tx d.val (mod d.val) n.val < 2 ^ d.val := by decide +kernel
  have hp : (2 : Int) ^ d ≤ 16 := by
    rcases (by omega : d = 1 ∨ d = 2 ∨ d = 3 ∨ d = 4) with rfl | rfl | rfl | rfl <;> decide
  simp only [Int.toNat_natCast] at a1
  have := key ⟨d, by omega⟩ h1 ⟨n, by omega⟩ a1
  exact this
theorem in_tmA {d : Nat} (h1 : 1 ≤ d) (h4 : d ≤ 4) {a : Int} (ha : In d a) (k : Nat) : In d (tmA d (mod d) a k) := by
  induction k with
  | zero => exact ha
  | succ k ih => exact in_tx h1 h4 ih
theorem in_times {d : Nat} (h1 : 1 ≤ d) (h4 : d ≤ 4) {a b : Int} (ha : In d a) (hb : In d b) : In d (times d (mod d) a b) := by
  obtain ⟨a0, a1⟩ := ha
  obtain ⟨n, rfl⟩ := Int.eq_ofNat_of_zero_le a0
  obtain ⟨b0, b1⟩ := hb
  obtain ⟨m, rfl⟩ := Int.eq_ofNat_of_zero_le b0
  have key : ∀ d : Fin 5, 1 ≤ d.val → ∀ n : Fin 16, (n.val : Int) < 2 ^ d.val → ∀ m : Fin 16, 0 ≤ times d.val (mod d.val) n.val m.val ∧ times d.val (mod d.val) n.val m.val < 2 ^ d.val := by decide +kernel
  have hp : (2 : Int) ^ d ≤ 16 := by
    rcases (by omega : d = 1 ∨ d = 2 ∨ d = 3 ∨ d = 4) with rfl | rfl | rfl | rfl <;> decide
  simp only [Int.toNat_natCast] at a1 b1
  exact key ⟨d, by omega⟩ h1 ⟨n, by omega⟩ a1 ⟨m, by omega⟩
theorem In.le {d : Nat} (h4 : d ≤ 4) {a : Int} (h : In d a) : 0 ≤ a ∧ a ≤ 15 := by
  obtain ⟨a0, a1⟩ := h
  have hp : (2 : Int) ^ d ≤ 16 := by
    rcases (by omega : d = 0 ∨ d = 1 ∨ d = 2 ∨ d = 3 ∨ d = 4) with rfl | rfl | rfl | rfl | rfl <;> decide
  simp only [Int.toNat_natCast] at a1
  omega
/-- over: the first quotient -/
def over (d m a b : Int) : Int := if (b == 0) = true then 0 else (((List.range (2 ^ d.toNat)).find? fun q : Nat => times d m (q : Int) b == a).map (fun q => (q : Int))).getD 0
theorem find_first (p : Nat → Bool) (n k : Nat) (hk : k < n) (hp : p k = true) (hn : ∀ q, q < k → p q = false) : (List.range n).find? p = some k := by
  rw [List.find?_eq_some_iff_append]
  refine ⟨hp, List.range k, (List.range (n - k - 1)).map (fun i => k + 1 + i), ?_, ?_⟩
  · have e : n = k + (1 + (n - k - 1)) := by omega
    have h2 : List.range n = List.range (k + (1 + (n - k - 1))) := by rw [← e]
    rw [h2, List.range_add, List.range_add]
    simp [List.range_succ, Nat.add_assoc]
  · intro q hq
    simp [hn q (by simpa using hq)]
theorem no_succ {p : Nat → Prop} {k : Nat} (h : ∀ q, q < k → ¬ p q) (hk : ¬ p k) : ∀ q, q < k + 1 → ¬ p q := by
  intro q hq
  rcases (by omega : q < k ∨ q = k) with e | e
  · exact h q e
  · rw [e]; exact hk
theorem find_none (p : Nat → Bool) (n : Nat) (hn : ∀ q, q < n → p q = false) : (List.range n).find? p = none := by
  rw [List.find?_eq_none]
  intro q hq
  simp [hn q (by simpa using hq)]
theorem over_hit {d m a b : Int} {k : Nat} (hb : (b == 0) = false) (hk : k < 2 ^ d.toNat) (hp : times d m k b = a) (hn : ∀ q : Nat, q < k → ¬ times d m q b = a) : over d m a b = k := by
  unfold over
  rw [if_neg (by simp [hb]), find_first _ _ k hk (by simp [hp]) (by intro q hq; simp [hn q hq])]
  rfl
theorem over_miss {d m a b : Int} (hb : (b == 0) = false) (hn : ∀ q : Nat, q < 2 ^ d.toNat → ¬ times d m q b = a) : over d m a b = 0 := by
  unfold over
  rw [if_neg (by simp [hb]), find_none _ _ (by intro q hq; simp [hn q hq])]
  rfl
theorem in_over {d : Nat} (a b : Int) : In d (over d (mod d) a b) := by
  unfold over In
  split
  · exact ⟨by decide, Int.pow_pos (by decide)⟩
  · cases h : (List.range (2 ^ (d : Int).toNat)).find? fun q : Nat => times d (mod d) (q : Int) b == a with
    | none => exact ⟨by decide, Int.pow_pos (by decide)⟩
    | some q =>
      have := List.mem_of_find?_eq_some h
      simp at this
      simp
      exact_mod_cast this
/-- ones -/
def onI (e : Int) : Nat → Int
  | 0 => 0
  | k + 1 => onI e k + bits .and .i64 (e / 2 ^ k) 1
def on (d m e : Int) : Nat → Int
  | 0 => 0
  | k + 1 => on d m e k + onI (tmA d m e k) d.toNat
def ones (d m e : Int) : Int := on d m e d.toNat
theorem and1 {x : Int} (h0 : 0 ≤ x) (h : x ≤ 15) : 0 ≤ bits .and .i64 x 1 ∧ bits .and .i64 x 1 ≤ 1 := by
  obtain ⟨n, rfl⟩ := Int.eq_ofNat_of_zero_le h0
  have key : ∀ n : Fin 16, 0 ≤ bits .and .i64 (n.val : Int) 1 ∧ bits .and .i64 (n.val : Int) 1 ≤ 1 := by decide +kernel
  exact key ⟨n, by omega⟩
theorem div_le {e : Int} (h0 : 0 ≤ e) (h : e ≤ 15) (k : Nat) : 0 ≤ e / 2 ^ k ∧ e / 2 ^ k ≤ 15 := by
  have hp : (0 : Int) < 2 ^ k := Int.pow_pos (by decide)
  refine ⟨Int.ediv_nonneg h0 (by omega), ?_⟩
  exact Int.le_trans (Int.ediv_le_self _ h0) h
theorem onI_le {e : Int} (h0 : 0 ≤ e) (h : e ≤ 15) (k : Nat) : 0 ≤ onI e k ∧ onI e k ≤ k := by
  induction k with
  | zero => exact ⟨Int.le_refl _, Int.le_refl _⟩
  | succ k ih =>
    have := and1 (div_le h0 h k).1 (div_le h0 h k).2
    simp only [onI]
    omega
theorem on_le {d : Nat} (h1 : 1 ≤ d) (h4 : d ≤ 4) {e : Int} (he : In d e) (k : Nat) : 0 ≤ on d (mod d) e k ∧ on d (mod d) e k ≤ 4 * k := by
  induction k with
  | zero => exact ⟨Int.le_refl _, Int.le_refl _⟩
  | succ k ih =>
    have h := (in_tmA h1 h4 he k).le h4
    have := onI_le h.1 h.2 d
    simp only [on, Int.toNat_natCast]
    omega
theorem ones_le {d : Nat} (h1 : 1 ≤ d) (h4 : d ≤ 4) {e : Int} (he : In d e) : 0 ≤ ones d (mod d) e ∧ ones d (mod d) e ≤ 16 := by
  have := on_le h1 h4 he d
  simp only [ones, Int.toNat_natCast]
  omega
def ces (d m M i : Int) (K : Nat) : List Int := (List.range K).map fun (j : Nat) => over d m 1 (bits .xor .i64 i (M + (j : Int)))
theorem ces_succ (d m M i : Int) (k : Nat) : ces d m M i (k + 1) = ces d m M i k ++ [over d m 1 (bits .xor .i64 i (M + (k : Int)))] := by simp [ces, List.range_succ]
theorem ces_len (d m M i : Int) (k : Nat) : (ces d m M i k).length = k := by simp [ces]
/-- a row divided -/
def div (d m v : Int) (xs : List Int) : List Int := xs.map fun x => over d m x v
def sumOnes (d m : Int) (xs : List Int) : Int := (xs.map (ones d m)).sum
end Sh
theorem grown_of_below {w w' : World} (h : Below w.heap.size w w') : w.grownBy w' Option.none := ⟨h.os, h.tape, h.output, h.size, fun k hk _ => h.block k hk⟩
theorem own_below {w w' : World} {base : Nat} {e : TypeId} {size : Nat} {v : Value} {n : Nat} {xs : List Value} (h : w.ownsRow base e size v n xs) (hb : Below w.heap.size w w') : w'.ownsRow base e size v n xs :=
  h.kept (grown_of_below hb) (by cases hv : v.ownBlock <;> simp)
theorem own_mono {w : World} {base base' : Nat} {e : TypeId} {size : Nat} {v : Value} {n : Nat} {xs : List Value} (h : w.ownsRow base e size v n xs) (hb : base' ≤ base) : w.ownsRow base' e size v n xs := by
  obtain ⟨h1, h2⟩ := h
  refine ⟨h1, ?_⟩
  rcases h2 with h2 | ⟨g, cap, cur, hv, hg, hh, r⟩
  · exact Or.inl h2
  · exact Or.inr ⟨g, cap, cur, hv, by omega, hh, r⟩
/-- what a row of at least one element is: a slice over a block -/
theorem own_form {w : World} {base : Nat} {e : TypeId} {v : Value} {n : Nat} {xs : List Value} (h : w.ownsRow base e 1 v n xs) (hn : 1 ≤ n) :
    ∃ g cap, v = .slice (some ⟨g, 0, Option.none⟩) n cap ∧ base ≤ g ∧ g < w.heap.size ∧ n ≤ cap ∧ ∀ (k : Nat) (u : Value), xs[k]? = some u → w.cell? ⟨g, k, Option.none⟩ = some u := by
  obtain ⟨h1, h2⟩ := h
  rcases h2 with ⟨_, h2⟩ | ⟨g, cap, cur, hv, hg, hh, hc, _, hs, ht⟩
  · omega
  · refine ⟨g, cap, hv, hg, (Array.getElem?_eq_some_iff.1 hh).1, hc, ?_⟩
    intro k u hu
    rw [cell_of_row w g k cur e (0, 0) hh]
    rw [← ht, List.getElem?_take] at hu
    split at hu
    · simpa using hu
    · cases hu
/-- 'append(v, u)' of one cell, onto a row of the call's own -/
theorem append1 {P : Program} {ops : Array Oper} {rest : List Oper} {o : Oper} {a : Act} {Q : Exit → Act → World → Prop} (w0 : World) (hgd : o.guard = Option.none) (s x : Operand) (t : TypeId)
    (ho : o.op = .call { callee := .builtin .append, args := #[s, x], argTypes := #[t, t] })
    (base : Nat) (e : TypeId) (i : TypeInfo) (z : Value) (bytes : Nat) (ht : P.underlying t = some (.slice e)) (hi : P.info? e = some i) (hz : i.zero = some z)
    (hsize : i.size = 1) (hby : i.bytes = bytes) (hzs : z.cells.size = 1) (hb64 : bytes ≤ 64)
    (v : Value) (n : Nat) (xs : List Value) (u : Value) (hs : a.eval s = v) (hown : w0.ownsRow base e 1 v n xs)
    (hx : a.eval x = .slice (some ⟨w0.heap.size, 0, Option.none⟩) 1 1) (h1 : u.oneCell' = true)
    (hn : n + 1 ≤ 1000000000) (hbase : base ≤ w0.heap.size)
    (h : ∀ v' w', w'.ownsRow base e 1 v' (n + 1) (xs ++ [u]) → Below base w0 w' → wpList P ops Q rest (a.put o.dst v') w') : wpList P ops Q (o :: rest) a (w0.alloc (.cells #[u] e)) := by
  refine wpList_append_own (w0.alloc (.cells #[u] e)) hgd s x t ho base e i z 1 bytes ht hi hz hsize hby hzs (by decide) v n xs hs (hown.alloc _) ⟨w0.heap.size, 0, Option.none⟩ 1 1 [u] hx rfl (cell_one_new _ _ _) ?_ ?_ ?_ ?_ ?_
  · intro u' hu'; simp at hu'; subst hu'; exact h1
  · unfold maxLen; omega
  · have : (n + 1) * bytes ≤ 1000000000 * 64 := Nat.mul_le_mul hn hb64
    omega
  · simp; omega
  · intro v' w' ho' hg' _
    refine h v' w' ho' ?_
    refine ((Below.refl base w0).alloc hbase _).grown hg' (by simp; omega) ?_
    intro k hk
    exact (hown.lt k hk).1
theorem box_cell {B : Nat} {w wr : World} {c : Array Value} {t : TypeId} (h : Below B (w.alloc (.cells c t)) wr) (hB : w.heap.size < B) (j : Nat) {v : Value} (hv : c[j]? = some v) : wr.cell? ⟨w.heap.size, j, Option.none⟩ = some v := by
  rw [h.cell (p := ⟨w.heap.size, j, Option.none⟩) hB]
  exact cell_of_row _ _ j c t (0, 0) (heap_alloc_new w _) |>.trans hv
theorem box_cell2 {B : Nat} {w wr : World} {c : Array Value} {t : TypeId} {o : Obj} (h : Below B ((w.alloc (.cells c t)).alloc o) wr) (hB : w.heap.size < B) (j : Nat) {v : Value} (hv : c[j]? = some v) : wr.cell? ⟨w.heap.size, j, Option.none⟩ = some v := by
  rw [h.cell (p := ⟨w.heap.size, j, Option.none⟩) hB]
  refine (cell_of_row _ _ j c t (0, 0) ?_).trans hv
  exact (Below.heap_alloc _ _ _ (by simp)).trans (heap_alloc_new w _)
theorem box_cell2b {B : Nat} {w wr : World} {c : Array Value} {t : TypeId} {o : Obj} (h : Below B ((w.alloc o).alloc (.cells c t)) wr) (hB : w.heap.size + 1 < B) (j : Nat) {v : Value} (hv : c[j]? = some v) : wr.cell? ⟨w.heap.size + 1, j, Option.none⟩ = some v := by
  have e : (w.alloc o).heap.size = w.heap.size + 1 := by simp
  have := box_cell h (by rw [e]; exact hB) j hv
  rwa [e] at this
theorem box_size {B : Nat} {w wr : World} {o : Obj} (h : Below B (w.alloc o) wr) : w.heap.size < wr.heap.size := by have := h.size; simp at this; omega
theorem box_size2 {B : Nat} {w wr : World} {o o' : Obj} (h : Below B ((w.alloc o).alloc o') wr) : w.heap.size + 1 < wr.heap.size := by have := h.size; simp at this; omega
theorem ret_int {k : IntKind} {a b : Int} (h : a = b) : Ending.returned (.int k a) = .returned (.int k b) := by rw [h]
theorem val_int {k : IntKind} {a b : Int} (h : a = b) : Value.int k a = .int k b := by rw [h]
theorem bcell {W w1 : World} (hb : Below W.heap.size W w1) : (∀ b o, b < W.heap.size → w1.cell? ⟨b, o, Option.none⟩ = W.cell? ⟨b, o, Option.none⟩) ∧ (∀ b o, b < W.heap.size → w1.frozen? ⟨b, o, Option.none⟩ = W.frozen? ⟨b, o, Option.none⟩) :=
  ⟨fun b o h => hb.cell (p := ⟨b, o, Option.none⟩) h, fun b o h => hb.frozen (p := ⟨b, o, Option.none⟩) h⟩
end Go.Proofs.Ythhbpofcemoflab
namespace Go.Proofs.Ythhbpofcemoflab
open Go.RowKit
set_option maxRecDepth 20000
theorem own_empty {W : World} {n base : Nat} {e : TypeId} (hs : W.heap.size = n) (hb : base ≤ n) : (W.alloc (.cells #[] e)).ownsRow base e 1 (.slice (some ⟨n, 0, none⟩) 0 0) 0 [] := by
  subst hs
  exact World.ownsRow_made W #[] 0 hb (Nat.zero_le _) (by simp)
namespace Sh
theorem div_len (d m v : Int) (xs : List Int) : (div d m v xs).length = xs.length := by simp [div]
theorem take_snoc (xs : List Int) (k : Nat) (h : k < xs.length) : xs.take (k + 1) = xs.take k ++ [xs[k]] := by
  rw [List.take_succ_eq_append_getElem h]
theorem div_snoc (d m v : Int) (xs : List Int) (k : Nat) (h : k < xs.length) : div d m v (xs.take (k + 1)) = div d m v (xs.take k) ++ [over d m xs[k] v] := by
  rw [take_snoc xs k h]; simp only [div, List.map_append, List.map_cons, List.map_nil]
theorem sum_snoc (d m : Int) (xs : List Int) (k : Nat) (h : k < xs.length) : sumOnes d m (xs.take (k + 1)) = sumOnes d m (xs.take k) + ones d m xs[k] := by
  rw [take_snoc xs k h]; simp only [sumOnes, List.map_append, List.map_cons, List.map_nil, List.sum_append, List.sum_cons, List.sum_nil, Int.add_zero]
theorem sum_le {d : Nat} (h1 : 1 ≤ d) (h4 : d ≤ 4) (xs : List Int) (hx : ∀ x ∈ xs, In d x) : 0 ≤ sumOnes d (mod d) xs ∧ sumOnes d (mod d) xs ≤ 16 * xs.length := by
  induction xs with
  | nil => exact ⟨Int.le_refl _, Int.le_refl _⟩
  | cons x xs ih =>
    have a := ones_le h1 h4 (hx x (by simp))
    have b := ih (fun y hy => hx y (by simp [hy]))
    simp only [sumOnes, List.map_cons, List.sum_cons, List.length_cons] at *
    omega
theorem in_div {d : Nat} (v : Int) (xs : List Int) : ∀ x ∈ div d (mod d) v xs, In d x := by
  intro x hx
  simp only [div, List.mem_map] at hx
  obtain ⟨y, _, rfl⟩ := hx
  exact in_over y v
theorem in_ces {d : Nat} (M i : Int) (K : Nat) : ∀ x ∈ ces d (mod d) M i K, In d x := by
  intro x hx
  simp only [ces, List.mem_map] at hx
  obtain ⟨y, _, rfl⟩ := hx
  exact in_over _ _
/-- lightest -/
def light (d m : Int) (row : List Int) : List Int → List Int × Int → List Int × Int
  | [], b => b
  | v :: vs, b => light d m row vs (if sumOnes d m (div d m v row) < b.2 then (div d m v row, sumOnes d m (div d m v row)) else b)
def lightest (d m : Int) (row : List Int) : List Int := (light d m row row (div d m 1 row, sumOnes d m (div d m 1 row))).1
theorem light_append (d m : Int) (row a b : List Int) (s : List Int × Int) : light d m row (a ++ b) s = light d m row b (light d m row a s) := by
  induction a generalizing s with
  | nil => rfl
  | cons x a ih => exact ih _
/-- good elements -/
def goodRow (d m M i : Int) (K : Nat) : List Int := (List.range K).map fun (j : Nat) => times d m (over d m 1 (bits .xor .i64 i (M + (j : Int)))) (M + (j : Int))
def good (d m M i : Int) (K : Nat) : List Int := if (i == 0) = true then goodRow d m M i K else lightest d m (goodRow d m M i K)
theorem goodRow_succ (d m M i : Int) (k : Nat) : goodRow d m M i (k + 1) = goodRow d m M i k ++ [times d m (over d m 1 (bits .xor .i64 i (M + (k : Int)))) (M + (k : Int))] := by simp [goodRow, List.range_succ]
theorem goodRow_len (d m M i : Int) (k : Nat) : (goodRow d m M i k).length = k := by simp [goodRow]
/-- the state of lightest behind k divisors -/
def lightS (d m : Int) (xs : List Int) (k : Nat) : List Int × Int := light d m xs (xs.take k) (div d m 1 xs, sumOnes d m (div d m 1 xs))
theorem lightS_t {d m : Int} {xs : List Int} {k : Nat} (h : k < xs.length) (hl : sumOnes d m (div d m xs[k] xs) < (lightS d m xs k).2) : lightS d m xs (k + 1) = (div d m xs[k] xs, sumOnes d m (div d m xs[k] xs)) := by
  unfold lightS at hl ⊢
  rw [take_snoc xs k h, light_append]
  simp only [light]
  rw [if_pos hl]
theorem lightS_f {d m : Int} {xs : List Int} {k : Nat} (h : k < xs.length) (hl : ¬ sumOnes d m (div d m xs[k] xs) < (lightS d m xs k).2) : lightS d m xs (k + 1) = lightS d m xs k := by
  unfold lightS at hl ⊢
  rw [take_snoc xs k h, light_append]
  simp only [light]
  rw [if_neg hl]
theorem lightS_end (d m : Int) (xs : List Int) : (lightS d m xs xs.length).1 = lightest d m xs := by
  unfold lightS lightest
  rw [List.take_length]
theorem lightest_is (d m : Int) (xs : List Int) : ∃ y, lightest d m xs = div d m y xs := by
  have key : ∀ (vs : List Int) (b : List Int × Int), (∃ y, b.1 = div d m y xs) → ∃ y, (light d m xs vs b).1 = div d m y xs := by
    intro vs
    induction vs with
    | nil => intro b h; exact h
    | cons v vs ih =>
      intro b h
      simp only [light]
      apply ih
      split
      · exact ⟨v, rfl⟩
      · exact h
  exact key xs _ ⟨1, rfl⟩
def brI (d m e : Int) (j n r : Nat) (s : Int) : Nat → Int
  | 0 => s
  | c + 1 => if (bits .and .i64 (times d m e (wrap64 (2 ^ c)) / 2 ^ r) 1 == 1) = true then bits .or .u64 (brI d m e j n r s c) (IntKind.u64.wrap (2 ^ (j * n + c))) else brI d m e j n r s c
theorem brI_t {d m e : Int} {j n r c : Nat} {s : Int} (h : (bits .and .i64 (times d m e (wrap64 (2 ^ c)) / 2 ^ r) 1 == 1) = true) : brI d m e j n r s (c + 1) = bits .or .u64 (brI d m e j n r s c) (IntKind.u64.wrap (2 ^ (j * n + c))) := if_pos h
theorem brI_f {d m e : Int} {j n r c : Nat} {s : Int} (h : (bits .and .i64 (times d m e (wrap64 (2 ^ c)) / 2 ^ r) 1 == 1) = false) : brI d m e j n r s (c + 1) = brI d m e j n r s c := if_neg (by simp [h])
def br (d m : Int) (n r : Nat) (xs : List Int) : Nat → Int
  | 0 => 0
  | k + 1 => brI d m (xs.getD k 0) k n r (br d m n r xs k) n
def bitRow (d m : Int) (n r : Nat) (xs : List Int) : Int := br d m n r xs xs.length
end Sh
end Go.Proofs.Ythhbpofcemoflab
namespace Go.Proofs.Ythhbpofcemoflab
open Go.RowKit
set_option maxRecDepth 20000
namespace Sh
theorem in_goodRow {d : Nat} (h1 : 1 ≤ d) (h4 : d ≤ 4) (M i : Int) (K : Nat) (hM : 0 ≤ M) (hMK : M + K ≤ 2 ^ d) : ∀ x ∈ goodRow d (mod d) M i K, In d x := by
  intro x hx
  simp only [goodRow, List.mem_map, List.mem_range] at hx
  obtain ⟨y, hy, rfl⟩ := hx
  exact in_times h1 h4 (in_over _ _) ⟨by omega, by simp only [Int.toNat_natCast]; omega⟩
theorem in_good {d : Nat} (h1 : 1 ≤ d) (h4 : d ≤ 4) (M i : Int) (K : Nat) (hM : 0 ≤ M) (hMK : M + K ≤ 2 ^ d) : ∀ x ∈ good d (mod d) M i K, In d x := by
  unfold good
  split
  · exact in_goodRow h1 h4 M i K hM hMK
  · obtain ⟨y, hy⟩ := lightest_is d (mod d) (goodRow d (mod d) M i K)
    rw [hy]
    exact in_div _ _
theorem good_len (d m M i : Int) (K : Nat) : (good d m M i K).length = K := by
  unfold good
  split
  · exact goodRow_len _ _ _ _ _
  · obtain ⟨y, hy⟩ := lightest_is d m (goodRow d m M i K)
    rw [hy, div_len, goodRow_len]
def els (d m M i : Int) (K : Nat) (g : Int) : List Int := if (g == 1) = true then good d m M i K else ces d m M i K
theorem els_len (d m M i : Int) (K : Nat) (g : Int) : (els d m M i K g).length = K := by
  unfold els; split
  · exact good_len _ _ _ _ _
  · exact ces_len _ _ _ _ _
theorem in_els {d : Nat} (h1 : 1 ≤ d) (h4 : d ≤ 4) (M i : Int) (K : Nat) (g : Int) (hM : 0 ≤ M) (hMK : M + K ≤ 2 ^ d) : ∀ x ∈ els d (mod d) M i K g, In d x := by
  unfold els; split
  · exact in_good h1 h4 M i K hM hMK
  · exact in_ces M i K
def cpRow (d : Nat) (m M i : Int) (K : Nat) (g : Int) (r : Nat) : List Int := (List.range r).map fun q => bitRow d m d q (els d m M i K g)
def cpar (d : Nat) (m M : Int) (K : Nat) (g : Int) : Nat → List Int
  | 0 => []
  | k + 1 => cpar d m M K g k ++ cpRow d m M k K g d
theorem cpRow_succ (d : Nat) (m M i : Int) (K : Nat) (g : Int) (r : Nat) : cpRow d m M i K g (r + 1) = cpRow d m M i K g r ++ [bitRow d m d r (els d m M i K g)] := by simp [cpRow, List.range_succ]
theorem cpRow_len (d : Nat) (m M i : Int) (K : Nat) (g : Int) (r : Nat) : (cpRow d m M i K g r).length = r := by simp [cpRow]
theorem cpar_len (d : Nat) (m M : Int) (K : Nat) (g : Int) (k : Nat) : (cpar d m M K g k).length = k * d := by
  induction k with
  | zero => simp [cpar]
  | succ k ih => simp [cpar, ih, cpRow_len, Nat.add_mul]
end Sh
/-- where the row lies behind an append: where it lay, or in a new block -/
theorem append_where {P : Program} (w : World) (base : Nat) (t ty e : TypeId) (i : TypeInfo) (z : Value) (size bytes : Nat) (ht : P.underlying t = some (.slice e)) (hi : P.info? e = some i) (hz : i.zero = some z)
    (hsize : i.size = size) (hby : i.bytes = bytes)
    (v : Value) (n : Nat) (xs : List Value) (hown : w.ownsRow base e size v n xs)
    (a : Addr) (m c : Nat) (news : List Value) (hl : news.length = m * size) (hnews : ∀ j u, news[j]? = some u → w.cell? (a.add j) = some u) (h1 : ∀ u ∈ news, u.oneCell' = true)
    (hm : 1 ≤ m) (h63 : n + m ≤ maxLen) (hbytes : (n + m) * bytes ≤ 140737488355328) {v' : Value} {w' : World}
    (hr : (Builtin.append_ #[t, t] ty #[v, .slice (some a) m c]).run P w = .ok v' w') : ∀ q, v'.ownBlock = some q → v.ownBlock = some q ∨ w.heap.size ≤ q := by
  subst hsize
  subst hby
  have hsmall : n + m ≤ 9223372036854775807 := by simp only [maxLen] at h63; omega
  intro q hq
  rcases hown.2 with ⟨rfl, rfl⟩ | ⟨g, cap, cur, rfl, hbg, hg, hnc, hcm, hcs, htake⟩
  · have h2 := run_append_nil (P := P) w t ty e i z ht hi hz a m c news hl hnews (by omega) (by omega) (by simp only [Nat.zero_add] at hbytes; omega)
    rw [hr] at h2
    injection h2 with h3 h4
    rw [h3] at hq
    simp [Value.ownBlock] at hq
    exact Or.inr (by omega)
  · by_cases hroom : n + m ≤ cap
    · have hfit : n * i.size + news.length ≤ cur.size := by rw [hl, hcs, ← Nat.add_mul]; exact Nat.mul_le_mul_right _ hroom
      have h2 := run_append_room (P := P) w t ty e i ht hi g n cap cur hg a m c news hl hnews h1 hroom hfit
      rw [hr] at h2
      injection h2 with h3 h4
      rw [h3] at hq
      exact Or.inl hq
    · have h2 := run_append_grow (P := P) w t ty e i z ht hi hz ⟨g, 0, none⟩ n cap xs hown.1 (hown.cells (g := g) rfl) a m c news hl hnews (by omega) (by omega) (growslice_fits (by omega) hbytes)
      rw [hr] at h2
      injection h2 with h3 h4
      rw [h3] at hq
      simp [Value.ownBlock] at hq
      exact Or.inr (by omega)
/-- 'append(v, news...)' onto a row of the call's own: what is owned, what has turned, where it lies -/
theorem appendX {P : Program} {ops : Array Oper} {rest : List Oper} {o : Oper} {a : Act} {Q : Exit → Act → World → Prop} (w : World) (hgd : o.guard = Option.none) (s x : Operand) (t : TypeId)
    (ho : o.op = .call { callee := .builtin .append, args := #[s, x], argTypes := #[t, t] })
    (base : Nat) (e : TypeId) (i : TypeInfo) (z : Value) (size bytes : Nat) (ht : P.underlying t = some (.slice e)) (hi : P.info? e = some i) (hz : i.zero = some z)
    (hsize : i.size = size) (hby : i.bytes = bytes) (hzs : z.cells.size = size) (hsz : 0 < size)
    (v : Value) (n : Nat) (xs : List Value) (hs : a.eval s = v) (hown : w.ownsRow base e size v n xs)
    (ad : Addr) (m c : Nat) (news : List Value) (hx : a.eval x = .slice (some ad) m c) (hl : news.length = m * size) (hnews : ∀ j u, news[j]? = some u → w.cell? (ad.add j) = some u) (h1 : ∀ u ∈ news, u.oneCell' = true)
    (hm : 1 ≤ m) (h63 : n + m ≤ maxLen) (hbytes : (n + m) * bytes ≤ 140737488355328) (hbase : base ≤ w.heap.size)
    (h : ∀ v' w', w'.ownsRow base e size v' (n + m) (xs ++ news) → Below base w w' → w.grownBy w' v.ownBlock → (∀ q, v'.ownBlock = some q → v.ownBlock = some q ∨ w.heap.size ≤ q) → wpList P ops Q rest (a.put o.dst v') w') : wpList P ops Q (o :: rest) a w := by
  obtain ⟨v', w', hr, h2, h3, _⟩ := run_append_own (P := P) w base t o.type e i z size bytes ht hi hz hsize hby hzs hsz v n xs hown ad m c news hl hnews h1 h63 hbytes hbase
  have h4 := append_where (P := P) w base t o.type e i z size bytes ht hi hz hsize hby v n xs hown ad m c news hl hnews h1 hm h63 hbytes hr
  have h5 : Below base w w' := (Below.refl base w).grown h3 hbase (fun k hk => (hown.lt k hk).1)
  refine wpList_plain hgd fun _ hK => ?_
  unfold Oper.wp execOp
  simp only [ho, resolve, invoke, builtin, Sem.run_bind, Sem.run_pure, Result.andThen_ok, List.map_toArray, List.map_cons, List.map_nil, hs, hx, hr]
  exact hK _ _ (h v' w' h2 h5 h3 h4)
/-- 'append(v, u)' of one element of 'size' cells -/
theorem append1x {P : Program} {ops : Array Oper} {rest : List Oper} {o : Oper} {a : Act} {Q : Exit → Act → World → Prop} (w0 : World) (hgd : o.guard = Option.none) (s x : Operand) (t : TypeId)
    (ho : o.op = .call { callee := .builtin .append, args := #[s, x], argTypes := #[t, t] })
    (base : Nat) (e : TypeId) (i : TypeInfo) (z : Value) (size bytes : Nat) (ht : P.underlying t = some (.slice e)) (hi : P.info? e = some i) (hz : i.zero = some z)
    (hsize : i.size = size) (hby : i.bytes = bytes) (hzs : z.cells.size = size) (hsz : 0 < size) (hb64 : bytes ≤ 64)
    (v : Value) (n : Nat) (xs : List Value) (us : Array Value) (hs : a.eval s = v) (hown : w0.ownsRow base e size v n xs)
    (hx : a.eval x = .slice (some ⟨w0.heap.size, 0, Option.none⟩) 1 1) (hus : us.size = size) (h1 : ∀ u ∈ us.toList, u.oneCell' = true)
    (hn : n + 1 ≤ 1000000000) (hbase : base ≤ w0.heap.size)
    (h : ∀ v' w', w'.ownsRow base e size v' (n + 1) (xs ++ us.toList) → Below base w0 w' → w0.grownBy w' v.ownBlock → (∀ q, v'.ownBlock = some q → v.ownBlock = some q ∨ w0.heap.size ≤ q) → wpList P ops Q rest (a.put o.dst v') w') : wpList P ops Q (o :: rest) a (w0.alloc (.cells us e)) := by
  refine appendX (w0.alloc (.cells us e)) hgd s x t ho base e i z size bytes ht hi hz hsize hby hzs hsz v n xs hs (hown.alloc _) ⟨w0.heap.size, 0, Option.none⟩ 1 1 us.toList hx (by simp [hus]) ?_ h1 (Nat.le_refl _) ?_ ?_ ?_ ?_
  · intro j u hu
    have hadd : (⟨w0.heap.size, 0, Option.none⟩ : Addr).add j = ⟨w0.heap.size, j, Option.none⟩ := by unfold Addr.add; split <;> simp_all
    rw [hadd, cell_of_row _ _ j us e (0, 0) (heap_alloc_new w0 _)]
    simpa using hu
  · unfold maxLen; omega
  · have : (n + 1) * bytes ≤ 1000000000 * 64 := Nat.mul_le_mul hn hb64
    omega
  · simp; omega
  · intro v' w' ho' hb' hg' hw'
    refine h v' w' ho' (((Below.refl base w0).alloc hbase _).trans hb') ?_ ?_
    · exact ⟨hg'.os, hg'.tape, hg'.output, by have := hg'.size; simp at this; omega, fun k hk hne => (hg'.block k (by simp; omega) hne).trans (Below.heap_alloc _ _ _ hk)⟩
    · intro q hq
      rcases hw' q hq with h | h
      · exact Or.inl h
      · exact Or.inr (by simp at h; omega)
theorem own_ne {w : World} {b1 b2 : Nat} {e1 e2 : TypeId} {s1 s2 : Nat} {v1 v2 : Value} {n1 n2 : Nat} {x1 x2 : List Value} (h1 : w.ownsRow b1 e1 s1 v1 n1 x1) (h2 : w.ownsRow b2 e2 s2 v2 n2 x2) (he : e1 ≠ e2) : v1.ownBlock = none ∨ v1.ownBlock ≠ v2.ownBlock := by
  rcases h1.2 with ⟨rfl, _⟩ | ⟨g, cap, cur, rfl, _, hg, _⟩
  · exact Or.inl rfl
  · right
    rcases h2.2 with ⟨rfl, _⟩ | ⟨g', cap', cur', rfl, _, hg', _⟩
    · simp [Value.ownBlock]
    · intro h
      simp [Value.ownBlock] at h
      subst h
      rw [hg] at hg'
      injection hg' with h
      injection h with _ h _
      exact he h
end Go.Proofs.Ythhbpofcemoflab
namespace Go.Proofs.Ythhbpofcemoflab
open Go.RowKit
set_option maxRecDepth 20000
namespace Sh
def across (n1 row : Nat) : Nat → Int
  | 0 => 0
  | k + 1 => bits .or .u64 (across n1 row k) (IntKind.u64.wrap (2 ^ (k * n1 + row)))
def cell (kind : Int) (n1 K row col : Nat) : Int :=
  if row = n1 then 0 else if col < K then IntKind.u64.wrap (2 ^ (col * n1 + row)) else if kind = 2 ∧ col = n1 then across n1 row K else 0
def rowAt (sl : Int) (n1 d c : Nat) : Nat := (((d : Int) - sl * c + (n1 + 1)) % (n1 + 1)).toNat
def diag (kind sl : Int) (n1 K d : Nat) : Nat → Int
  | 0 => 0
  | c + 1 => bits .xor .u64 (diag kind sl n1 K d c) (cell kind n1 K (rowAt sl n1 d c) c)
def diagonal (kind sl : Int) (n1 K d : Nat) : Int := diag kind sl n1 K d (n1 + 1)
def everyw (kind sl : Int) (n1 K : Nat) : Int := if kind = 2 then 0 else diagonal kind sl n1 K n1
def diags (kind sl : Int) (n1 K r : Nat) : List Int := (List.range r).map fun row => bits .xor .u64 (diagonal kind sl n1 K row) (everyw kind sl n1 K)
theorem diags_succ (kind sl : Int) (n1 K r : Nat) : diags kind sl n1 K (r + 1) = diags kind sl n1 K r ++ [bits .xor .u64 (diagonal kind sl n1 K r) (everyw kind sl n1 K)] := by simp [diags, List.range_succ]
theorem diags_len (kind sl : Int) (n1 K r : Nat) : (diags kind sl n1 K r).length = r := by simp [diags]
def acr (n1 K r : Nat) : List Int := (List.range r).map fun row => across n1 row K
theorem acr_succ (n1 K r : Nat) : acr n1 K (r + 1) = acr n1 K r ++ [across n1 r K] := by simp [acr, List.range_succ]
theorem acr_len (n1 K r : Nat) : (acr n1 K r).length = r := by simp [acr]
def tpar (kind : Int) (n1 K : Nat) : List Int := acr n1 K n1 ++ diags kind 1 n1 K n1 ++ (if kind = 3 then diags kind (-1) n1 K n1 else [])
end Sh
end Go.Proofs.Ythhbpofcemoflab
namespace Go.Proofs.Ythhbpofcemoflab
open Go.RowKit
set_option maxRecDepth 20000
namespace Sh
def opCells (l : List (Int × Int × Int)) : List Value := l.flatMap fun o => [.int .i64 o.1, .int .i64 o.2.1, .int .i64 o.2.2]
theorem opCells_snoc (l : List (Int × Int × Int)) (a b c : Int) : opCells (l ++ [(a, b, c)]) = opCells l ++ [.int .i64 a, .int .i64 b, .int .i64 c] := by simp [opCells]
theorem opCells_len (l : List (Int × Int × Int)) : (opCells l).length = l.length * 3 := by
  induction l with
  | nil => rfl
  | cons x l ih => simp only [opCells, List.flatMap_cons, List.length_append, List.length_cons, List.length_nil] at *; omega
def plK (sum : Int) : Nat → Int
  | 0 => 1
  | k + 1 => if (bits .and .u64 (sum / 2 ^ k) 1 == 1) = true then 2 else plK sum k
def plO (sum t : Int) : Nat → List (Int × Int × Int)
  | 0 => []
  | k + 1 => if (bits .and .u64 (sum / 2 ^ k) 1 == 1) = true then plO sum t k ++ [(plK sum k, t, (k : Int))] else plO sum t k
theorem plK_t {sum : Int} {k : Nat} (h : (bits .and .u64 (sum / 2 ^ k) 1 == 1) = true) : plK sum (k + 1) = 2 := if_pos h
theorem plK_f {sum : Int} {k : Nat} (h : (bits .and .u64 (sum / 2 ^ k) 1 == 1) = false) : plK sum (k + 1) = plK sum k := if_neg (by simp [h])
theorem plO_t {sum t : Int} {k : Nat} (h : (bits .and .u64 (sum / 2 ^ k) 1 == 1) = true) : plO sum t (k + 1) = plO sum t k ++ [(plK sum k, t, (k : Int))] := if_pos h
theorem plO_f {sum t : Int} {k : Nat} (h : (bits .and .u64 (sum / 2 ^ k) 1 == 1) = false) : plO sum t (k + 1) = plO sum t k := if_neg (by simp [h])
theorem plO_len (sum t : Int) (k : Nat) : (plO sum t k).length ≤ k := by
  induction k with
  | zero => exact Nat.le_refl _
  | succ k ih =>
    simp only [plO]
    split
    · simp only [List.length_append, List.length_cons, List.length_nil]; omega
    · omega
def plRow (given : Nat) (sum t : Int) : List (Int × Int × Int) := plO sum t given ++ (if (plK sum given == 1) = true then [(0, t, 0)] else [])
def plA (given : Nat) (sums : List Int) : Nat → List (Int × Int × Int)
  | 0 => []
  | i + 1 => plA given sums i ++ plRow given (sums.getD i 0) ((given : Int) + i)
def plain (given : Nat) (sums : List Int) : List (Int × Int × Int) := plA given sums sums.length
theorem plA_len (given : Nat) (sums : List Int) (hg : given ≤ 48) (i : Nat) : (plA given sums i).length ≤ 49 * i := by
  induction i with
  | zero => exact Nat.le_refl _
  | succ i ih =>
    have := plO_len (sums.getD i 0) ((given : Int) + i) given
    have h2 : (if (plK (sums.getD i 0) given == 1) = true then [((0 : Int), (given : Int) + i, (0 : Int))] else []).length ≤ 1 := by split <;> simp
    simp only [plA, plRow, List.length_append]
    omega
end Sh
theorem own_form3 {w : World} {base : Nat} {e : TypeId} {size : Nat} {v : Value} {n : Nat} {xs : List Value} (h : w.ownsRow base e size v n xs) (hn : 1 ≤ n) :
    ∃ g cap, v = .slice (some ⟨g, 0, none⟩) n cap ∧ base ≤ g ∧ g < w.heap.size := by
  obtain ⟨h1, h2⟩ := h
  rcases h2 with ⟨_, h2⟩ | ⟨g, cap, cur, hv, hg, hh, hc, _, hs, ht⟩
  · omega
  · exact ⟨g, cap, hv, hg, (Array.getElem?_eq_some_iff.1 hh).1⟩
theorem blk_cell {w : World} {b j : Nat} {c : Array Value} {t : TypeId} {f : Nat × Nat} {u : Value} (h : w.heap[b]? = some (.cells c t f)) (hu : c[j]? = some u) : w.cell? ⟨b, j, none⟩ = some u := by simp [World.cell?, h, hu]
theorem blk_frozen {w : World} {b : Nat} {c : Array Value} {t : TypeId} (h : w.heap[b]? = some (.cells c t (0, 0))) (j : Nat) : w.frozen? ⟨b, j, none⟩ = false := by simp [World.frozen?, h]
theorem blk_set {w : World} {b j : Nat} {c : Array Value} {t : TypeId} {f : Nat × Nat} {u : Value} (h : w.heap[b]? = some (.cells c t f)) : (w.setCell ⟨b, j, none⟩ u).heap[b]? = some (.cells (c.setIfInBounds j u) t f) := by
  simp [World.setCell, Array.getElem?_modify, h]
theorem blk_lt {w : World} {b : Nat} {o : Obj} (h : w.heap[b]? = some o) : b < w.heap.size := (Array.getElem?_eq_some_iff.1 h).1
structure Sh.PS (wr w : World) (given L : Int) (T O : TypeId) (v : Value) (ops : List (Int × Int × Int)) : Prop where
  own : wr.ownsRow (w.heap.size + 2) O 3 v ops.length (Sh.opCells ops)
  box : wr.heap[w.heap.size + 1]? = some (.cells #[.int .i64 given, .int .i64 L, .int .i64 0, v] T (0, 0))
  res : wr.heap[w.heap.size]? = some (.cells #[.int .i64 0, .int .i64 0, .int .i64 0, .slice none 0 0] T (0, 0))
  low : Below w.heap.size w wr
theorem Sh.PS.push {wr w w' : World} {given L : Int} {T O : TypeId} {v v' : Value} {ops : List (Int × Int × Int)} (h : Sh.PS wr w given L T O v ops) (a b c : Int)
    (ho : w'.ownsRow (w.heap.size + 2) O 3 v' (ops.length + 1) (Sh.opCells ops ++ [.int .i64 a, .int .i64 b, .int .i64 c])) (hb : Below (w.heap.size + 2) wr w') :
    Sh.PS (w'.setCell ⟨w.heap.size + 1, 3, none⟩ v') w given L T O v' (ops ++ [(a, b, c)]) := by
  refine ⟨?_, ?_, ?_, ?_⟩
  · rw [Sh.opCells_snoc, List.length_append]
    exact ownsRow_setCell_below ho (by simp) _
  · have := blk_set (j := 3) (u := v') ((hb.block (w.heap.size + 1) (by omega)).trans h.box)
    simpa using this
  · rw [Below.heap_setCell _ _ _ _ (by simp)]
    exact (hb.block w.heap.size (by omega)).trans h.res
  · exact (h.low.trans (hb.mono (by omega))).setCell (by simp) _
end Go.Proofs.Ythhbpofcemoflab
