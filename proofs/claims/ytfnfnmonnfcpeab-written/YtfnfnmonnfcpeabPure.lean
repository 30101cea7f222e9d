import Derived.WalkKit
import Derived.WalkSpells
namespace Go.Proofs.Ytfnfnmonnfcpeab
open Go.RowKit
set_option maxRecDepth 20000
namespace Sh
/-- the field's step: times x -/
def tx (d m a : Int) : Int := if (bits .and .i64 (a * 2 / 2 ^ d.toNat) 1 == 1) = true then bits .xor .i64 (a * 2) m else a * 2
def tmA (d m a : Int) : Nat → Int
  | 0 => a
  | k + 1 => tx d m (tmA d m a k)
def tmP (d m a b : Int) : Nat → Int
  | 0 => 0
  | k + 1 => if (bits .and .i64 (b / 2 ^ k) 1 == 1) = true then bits .xor .i64 (tmP d m a b k) (tmA d m a k) else tmP d m a b k
def times (d m a b : Int) : Int := tmP d m a b d.toNat
def mod (d : Nat) : Int := if d = 1 then 3 else if d = 2 then 7 else if d = 3 then 11 else 19
def In (d x : Int) : Prop := 0 ≤ x ∧ x < 2 ^ d.toNat
theorem tx_t {d m a : Int} (h : (bits .and .i64 (a * 2 / 2 ^ d.toNat) 1 == 1) = true) : tx d m a = bits .xor .i64 (a * 2) m := if_pos h
theorem tx_f {d m a : Int} (h : (bits .and .i64 (a * 2 / 2 ^ d.toNat) 1 == 1) = false) : tx d m a = a * 2 := if_neg (by simp [h])
theorem tmP_t {d m a b : Int} {k : Nat} (h : (bits .and .i64 (b / 2 ^ k) 1 == 1) = true) : tmP d m a b (k + 1) = bits .xor .i64 (tmP d m a b k) (tmA d m a k) := if_pos h
theorem tmP_f {d m a b : Int} {k : Nat} (h : (bits .and .i64 (b / 2 ^ k) 1 == 1) = false) : tmP d m a b (k + 1) = tmP d m a b k := if_neg (by simp [h])
theorem in_tx {d : Nat} (h1 : 1 ≤ d) (h4 : d ≤ 4) {a : Int} (ha : In d a) : In d (tx d (mod d) a) := by
  obtain ⟨a0, a1⟩ := ha
  obtain ⟨n, rfl⟩ := Int.eq_ofNat_of_zero_le a0
  have key : ∀ d : Fin 5, 1 ≤ d.val → ∀ n : Fin 16, (n.val : Int) < 2 ^ d.val → 0 ≤ tx d.val (mod d.val) n.val ∧ tx d.val (mod d.val) n.val < 2 ^ d.val := by decide +kernel
  have hp : (2 : Int) ^ d ≤ 16 := by
    rcases (by omega : d = 1 ∨ d = 2 ∨ d = 3 ∨ d = 4) with rfl | rfl | rfl | rfl <;> decide
  simp only [Int.toNat_natCast] at a1
  have := key ⟨d, by omega⟩ h1 ⟨n, by omega⟩ a1
  exact this
theorem in_tmA {d : Nat} (h1 : 1 ≤ d) (h4 : d ≤ 4) {a : Int} (ha : In d a) (k : Nat) : In d (tmA d (mod d) a k) := by
  induction k with
  | zero => exact ha
  | succ k ih => exact in_tx h1 h4 ih
theorem in_times {d : Nat} (h1 : 1 ≤ d) (h4 : d ≤ 4) {a b : Int} (ha : In d a) (hb : In d b) : In d (times d (mod d) a b) := by
  obtain ⟨a0, a1⟩ := ha
  obtain ⟨n, rfl⟩ := Int.eq_ofNat_of_zero_le a0
  obtain ⟨b0, b1⟩ := hb
  obtain ⟨m, rfl⟩ := Int.eq_ofNat_of_zero_le b0
  have key : ∀ d : Fin 5, 1 ≤ d.val → ∀ n : Fin 16, (n.val : Int) < 2 ^ d.val → ∀ m : Fin 16, 0 ≤ times d.val (mod d.val) n.val m.val ∧ times d.val (mod d.val) n.val m.val < 2 ^ d.val := by decide +kernel
  have hp : (2 : Int) ^ d ≤ 16 := by
    rcases (by omega : d = 1 ∨ d = 2 ∨ d = 3 ∨ d = 4) with rfl | rfl | rfl | rfl <;> decide
  simp only [Int.toNat_natCast] at a1 b1
  exact key ⟨d, by omega⟩ h1 ⟨n, by omega⟩ a1 ⟨m, by omega⟩
theorem In.le {d : Nat} (h4 : d ≤ 4) {a : Int} (h : In d a) : 0 ≤ a ∧ a ≤ 15 := by
  obtain ⟨a0, a1⟩ := h
  have hp : (2 : Int) ^ d ≤ 16 := by
    rcases (by omega : d = 0 ∨ d = 1 ∨ d = 2 ∨ d = 3 ∨ d = 4) with rfl | rfl | rfl | rfl | rfl <;> decide
  simp only [Int.toNat_natCast] at a1
  omega
/-- over: the first quotient -/
def over (d m a b : Int) : Int := if (b == 0) = true then 0 else (((List.range (2 ^ d.toNat)).find? fun q : Nat => times d m (q : Int) b == a).map (fun q => (q : Int))).getD 0
theorem find_first (p : Nat → Bool) (n k : Nat) (hk : k < n) (hp : p k = true) (hn : ∀ q, q < k → p q = false) : (List.range n).find? p = some k := by
  rw [List.find?_eq_some_iff_append]
  refine ⟨hp, List.range k, (List.range (n - k - 1)).map (fun i => k + 1 + i), ?_, ?_⟩
  · have e : n = k + (1 + (n - k - 1)) := by omega
    have h2 : List.range n = List.range (k + (1 + (n - k - 1))) := by rw [← e]
    rw [h2, List.range_add, List.range_add]
    simp [List.range_succ, Nat.add_assoc]
  · intro q hq
    simp [hn q (by simpa using hq)]
theorem no_succ {p : Nat → Prop} {k : Nat} (h : ∀ q, q < k → ¬ p q) (hk : ¬ p k) : ∀ q, q < k + 1 → ¬ p q := by
  intro q hq
  rcases (by omega : q < k ∨ q = k) with e | e
  · exact h q e
  · rw [e]; exact hk
theorem find_none (p : Nat → Bool) (n : Nat) (hn : ∀ q, q < n → p q = false) : (List.range n).find? p = none := by
  rw [List.find?_eq_none]
  intro q hq
  simp [hn q (by simpa using hq)]
theorem over_hit {d m a b : Int} {k : Nat} (hb : (b == 0) = false) (hk : k < 2 ^ d.toNat) (hp : times d m k b = a) (hn : ∀ q : Nat, q < k → ¬ times d m q b = a) : over d m a b = k := by
  unfold over
  rw [if_neg (by simp [hb]), find_first _ _ k hk (by simp [hp]) (by intro q hq; simp [hn q hq])]
  rfl
theorem over_miss {d m a b : Int} (hb : (b == 0) = false) (hn : ∀ q : Nat, q < 2 ^ d.toNat → ¬ times d m q b = a) : over d m a b = 0 := by
  unfold over
  rw [if_neg (by simp [hb]), find_none _ _ (by intro q hq; simp [hn q hq])]
  rfl
theorem in_over {d : Nat} (a b : Int) : In d (over d (mod d) a b) := by
  unfold over In
  split
  · exact ⟨by decide, Int.pow_pos (by decide)⟩
  · cases h : (List.range (2 ^ (d : Int).toNat)).find? fun q : Nat => times d (mod d) (q : Int) b == a with
    | none => exact ⟨by decide, Int.pow_pos (by decide)⟩
    | some q =>
      have := List.mem_of_find?_eq_some h
      simp at this
      simp
      exact_mod_cast this
/-- ones -/
def onI (e : Int) : Nat → Int
  | 0 => 0
  | k + 1 => onI e k + bits .and .i64 (e / 2 ^ k) 1
def on (d m e : Int) : Nat → Int
  | 0 => 0
  | k + 1 => on d m e k + onI (tmA d m e k) d.toNat
def ones (d m e : Int) : Int := on d m e d.toNat
theorem and1 {x : Int} (h0 : 0 ≤ x) (h : x ≤ 15) : 0 ≤ bits .and .i64 x 1 ∧ bits .and .i64 x 1 ≤ 1 := by
  obtain ⟨n, rfl⟩ := Int.eq_ofNat_of_zero_le h0
  have key : ∀ n : Fin 16, 0 ≤ bits .and .i64 (n.val : Int) 1 ∧ bits .and .i64 (n.val : Int) 1 ≤ 1 := by decide +kernel
  exact key ⟨n, by omega⟩
theorem div_le {e : Int} (h0 : 0 ≤ e) (h : e ≤ 15) (k : Nat) : 0 ≤ e / 2 ^ k ∧ e / 2 ^ k ≤ 15 := by
  have hp : (0 : Int) < 2 ^ k := Int.pow_pos (by decide)
  refine ⟨Int.ediv_nonneg h0 (by omega), ?_⟩
  exact Int.le_trans (Int.ediv_le_self _ h0) h
theorem onI_le {e : Int} (h0 : 0 ≤ e) (h : e ≤ 15) (k : Nat) : 0 ≤ onI e k ∧ onI e k ≤ k := by
  induction k with
  | zero => exact ⟨Int.le_refl _, Int.le_refl _⟩
  | succ k ih =>
    have := and1 (div_le h0 h k).1 (div_le h0 h k).2
    simp only [onI]
    omega
theorem on_le {d : Nat} (h1 : 1 ≤ d) (h4 : d ≤ 4) {e : Int} (he : In d e) (k : Nat) : 0 ≤ on d (mod d) e k ∧ on d (mod d) e k ≤ 4 * k := by
  induction k with
  | zero => exact ⟨Int.le_refl _, Int.le_refl _⟩
  | succ k ih =>
    have h := (in_tmA h1 h4 he k).le h4
    have := onI_le h.1 h.2 d
    simp only [on, Int.toNat_natCast]
    omega
theorem ones_le {d : Nat} (h1 : 1 ≤ d) (h4 : d ≤ 4) {e : Int} (he : In d e) : 0 ≤ ones d (mod d) e ∧ ones d (mod d) e ≤ 16 := by
  have := on_le h1 h4 he d
  simp only [ones, Int.toNat_natCast]
  omega
def ces (d m M i : Int) (K : Nat) : List Int := (List.range K).map fun (j : Nat) => over d m 1 (bits .xor .i64 i (M + (j : Int)))
theorem ces_succ (d m M i : Int) (k : Nat) : ces d m M i (k + 1) = ces d m M i k ++ [over d m 1 (bits .xor .i64 i (M + (k : Int)))] := by simp [ces, List.range_succ]
theorem ces_len (d m M i : Int) (k : Nat) : (ces d m M i k).length = k := by simp [ces]
/-- a row divided -/
def div (d m v : Int) (xs : List Int) : List Int := xs.map fun x => over d m x v
def sumOnes (d m : Int) (xs : List Int) : Int := (xs.map (ones d m)).sum
end Sh
theorem grown_of_below {w w' : World} (h : Below w.heap.size w w') : w.grownBy w' Option.none := ⟨h.os, h.tape, h.output, h.size, fun k hk _ => h.block k hk⟩
theorem own_below {w w' : World} {base : Nat} {e : TypeId} {size : Nat} {v : Value} {n : Nat} {xs : List Value} (h : w.ownsRow base e size v n xs) (hb : Below w.heap.size w w') : w'.ownsRow base e size v n xs :=
  h.kept (grown_of_below hb) (by cases hv : v.ownBlock <;> simp)
theorem own_mono {w : World} {base base' : Nat} {e : TypeId} {size : Nat} {v : Value} {n : Nat} {xs : List Value} (h : w.ownsRow base e size v n xs) (hb : base' ≤ base) : w.ownsRow base' e size v n xs := by
  obtain ⟨h1, h2⟩ := h
  refine ⟨h1, ?_⟩
  rcases h2 with h2 | ⟨g, cap, cur, hv, hg, hh, r⟩
  · exact Or.inl h2
  · exact Or.inr ⟨g, cap, cur, hv, by omega, hh, r⟩
/-- what a row of at least one element is: a slice over a block -/
theorem own_form {w : World} {base : Nat} {e : TypeId} {v : Value} {n : Nat} {xs : List Value} (h : w.ownsRow base e 1 v n xs) (hn : 1 ≤ n) :
    ∃ g cap, v = .slice (some ⟨g, 0, Option.none⟩) n cap ∧ base ≤ g ∧ g < w.heap.size ∧ n ≤ cap ∧ ∀ (k : Nat) (u : Value), xs[k]? = some u → w.cell? ⟨g, k, Option.none⟩ = some u := by
  obtain ⟨h1, h2⟩ := h
  rcases h2 with ⟨_, h2⟩ | ⟨g, cap, cur, hv, hg, hh, hc, _, hs, ht⟩
  · omega
  · refine ⟨g, cap, hv, hg, (Array.getElem?_eq_some_iff.1 hh).1, hc, ?_⟩
    intro k u hu
    rw [cell_of_row w g k cur e (0, 0) hh]
    rw [← ht, List.getElem?_take] at hu
    split at hu
    · simpa using hu
    · cases hu
/-- 'append(v, u)' of one cell, onto a row of the call's own -/
theorem append1 {P : Program} {ops : Array Oper} {rest : List Oper} {o : Oper} {a : Act} {Q : Exit → Act → World → Prop} (w0 : World) (hgd : o.guard = Option.none) (s x : Operand) (t : TypeId)
    (ho : o.op = .call { callee := .builtin .append, args := #[s, x], argTypes := #[t, t] })
    (base : Nat) (e : TypeId) (i : TypeInfo) (z : Value) (bytes : Nat) (ht : P.underlying t = some (.slice e)) (hi : P.info? e = some i) (hz : i.zero = some z)
    (hsize : i.size = 1) (hby : i.bytes = bytes) (hzs : z.cells.size = 1) (hb64 : bytes ≤ 64)
    (v : Value) (n : Nat) (xs : List Value) (u : Value) (hs : a.eval s = v) (hown : w0.ownsRow base e 1 v n xs)
    (hx : a.eval x = .slice (some ⟨w0.heap.size, 0, Option.none⟩) 1 1) (h1 : u.oneCell' = true)
    (hn : n + 1 ≤ 1000000000) (hbase : base ≤ w0.heap.size)
    (h : ∀ v' w', w'.ownsRow base e 1 v' (n + 1) (xs ++ [u]) → Below base w0 w' → wpList P ops Q rest (a.put o.dst v') w') : wpList P ops Q (o :: rest) a (w0.alloc (.cells #[u] e)) := by
  refine wpList_append_own (w0.alloc (.cells #[u] e)) hgd s x t ho base e i z 1 bytes ht hi hz hsize hby hzs (by decide) v n xs hs (hown.alloc _) ⟨w0.heap.size, 0, Option.none⟩ 1 1 [u] hx rfl (cell_one_new _ _ _) ?_ ?_ ?_ ?_ ?_
  · intro u' hu'; simp at hu'; subst hu'; exact h1
  · unfold maxLen; omega
  · have : (n + 1) * bytes ≤ 1000000000 * 64 := Nat.mul_le_mul hn hb64
    omega
  · simp; omega
  · intro v' w' ho' hg' _
    refine h v' w' ho' ?_
    refine ((Below.refl base w0).alloc hbase _).grown hg' (by simp; omega) ?_
    intro k hk
    exact (hown.lt k hk).1
theorem box_cell {B : Nat} {w wr : World} {c : Array Value} {t : TypeId} (h : Below B (w.alloc (.cells c t)) wr) (hB : w.heap.size < B) (j : Nat) {v : Value} (hv : c[j]? = some v) : wr.cell? ⟨w.heap.size, j, Option.none⟩ = some v := by
  rw [h.cell (p := ⟨w.heap.size, j, Option.none⟩) hB]
  exact cell_of_row _ _ j c t (0, 0) (heap_alloc_new w _) |>.trans hv
theorem box_cell2 {B : Nat} {w wr : World} {c : Array Value} {t : TypeId} {o : Obj} (h : Below B ((w.alloc (.cells c t)).alloc o) wr) (hB : w.heap.size < B) (j : Nat) {v : Value} (hv : c[j]? = some v) : wr.cell? ⟨w.heap.size, j, Option.none⟩ = some v := by
  rw [h.cell (p := ⟨w.heap.size, j, Option.none⟩) hB]
  refine (cell_of_row _ _ j c t (0, 0) ?_).trans hv
  exact (Below.heap_alloc _ _ _ (by simp)).trans (heap_alloc_new w _)
theorem box_cell2b {B : Nat} {w wr : World} {c : Array Value} {t : TypeId} {o : Obj} (h : Below B ((w.alloc o).alloc (.cells c t)) wr) (hB : w.heap.size + 1 < B) (j : Nat) {v : Value} (hv : c[j]? = some v) : wr.cell? ⟨w.heap.size + 1, j, Option.none⟩ = some v := by
  have e : (w.alloc o).heap.size = w.heap.size + 1 := by simp
  have := box_cell h (by rw [e]; exact hB) j hv
  rwa [e] at this
theorem box_size {B : Nat} {w wr : World} {o : Obj} (h : Below B (w.alloc o) wr) : w.heap.size < wr.heap.size := by have := h.size; simp at this; omega
theorem box_size2 {B : Nat} {w wr : World} {o o' : Obj} (h : Below B ((w.alloc o).alloc o') wr) : w.heap.size + 1 < wr.heap.size := by have := h.size; simp at this; omega
theorem ret_int {k : IntKind} {a b : Int} (h : a = b) : Ending.returned (.int k a) = .returned (.int k b) := by rw [h]
theorem val_int {k : IntKind} {a b : Int} (h : a = b) : Value.int k a = .int k b := by rw [h]
theorem bcell {W w1 : World} (hb : Below W.heap.size W w1) : (∀ b o, b < W.heap.size → w1.cell? ⟨b, o, Option.none⟩ = W.cell? ⟨b, o, Option.none⟩) ∧ (∀ b o, b < W.heap.size → w1.frozen? ⟨b, o, Option.none⟩ = W.frozen? ⟨b, o, Option.none⟩) :=
  ⟨fun b o h => hb.cell (p := ⟨b, o, Option.none⟩) h, fun b o h => hb.frozen (p := ⟨b, o, Option.none⟩) h⟩
end Go.Proofs.Ytfnfnmonnfcpeab
