import Derived.Test.YtfnfnmonnfcpeabPure5
import Derived.BigQuiet
import Derived.Deep.QuietTactic
namespace Go.Proofs.Ytfnfnmonnfcpeab
open Go.RowKit
set_option maxRecDepth 20000
namespace Sh
def nv (kind x f : Int) : Int := if kind = 0 then 0 else if kind = 1 then f else bits .xor .u8 x f
def upd (kind : Int) (xs fs : List Int) (a b : Nat) : List Int := (List.range xs.length).map fun i => if a ≤ i ∧ i < b then nv kind (xs.getD i 0) (fs.getD i 0) else xs.getD i 0
theorem upd_len (kind : Int) (xs fs : List Int) (a b : Nat) : (upd kind xs fs a b).length = xs.length := by simp [upd]
theorem upd_self (kind : Int) (xs fs : List Int) (a : Nat) : upd kind xs fs a a = xs := by
  apply List.ext_getElem
  · simp [upd]
  · intro i h1 h2
    simp only [upd, List.getElem_map, List.getElem_range]
    rw [if_neg (by omega), List.getD_eq_getElem?_getD, List.getElem?_eq_getElem h2]
    rfl
theorem upd_at {kind : Int} {xs fs : List Int} {a k : Nat} {x : Int} (hx : xs[k]? = some x) : (upd kind xs fs a k)[k]? = some x := by
  have hk : k < xs.length := (List.getElem?_eq_some_iff.1 hx).1
  simp only [upd, List.getElem?_map, List.getElem?_range hk, Option.map_some]
  rw [if_neg (by omega), List.getD_eq_getElem?_getD, hx]
  rfl
theorem upd_step {kind : Int} {xs fs : List Int} {a k : Nat} {x f : Int} (ha : a ≤ k) (hx : xs[k]? = some x) (hf : fs[k]? = some f) :
    (((upd kind xs fs a k).map (Value.int .u8)).toArray.setIfInBounds k (.int .u8 (nv kind x f))) = ((upd kind xs fs a (k + 1)).map (Value.int .u8)).toArray := by
  have hk : k < xs.length := (List.getElem?_eq_some_iff.1 hx).1
  apply Array.ext
  · simp [upd]
  · intro i h1 h2
    have hi : i < xs.length := by simpa [upd] using h2
    rw [Array.getElem_setIfInBounds]
    · by_cases e : k = i
      · subst e
        simp only [if_true, upd, List.getElem_toArray, List.getElem_map, List.getElem_range]
        rw [if_pos (by omega), List.getD_eq_getElem?_getD, List.getD_eq_getElem?_getD, hx, hf]
        rfl
      · rw [if_neg e]
        simp only [upd, List.getElem_toArray, List.getElem_map, List.getElem_range]
        by_cases c : a ≤ i ∧ i < k
        · rw [if_pos c, if_pos (by omega)]
        · rw [if_neg c, if_neg (by omega)]
    · simpa [upd] using hi
end Sh
theorem grown_drewN {w wr : World} {r : Option Nat} (h : w.grownBy wr r) (n : Nat) : w.grownBy (wr.drewN n) r := ⟨h.os, h.tape, h.output, h.size, h.block⟩
theorem grown_refl (w : World) (r : Option Nat) : w.grownBy w r := ⟨rfl, rfl, rfl, Nat.le_refl _, fun _ _ _ => rfl⟩
theorem grown_set {w wr : World} {b j : Nat} (h : w.grownBy wr (some b)) (u : Value) : w.grownBy (wr.setCell ⟨b, j, none⟩ u) (some b) :=
  ⟨h.os, h.tape, h.output, by simpa [World.setCell] using h.size, fun k hk hne => (Below.heap_setCell _ _ _ _ (by simpa using hne)).trans (h.block k hk hne)⟩
theorem grown_trans {a b c : World} {r : Option Nat} (h : a.grownBy b r) (k : b.grownBy c r) : a.grownBy c r :=
  ⟨k.os.trans h.os, k.tape.trans h.tape, k.output.trans h.output, Nat.le_trans h.size k.size, fun i hi hne => (k.block i (Nat.lt_of_lt_of_le hi h.size) hne).trans (h.block i hi hne)⟩
theorem grown_cell {w wr : World} {b : Nat} (h : w.grownBy wr (some b)) {c j : Nat} (hc : c < w.heap.size) (hne : c ≠ b) : wr.cell? ⟨c, j, none⟩ = w.cell? ⟨c, j, none⟩ :=
  World.cell?_of_block (w := w) (h.block c hc (by simpa using hne))
end Go.Proofs.Ytfnfnmonnfcpeab
