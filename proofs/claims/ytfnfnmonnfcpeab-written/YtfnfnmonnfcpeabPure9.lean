import Derived.Test.YtfnfnmonnfcpeabPure8
namespace Go.Proofs.Ytfnfnmonnfcpeab
open Go.RowKit
set_option maxRecDepth 20000
namespace Sh
theorem plK_12 (sum : Int) (k : Nat) : plK sum k = 1 ∨ plK sum k = 2 := by
  induction k with
  | zero => exact Or.inl rfl
  | succ k ih =>
    simp only [plK]
    split
    · exact Or.inr rfl
    · exact ih
theorem plO_ok (sum : Int) (given n t : Nat) (hgt : given ≤ t) (ht : t < n) (k : Nat) (hk : k ≤ given) : ∀ o ∈ plO sum t k, OpOk given n o := by
  induction k with
  | zero => intro o ho; simp [plO] at ho
  | succ k ih =>
    intro o ho
    simp only [plO] at ho
    split at ho
    · rw [List.mem_append] at ho
      rcases ho with ho | ho
      · exact ih (by omega) o ho
      · simp at ho
        subst ho
        refine ⟨?_, t, k, rfl, rfl, hgt, ht, by omega, by omega⟩
        exact Or.inr (plK_12 sum k)
    · exact ih (by omega) o ho
theorem plA_ok (given : Nat) (sums : List Int) (hg : 1 ≤ given) (i : Nat) (hi : i ≤ sums.length) : ∀ o ∈ plA given sums i, OpOk given (given + sums.length) o := by
  induction i with
  | zero => intro o ho; simp [plA] at ho
  | succ i ih =>
    intro o ho
    simp only [plA, List.mem_append, plRow] at ho
    have e : (given : Int) + (i : Int) = ((given + i : Nat) : Int) := by omega
    rcases ho with ho | ho | ho
    · exact ih (by omega) o ho
    · rw [e] at ho
      exact plO_ok _ given (given + sums.length) (given + i) (by omega) (by omega) given (Nat.le_refl _) o ho
    · split at ho
      · simp at ho
        subst ho
        exact ⟨Or.inl rfl, given + i, 0, e, rfl, by omega, by omega, by omega, by omega⟩
      · simp at ho
theorem plain_ok (given : Nat) (sums : List Int) (hg : 1 ≤ given) : ∀ o ∈ plain given sums, OpOk given (given + sums.length) o := plA_ok given sums hg _ (Nat.le_refl _)
theorem plO_pos (sum t : Int) (k : Nat) (h : plK sum k ≠ 1) : 1 ≤ (plO sum t k).length := by
  induction k with
  | zero => exact absurd rfl h
  | succ k ih =>
    simp only [plK] at h
    simp only [plO]
    split
    · simp
    · next c => rw [if_neg c] at h; exact ih h
theorem plain_pos (given : Nat) (sums : List Int) (h : 1 ≤ sums.length) : 1 ≤ (plain given sums).length := by
  unfold plain
  obtain ⟨n, hn⟩ : ∃ n, sums.length = n + 1 := ⟨sums.length - 1, by omega⟩
  rw [hn]
  simp only [plA, plRow, List.length_append]
  by_cases c : plK (sums.getD n 0) given = 1
  · have : (plK (sums.getD n 0) given == 1) = true := beq_iff_eq.2 c
    rw [if_pos this]
    simp
    omega
  · have := plO_pos (sums.getD n 0) ((given : Int) + n) given c
    omega
theorem tpar_len (kind : Int) (n1 K m : Nat) (hm : m = if kind = 3 then 3 else 2) : (tpar kind n1 K).length = m * n1 := by
  unfold tpar
  by_cases c : kind = 3
  · rw [if_pos c] at hm ⊢
    subst hm
    simp [acr_len, diags_len]
    omega
  · rw [if_neg c] at hm ⊢
    subst hm
    simp [acr_len, diags_len]
    omega
end Sh
theorem grown_set_new {w wr : World} {r : Option Nat} {b j : Nat} (h : w.grownBy wr r) (hb : w.heap.size ≤ b) (u : Value) : w.grownBy (wr.setCell ⟨b, j, none⟩ u) r :=
  ⟨h.os, h.tape, h.output, by simpa [World.setCell] using h.size, fun k hk hne => (Below.heap_setCell _ _ _ _ (by simp; omega)).trans (h.block k hk hne)⟩
theorem grown_alloc {w wr : World} {r : Option Nat} (h : w.grownBy wr r) (o : Obj) : w.grownBy (wr.alloc o) r :=
  ⟨h.os, h.tape, h.output, by have := h.size; simp; omega, fun k hk hne => (Below.heap_alloc _ _ _ (Nat.lt_of_lt_of_le hk h.size)).trans (h.block k hk hne)⟩
theorem grown_below {w w1 w2 : World} {r : Option Nat} (h : w.grownBy w1 r) (hb : Below w1.heap.size w1 w2) : w.grownBy w2 r :=
  ⟨hb.os.trans h.os, hb.tape.trans h.tape, hb.output.trans h.output, Nat.le_trans h.size hb.size, fun k hk hne => (hb.block k (Nat.lt_of_lt_of_le hk h.size)).trans (h.block k hk hne)⟩
theorem grown_of {w w' : World} (h : Below w.heap.size w w') (r : Option Nat) : w.grownBy w' r := ⟨h.os, h.tape, h.output, h.size, fun k hk _ => h.block k hk⟩
end Go.Proofs.Ytfnfnmonnfcpeab
