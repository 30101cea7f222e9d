import Derived.Test.YtfnfnmonnfcpeabPure11
namespace Go.Proofs.Ytfnfnmonnfcpeab
open Go.RowKit
set_option maxRecDepth 20000
namespace Sh
theorem below_dr (w : World) (q : Nat) : Below w.heap.size w (w.drewN q) := ⟨rfl, rfl, rfl, Nat.le_refl _, fun _ _ => rfl⟩
theorem bits_and64 (a b : Nat) (ha : a < 2 ^ 62) (hb : b < 2 ^ 62) : bits .and .i64 (a : Int) (b : Int) = ((a &&& b : Nat) : Int) := by
  have ha' : a % 2 ^ IntKind.i64.bits = a := Nat.mod_eq_of_lt (Nat.lt_trans ha (by decide))
  have hb' : b % 2 ^ IntKind.i64.bits = b := Nat.mod_eq_of_lt (Nat.lt_trans hb (by decide))
  have hx : a &&& b < 2 ^ 62 := Nat.and_lt_two_pow _ hb
  simp only [bits, BitVec.ofInt_natCast, BitVec.toNat_and, BitVec.toNat_ofNat, ha', hb']
  rw [IntKind.wrap_i64]
  omega
theorem bits_or64 (a b : Nat) (ha : a < 2 ^ 62) (hb : b < 2 ^ 62) : bits .or .i64 (a : Int) (b : Int) = ((a ||| b : Nat) : Int) := by
  have ha' : a % 2 ^ IntKind.i64.bits = a := Nat.mod_eq_of_lt (Nat.lt_trans ha (by decide))
  have hb' : b % 2 ^ IntKind.i64.bits = b := Nat.mod_eq_of_lt (Nat.lt_trans hb (by decide))
  have hx : a ||| b < 2 ^ 62 := Nat.or_lt_two_pow ha hb
  simp only [bits, BitVec.ofInt_natCast, BitVec.toNat_or, BitVec.toNat_ofNat, ha', hb']
  rw [IntKind.wrap_i64]
  omega
theorem lost_bit (p i : Nat) (hp : p < 2 ^ 62) : (bits .and .i64 ((p : Int) / 2 ^ i) 1 == 1) = p.testBit i := by
  have h1 : (p : Int) / 2 ^ i = ((p / 2 ^ i : Nat) : Int) := by simp
  have h2 : p / 2 ^ i < 2 ^ 62 := Nat.lt_of_le_of_lt (Nat.div_le_self _ _) hp
  have h3 := bits_and64 (p / 2 ^ i) 1 h2 (by decide)
  rw [h1]
  rw [show ((1 : Nat) : Int) = 1 from rfl] at h3
  rw [h3, Nat.and_one_is_mod, Nat.testBit_eq_decide_div_mod_eq]
  have := Nat.mod_two_eq_zero_or_one (p / 2 ^ i)
  rcases this with h | h <;> rw [h] <;> decide
/-- the losses one by one, into a pattern -/
def pat (n : Nat) : List Int → Nat → Option Nat
  | [], p => some p
  | i :: l, p => if i < 0 ∨ (n : Int) ≤ i ∨ p.testBit i.toNat = true then none else pat n l (p ||| 2 ^ i.toNat)
/-- what patternOf answers -/
def patE (n M : Nat) (l : List Int) : Nat × Int := match pat n l 0 with
  | none => (0, 3)
  | some p => if M < l.length then (0, 4) else (p, 0)
theorem pat_append (n : Nat) (a b : List Int) (p : Nat) : pat n (a ++ b) p = (pat n a p).bind (pat n b) := by
  induction a generalizing p with
  | nil => rfl
  | cons i a ih =>
    simp only [List.cons_append, pat]
    split
    · rfl
    · exact ih _
theorem pat_lt {n : Nat} {l : List Int} {p q : Nat} (h : pat n l p = some q) (hp : p < 2 ^ n) : q < 2 ^ n := by
  induction l generalizing p with
  | nil => simp only [pat, Option.some.injEq] at h; omega
  | cons i l ih =>
    simp only [pat] at h
    split at h
    · cases h
    · next c =>
      refine ih h (Nat.or_lt_two_pow hp ?_)
      exact Nat.pow_lt_pow_right (by decide) (by omega)
/-- which are in the pattern -/
theorem pat_bit {n : Nat} {l : List Int} {p q : Nat} (h : pat n l p = some q) (i : Nat) : q.testBit i = true ↔ p.testBit i = true ∨ (i : Int) ∈ l := by
  induction l generalizing p with
  | nil => simp only [pat, Option.some.injEq] at h; subst h; simp
  | cons a l ih =>
    simp only [pat] at h
    split at h
    · cases h
    · next c =>
      rw [ih h, Nat.testBit_or, Nat.testBit_two_pow, List.mem_cons]
      have ha : ((a.toNat : Nat) : Int) = a := Int.toNat_of_nonneg (by omega)
      constructor
      · rintro (h | h)
        · simp only [Bool.or_eq_true, decide_eq_true_eq] at h
          rcases h with h | h
          · exact Or.inl h
          · exact Or.inr (Or.inl (by omega))
        · exact Or.inr (Or.inr h)
      · rintro (h | h | h)
        · exact Or.inl (by simp [h])
        · exact Or.inl (by simp; right; omega)
        · exact Or.inr h
theorem pat_some {n : Nat} {l : List Int} {p : Nat} (h1 : ∀ i ∈ l, 0 ≤ i ∧ i < (n : Int)) (h2 : l.Nodup) (h3 : ∀ i ∈ l, p.testBit i.toNat = false) : ∃ q, pat n l p = some q := by
  induction l generalizing p with
  | nil => exact ⟨p, rfl⟩
  | cons a l ih =>
    have ha := h1 a (by simp)
    rw [List.nodup_cons] at h2
    obtain ⟨q, hq⟩ := ih (p := p ||| 2 ^ a.toNat) (fun i hi => h1 i (by simp [hi])) h2.2 (fun i hi => by
      have hi0 := (h1 i (by simp [hi])).1
      have hne : i ≠ a := fun e => h2.1 (e ▸ hi)
      rw [Nat.testBit_or, Nat.testBit_two_pow, h3 i (by simp [hi])]
      simp
      omega)
    refine ⟨q, ?_⟩
    simp only [pat]
    rw [if_neg, hq]
    rintro (h | h | h)
    · omega
    · omega
    · rw [h3 a (by simp)] at h; cases h
theorem pat_none_in {n : Nat} {l : List Int} {p : Nat} {i : Int} (h : i ∈ l) (hi : i < 0 ∨ (n : Int) ≤ i) : pat n l p = none := by
  induction l generalizing p with
  | nil => cases h
  | cons a l ih =>
    simp only [pat]
    split
    · rfl
    · next c =>
      rw [List.mem_cons] at h
      rcases h with h | h
      · subst h; exact absurd hi (fun hi => c (by omega))
      · exact ih h
theorem pat_none_bit {n : Nat} {l : List Int} {p : Nat} {i : Int} (h : i ∈ l) (hi : p.testBit i.toNat = true) : pat n l p = none := by
  induction l generalizing p with
  | nil => cases h
  | cons a l ih =>
    simp only [pat]
    split
    · rfl
    · next c =>
      rw [List.mem_cons] at h
      rcases h with h | h
      · subst h; exact absurd hi (fun hi => c (by simp [hi]))
      · exact ih h (by rw [Nat.testBit_or, hi]; rfl)
/-- twice the same -/
theorem pat_none_dup {n : Nat} {l : List Int} {p : Nat} (h : ¬ l.Nodup) : pat n l p = none := by
  induction l generalizing p with
  | nil => exact absurd List.nodup_nil h
  | cons a l ih =>
    simp only [pat]
    split
    · rfl
    · next c =>
      rw [List.nodup_cons] at h
      by_cases ha : a ∈ l
      · exact pat_none_bit ha (by rw [Nat.testBit_or, Nat.testBit_two_pow]; simp)
      · exact ih (fun h2 => h ⟨ha, h2⟩)
end Sh
end Go.Proofs.Ytfnfnmonnfcpeab
