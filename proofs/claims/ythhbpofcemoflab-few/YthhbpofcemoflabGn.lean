import Derived.Test.YthhbpofcemoflabGb
import Derived.Test.YthhbpofcemoflabW20
import Derived.BigQuiet
namespace Go.Proofs.Ythhbpofcemoflab
open Go.RowKit
set_option maxRecDepth 20000
namespace Sh
theorem below_dr (w : World) (q : Nat) : Below w.heap.size w (w.drewN q) := ⟨rfl, rfl, rfl, Nat.le_refl _, fun _ _ => rfl⟩
theorem bits_and64 (a b : Nat) (ha : a < 2 ^ 62) (hb : b < 2 ^ 62) : bits .and .i64 (a : Int) (b : Int) = ((a &&& b : Nat) : Int) := by
  have ha' : a % 2 ^ IntKind.i64.bits = a := Nat.mod_eq_of_lt (Nat.lt_trans ha (by decide))
  have hb' : b % 2 ^ IntKind.i64.bits = b := Nat.mod_eq_of_lt (Nat.lt_trans hb (by decide))
  have hx : a &&& b < 2 ^ 62 := Nat.and_lt_two_pow _ hb
  simp only [bits, BitVec.ofInt_natCast, BitVec.toNat_and, BitVec.toNat_ofNat, ha', hb']
  rw [IntKind.wrap_i64]
  omega
theorem bits_or64 (a b : Nat) (ha : a < 2 ^ 62) (hb : b < 2 ^ 62) : bits .or .i64 (a : Int) (b : Int) = ((a ||| b : Nat) : Int) := by
  have ha' : a % 2 ^ IntKind.i64.bits = a := Nat.mod_eq_of_lt (Nat.lt_trans ha (by decide))
  have hb' : b % 2 ^ IntKind.i64.bits = b := Nat.mod_eq_of_lt (Nat.lt_trans hb (by decide))
  have hx : a ||| b < 2 ^ 62 := Nat.or_lt_two_pow ha hb
  simp only [bits, BitVec.ofInt_natCast, BitVec.toNat_or, BitVec.toNat_ofNat, ha', hb']
  rw [IntKind.wrap_i64]
  omega
theorem lost_bit (p i : Nat) (hp : p < 2 ^ 62) : (bits .and .i64 ((p : Int) / 2 ^ i) 1 == 1) = p.testBit i := by
  have h1 : (p : Int) / 2 ^ i = ((p / 2 ^ i : Nat) : Int) := by simp
  have h2 : p / 2 ^ i < 2 ^ 62 := Nat.lt_of_le_of_lt (Nat.div_le_self _ _) hp
  have h3 := bits_and64 (p / 2 ^ i) 1 h2 (by decide)
  rw [h1]
  rw [show ((1 : Nat) : Int) = 1 from rfl] at h3
  rw [h3, Nat.and_one_is_mod, Nat.testBit_eq_decide_div_mod_eq]
  have := Nat.mod_two_eq_zero_or_one (p / 2 ^ i)
  rcases this with h | h <;> rw [h] <;> decide
/-- the losses one by one, into a pattern -/
def pat (n : Nat) : List Int → Nat → Option Nat
  | [], p => some p
  | i :: l, p => if i < 0 ∨ (n : Int) ≤ i ∨ p.testBit i.toNat = true then none else pat n l (p ||| 2 ^ i.toNat)
/-- what patternOf answers -/
def patE (n M : Nat) (l : List Int) : Nat × Int := match pat n l 0 with
  | none => (0, 3)
  | some p => if M < l.length then (0, 4) else (p, 0)
theorem pat_append (n : Nat) (a b : List Int) (p : Nat) : pat n (a ++ b) p = (pat n a p).bind (pat n b) := by
  induction a generalizing p with
  | nil => rfl
  | cons i a ih =>
    simp only [List.cons_append, pat]
    split
    · rfl
    · exact ih _
theorem pat_lt {n : Nat} {l : List Int} {p q : Nat} (h : pat n l p = some q) (hp : p < 2 ^ n) : q < 2 ^ n := by
  induction l generalizing p with
  | nil => simp only [pat, Option.some.injEq] at h; omega
  | cons i l ih =>
    simp only [pat] at h
    split at h
    · cases h
    · next c =>
      refine ih h (Nat.or_lt_two_pow hp ?_)
      exact Nat.pow_lt_pow_right (by decide) (by omega)
/-- which are in the pattern -/
theorem pat_bit {n : Nat} {l : List Int} {p q : Nat} (h : pat n l p = some q) (i : Nat) : q.testBit i = true ↔ p.testBit i = true ∨ (i : Int) ∈ l := by
  induction l generalizing p with
  | nil => simp only [pat, Option.some.injEq] at h; subst h; simp
  | cons a l ih =>
    simp only [pat] at h
    split at h
    · cases h
    · next c =>
      rw [ih h, Nat.testBit_or, Nat.testBit_two_pow, List.mem_cons]
      have ha : ((a.toNat : Nat) : Int) = a := Int.toNat_of_nonneg (by omega)
      constructor
      · rintro (h | h)
        · simp only [Bool.or_eq_true, decide_eq_true_eq] at h
          rcases h with h | h
          · exact Or.inl h
          · exact Or.inr (Or.inl (by omega))
        · exact Or.inr (Or.inr h)
      · rintro (h | h | h)
        · exact Or.inl (by simp [h])
        · exact Or.inl (by simp; right; omega)
        · exact Or.inr h
theorem pat_some {n : Nat} {l : List Int} {p : Nat} (h1 : ∀ i ∈ l, 0 ≤ i ∧ i < (n : Int)) (h2 : l.Nodup) (h3 : ∀ i ∈ l, p.testBit i.toNat = false) : ∃ q, pat n l p = some q := by
  induction l generalizing p with
  | nil => exact ⟨p, rfl⟩
  | cons a l ih =>
    have ha := h1 a (by simp)
    rw [List.nodup_cons] at h2
    obtain ⟨q, hq⟩ := ih (p := p ||| 2 ^ a.toNat) (fun i hi => h1 i (by simp [hi])) h2.2 (fun i hi => by
      have hi0 := (h1 i (by simp [hi])).1
      have hne : i ≠ a := fun e => h2.1 (e ▸ hi)
      rw [Nat.testBit_or, Nat.testBit_two_pow, h3 i (by simp [hi])]
      simp
      omega)
    refine ⟨q, ?_⟩
    simp only [pat]
    rw [if_neg, hq]
    rintro (h | h | h)
    · omega
    · omega
    · rw [h3 a (by simp)] at h; cases h
theorem pat_none_in {n : Nat} {l : List Int} {p : Nat} {i : Int} (h : i ∈ l) (hi : i < 0 ∨ (n : Int) ≤ i) : pat n l p = none := by
  induction l generalizing p with
  | nil => cases h
  | cons a l ih =>
    simp only [pat]
    split
    · rfl
    · next c =>
      rw [List.mem_cons] at h
      rcases h with h | h
      · subst h; exact absurd hi (fun hi => c (by omega))
      · exact ih h
theorem pat_none_bit {n : Nat} {l : List Int} {p : Nat} {i : Int} (h : i ∈ l) (hi : p.testBit i.toNat = true) : pat n l p = none := by
  induction l generalizing p with
  | nil => cases h
  | cons a l ih =>
    simp only [pat]
    split
    · rfl
    · next c =>
      rw [List.mem_cons] at h
      rcases h with h | h
      · subst h; exact absurd hi (fun hi => c (by simp [hi]))
      · exact ih h (by rw [Nat.testBit_or, hi]; rfl)
/-- twice the same -/
theorem pat_none_dup {n : Nat} {l : List Int} {p : Nat} (h : ¬ l.Nodup) : pat n l p = none := by
  induction l generalizing p with
  | nil => exact absurd List.nodup_nil h
  | cons a l ih =>
    simp only [pat]
    split
    · rfl
    · next c =>
      rw [List.nodup_cons] at h
      by_cases ha : a ∈ l
      · exact pat_none_bit ha (by rw [Nat.testBit_or, Nat.testBit_two_pow]; simp)
      · exact ih (fun h2 => h ⟨ha, h2⟩)
end Sh
end Go.Proofs.Ythhbpofcemoflab
namespace Go.Proofs.Ythhbpofcemoflab
open Go.RowKit
set_option maxRecDepth 20000

set_option maxHeartbeats 1000000 in
theorem isLost_any (p i : Nat) (w : World) (hp : p < 2 ^ 20) (hi : i ≤ 20) :
    Calls Try.prog 56 #[.int .i64 p, .int .i64 i] w fun e w' => e = .returned (.bool (p.testBit i)) ∧ w' = w := by
  have hb := Sh.lost_bit p i (by omega)
  cases hq : p.testBit i with
  | false =>
    rw [hq] at hb
    have hb2 : ¬ (bits .and .i64 ((p : Int) / 2 ^ i) 1 = 1) := by simpa using hb
    clear hq
    go_enter Try.func56, Try.ntmps56
    go_wp2
    all_goals
      go_ret
      exact ⟨rfl, rfl⟩
  | true =>
    rw [hq] at hb
    have hb2 : bits .and .i64 ((p : Int) / 2 ^ i) 1 = 1 := by simpa using hb
    clear hq
    go_enter Try.func56, Try.ntmps56
    go_wp2
    all_goals
      go_ret
      exact ⟨rfl, rfl⟩

set_option maxHeartbeats 2000000 in
theorem patternOf_ok (cb : Nat) (kind : Int) (K M : Nat) (N gd : Int) (v : Value) (base : Nat) (l : List Int) (w : World) (h : Sh.Ok kind K M N gd) (hcb : cb < w.heap.size)
    (c0 : w.cell? ⟨cb, 0, none⟩ = some (.int .i64 kind)) (c1 : w.cell? ⟨cb, 1, none⟩ = some (.int .i64 K)) (c2 : w.cell? ⟨cb, 2, none⟩ = some (.int .i64 M)) (c3 : w.cell? ⟨cb, 3, none⟩ = some (.int .i64 N)) (c4 : w.cell? ⟨cb, 4, none⟩ = some (.int .i64 gd))
    (hv : w.ownsRow base 3 1 v l.length (l.map (Value.int .i64))) (hl1 : 1 ≤ l.length) (hl : l.length ≤ 1000) (hb : ∀ i ∈ l, -9223372036854775808 ≤ i ∧ i ≤ 9223372036854775807) :
    Calls Try.prog 47 #[.pointer (some ⟨cb, 0, none⟩), v] w fun e w' => e = .returned (.tuple #[.int .i64 ((Sh.patE (K + M) M l).1 : Nat), .int .i64 (Sh.patE (K + M) M l).2]) ∧ Below w.heap.size w w' := by
  obtain ⟨hK, hM, h10, hR1, hR2, hKR, hMR, hPL⟩ := h.bounds
  have HE := hide (fun (wx : World) => ex_ok kind K M N gd wx h)
  obtain ⟨g, cap, rfl, _, hg, hcap, hcells⟩ := own_form hv hl1
  have HC := hide hcells
  have Hb := hide hb
  clear hv hcells hb h
  go_enter Try.func47, Try.ntmps47
  go_wp2_with fail
  refine (HE.out _).mono ?_
  rintro e w1 ⟨rfl, hb1⟩
  have d1 := keepc hb1 hcb 1 c1
  have d2 := keepc hb1 hcb 2 c2
  have HC1 := hide (fun (j : Nat) (u : Value) (hu : (l.map (Value.int .i64))[j]? = some u) => keepc hb1 hg j (HC.out j u hu))
  have hs1 := hb1.size
  have hwr : IntKind.i64.wrap ((K : Int) + (M : Int)) = (K : Int) + (M : Int) := by rw [IntKind.wrap_i64]; omega
  clear c0 c1 c2 c3 c4 HE
  go_wp2_with fail
  go_loopw [6, 8, 21] (fun pi _ ki wr => ∃ k q : Nat, k ≤ l.length ∧ ki = .int .i64 k ∧ pi = .int .i64 q ∧ Sh.pat (K + M) (l.take k) 0 = some q ∧ ∃ m, wr = w1.drewN m) (fun _ _ ki _ => l.length - (intOf ki).toNat)
  case atStart => exact ⟨0, 0, Nat.zero_le _, rfl, rfl, rfl, 0, rfl⟩
  case round =>
    obtain ⟨k, q, hk, rfl, rfl, hpat, m, rfl⟩ := hrel
    have hq := Sh.pat_lt hpat (Nat.two_pow_pos _)
    have hq10 : q < 2 ^ 10 := Nat.lt_of_lt_of_le hq (Nat.pow_le_pow_right (by decide) (by omega))
    have Hpat := hide hpat
    clear hpat hq
    by_cases hlk : k < l.length
    · have hck : w1.cell? ⟨g, k, none⟩ = some (.int .i64 l[k]) := HC1.out k _ (by simp [hlk])
      have hbk := Hb.out l[k] (List.getElem_mem hlk)
      have Hsp := hide (show l = l.take k ++ l[k] :: l.drop (k + 1) by rw [List.getElem_cons_drop, List.take_append_drop])
      have Hnx := hide (show l.take (k + 1) = l.take k ++ [l[k]] by rw [List.take_add_one, List.getElem?_eq_getElem hlk]; rfl)
      generalize hi0 : l[k] = i at *
      clear hi0
      have Hstep : Hid (i < 0 ∨ ((K + M : Nat) : Int) ≤ i ∨ q.testBit i.toNat = true → Sh.patE (K + M) M l = (0, 3)) := fun hc => by
        have : Sh.pat (K + M) l 0 = none := by
          rw [Hsp.out, Sh.pat_append, Hpat.out]
          show Sh.pat (K + M) (i :: l.drop (k + 1)) q = none
          simp only [Sh.pat]
          rw [if_pos hc]
        unfold Sh.patE
        rw [this]
      by_cases hi0 : i < 0
      · have hd : decide (i < 0) = true := decide_eq_true hi0
        have hst := Hstep.out (Or.inl hi0)
        go_wp2
        go_quiet (fail)
        go_wp2
        go_ret2
        exact ⟨by rw [hst]; rfl, hb1.trans (((Sh.below_dr w1 m).trans (Sh.below_dr (w1.drewN m) nq)).mono hs1)⟩
      · have hd : decide (i < 0) = false := decide_eq_false hi0
        by_cases hin : (K : Int) + (M : Int) ≤ i
        · have hd2 : decide ((K : Int) + (M : Int) ≤ i) = true := decide_eq_true hin
          have hst := Hstep.out (Or.inr (Or.inl (by omega)))
          go_wp2
          go_quiet (fail)
          go_wp2
          go_ret2
          exact ⟨by rw [hst]; rfl, hb1.trans (((Sh.below_dr w1 m).trans (Sh.below_dr (w1.drewN m) nq)).mono hs1)⟩
        · have hd2 : decide ((K : Int) + (M : Int) ≤ i) = false := decide_eq_false hin
          obtain ⟨iN, rfl⟩ := Int.eq_ofNat_of_zero_le (show 0 ≤ i by omega)
          have HL := hide (fun (wx : World) => isLost_any q iN wx (by omega) (by omega))
          cases hbt : q.testBit iN with
          | true =>
            rw [hbt] at HL
            have hst := Hstep.out (Or.inr (Or.inr hbt))
            clear hbt
            go_wp2
            go_quiet ((refine (HL.out _).mono ?_; rintro e w' ⟨rfl, rfl⟩; exact ⟨rfl, _, rfl⟩))
            go_wp2
            go_ret2
            exact ⟨by rw [hst]; rfl, hb1.trans (((Sh.below_dr w1 m).trans (Sh.below_dr (w1.drewN m) nq)).mono hs1)⟩
          | false =>
            rw [hbt] at HL
            have Hbt := hide hbt
            have hor := Sh.bits_or64 q (2 ^ iN) (by omega) (Nat.pow_lt_pow_right (by decide) (by omega))
            rw [show ((2 ^ iN : Nat) : Int) = (2 : Int) ^ iN by simp] at hor
            clear hbt
            go_wp2
            go_quiet ((refine (HL.out _).mono ?_; rintro e w' ⟨rfl, rfl⟩; exact ⟨rfl, _, rfl⟩))
            go_wp2
            refine ⟨⟨k + 1, q ||| 2 ^ iN, by omega, val_int (by omega), ?_, ?_, _, rfl⟩, by simp only [intOf]; omega⟩
            · have e2 : (2 : Int) ^ iN = ((2 ^ iN : Nat) : Int) := by simp
              have h2 : 2 ^ iN < 1024 := Nat.lt_of_lt_of_le (Nat.pow_lt_pow_right (by decide) (show iN < 10 by omega)) (by decide)
              have hw2 : wrap64 ((2 : Int) ^ iN) = (2 : Int) ^ iN := by
                unfold wrap64
                rw [e2]
                generalize 2 ^ iN = t at *
                omega
              rw [hw2, hor]
            · rw [Hnx.out, Sh.pat_append, Hpat.out]
              show Sh.pat (K + M) [(iN : Int)] q = _
              simp only [Sh.pat, Int.toNat_natCast]
              rw [if_neg]
              rintro (h | h | h)
              · omega
              · omega
              · rw [Hbt.out] at h; cases h
    · have hkl : k = l.length := by omega
      have hpa : Sh.pat (K + M) l 0 = some q := by
        have := Hpat.out
        rw [hkl, List.take_length] at this
        exact this
      by_cases hM2 : M < l.length
      · have hst : Sh.patE (K + M) M l = (0, 4) := by unfold Sh.patE; rw [hpa]; simp [hM2]
        have hd : decide ((M : Int) < (l.length : Int)) = true := decide_eq_true (by omega)
        clear hpa
        go_wp2
        go_ret2
        exact ⟨by rw [hst]; rfl, hb1.trans ((Sh.below_dr w1 m).mono hs1)⟩
      · have hst : Sh.patE (K + M) M l = (q, 0) := by unfold Sh.patE; rw [hpa]; simp [hM2]
        have hd : decide ((M : Int) < (l.length : Int)) = false := decide_eq_false (by omega)
        clear hpa
        go_wp2
        go_ret2
        exact ⟨by rw [hst]; rfl, hb1.trans ((Sh.below_dr w1 m).mono hs1)⟩
end Go.Proofs.Ythhbpofcemoflab
