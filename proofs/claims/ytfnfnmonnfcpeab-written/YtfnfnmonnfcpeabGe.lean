import Derived.Test.YtfnfnmonnfcpeabPure11
import Derived.Test.YtfnfnmonnfcpeabW20
import Derived.BigQuiet
import Derived.Test.YtfnfnmonnfcpeabGd
namespace Go.Proofs.Ytfnfnmonnfcpeab
open Go.RowKit
set_option maxRecDepth 20000
namespace Sh
theorem below_dr (w : World) (q : Nat) : Below w.heap.size w (w.drewN q) := ⟨rfl, rfl, rfl, Nat.le_refl _, fun _ _ => rfl⟩
theorem bits_and64 (a b : Nat) (ha : a < 2 ^ 62) (hb : b < 2 ^ 62) : bits .and .i64 (a : Int) (b : Int) = ((a &&& b : Nat) : Int) := by
  have ha' : a % 2 ^ IntKind.i64.bits = a := Nat.mod_eq_of_lt (Nat.lt_trans ha (by decide))
  have hb' : b % 2 ^ IntKind.i64.bits = b := Nat.mod_eq_of_lt (Nat.lt_trans hb (by decide))
  have hx : a &&& b < 2 ^ 62 := Nat.and_lt_two_pow _ hb
  simp only [bits, BitVec.ofInt_natCast, BitVec.toNat_and, BitVec.toNat_ofNat, ha', hb']
  rw [IntKind.wrap_i64]
  omega
theorem bits_or64 (a b : Nat) (ha : a < 2 ^ 62) (hb : b < 2 ^ 62) : bits .or .i64 (a : Int) (b : Int) = ((a ||| b : Nat) : Int) := by
  have ha' : a % 2 ^ IntKind.i64.bits = a := Nat.mod_eq_of_lt (Nat.lt_trans ha (by decide))
  have hb' : b % 2 ^ IntKind.i64.bits = b := Nat.mod_eq_of_lt (Nat.lt_trans hb (by decide))
  have hx : a ||| b < 2 ^ 62 := Nat.or_lt_two_pow ha hb
  simp only [bits, BitVec.ofInt_natCast, BitVec.toNat_or, BitVec.toNat_ofNat, ha', hb']
  rw [IntKind.wrap_i64]
  omega
theorem lost_bit (p i : Nat) (hp : p < 2 ^ 62) : (bits .and .i64 ((p : Int) / 2 ^ i) 1 == 1) = p.testBit i := by
  have h1 : (p : Int) / 2 ^ i = ((p / 2 ^ i : Nat) : Int) := by simp
  have h2 : p / 2 ^ i < 2 ^ 62 := Nat.lt_of_le_of_lt (Nat.div_le_self _ _) hp
  have h3 := bits_and64 (p / 2 ^ i) 1 h2 (by decide)
  rw [h1]
  rw [show ((1 : Nat) : Int) = 1 from rfl] at h3
  rw [h3, Nat.and_one_is_mod, Nat.testBit_eq_decide_div_mod_eq]
  have := Nat.mod_two_eq_zero_or_one (p / 2 ^ i)
  rcases this with h | h <;> rw [h] <;> decide
/-- the losses one by one, into a pattern -/
def pat (n : Nat) : List Int → Nat → Option Nat
  | [], p => some p
  | i :: l, p => if i < 0 ∨ (n : Int) ≤ i ∨ p.testBit i.toNat = true then none else pat n l (p ||| 2 ^ i.toNat)
/-- what patternOf answers -/
def patE (n M : Nat) (l : List Int) : Nat × Int := match pat n l 0 with
  | none => (0, 3)
  | some p => if M < l.length then (0, 4) else (p, 0)
theorem pat_append (n : Nat) (a b : List Int) (p : Nat) : pat n (a ++ b) p = (pat n a p).bind (pat n b) := by
  induction a generalizing p with
  | nil => rfl
  | cons i a ih =>
    simp only [List.cons_append, pat]
    split
    · rfl
    · exact ih _
theorem pat_lt {n : Nat} {l : List Int} {p q : Nat} (h : pat n l p = some q) (hp : p < 2 ^ n) : q < 2 ^ n := by
  induction l generalizing p with
  | nil => simp only [pat, Option.some.injEq] at h; omega
  | cons i l ih =>
    simp only [pat] at h
    split at h
    · cases h
    · next c =>
      refine ih h (Nat.or_lt_two_pow hp ?_)
      exact Nat.pow_lt_pow_right (by decide) (by omega)
/-- which are in the pattern -/
theorem pat_bit {n : Nat} {l : List Int} {p q : Nat} (h : pat n l p = some q) (i : Nat) : q.testBit i = true ↔ p.testBit i = true ∨ (i : Int) ∈ l := by
  induction l generalizing p with
  | nil => simp only [pat, Option.some.injEq] at h; subst h; simp
  | cons a l ih =>
    simp only [pat] at h
    split at h
    · cases h
    · next c =>
      rw [ih h, Nat.testBit_or, Nat.testBit_two_pow, List.mem_cons]
      have ha : ((a.toNat : Nat) : Int) = a := Int.toNat_of_nonneg (by omega)
      constructor
      · rintro (h | h)
        · simp only [Bool.or_eq_true, decide_eq_true_eq] at h
          rcases h with h | h
          · exact Or.inl h
          · exact Or.inr (Or.inl (by omega))
        · exact Or.inr (Or.inr h)
      · rintro (h | h | h)
        · exact Or.inl (by simp [h])
        · exact Or.inl (by simp; right; omega)
        · exact Or.inr h
theorem pat_some {n : Nat} {l : List Int} {p : Nat} (h1 : ∀ i ∈ l, 0 ≤ i ∧ i < (n : Int)) (h2 : l.Nodup) (h3 : ∀ i ∈ l, p.testBit i.toNat = false) : ∃ q, pat n l p = some q := by
  induction l generalizing p with
  | nil => exact ⟨p, rfl⟩
  | cons a l ih =>
    have ha := h1 a (by simp)
    rw [List.nodup_cons] at h2
    obtain ⟨q, hq⟩ := ih (p := p ||| 2 ^ a.toNat) (fun i hi => h1 i (by simp [hi])) h2.2 (fun i hi => by
      have hi0 := (h1 i (by simp [hi])).1
      have hne : i ≠ a := fun e => h2.1 (e ▸ hi)
      rw [Nat.testBit_or, Nat.testBit_two_pow, h3 i (by simp [hi])]
      simp
      omega)
    refine ⟨q, ?_⟩
    simp only [pat]
    rw [if_neg, hq]
    rintro (h | h | h)
    · omega
    · omega
    · rw [h3 a (by simp)] at h; cases h
theorem pat_none_in {n : Nat} {l : List Int} {p : Nat} {i : Int} (h : i ∈ l) (hi : i < 0 ∨ (n : Int) ≤ i) : pat n l p = none := by
  induction l generalizing p with
  | nil => cases h
  | cons a l ih =>
    simp only [pat]
    split
    · rfl
    · next c =>
      rw [List.mem_cons] at h
      rcases h with h | h
      · subst h; exact absurd hi (fun hi => c (by omega))
      · exact ih h
theorem pat_none_bit {n : Nat} {l : List Int} {p : Nat} {i : Int} (h : i ∈ l) (hi : p.testBit i.toNat = true) : pat n l p = none := by
  induction l generalizing p with
  | nil => cases h
  | cons a l ih =>
    simp only [pat]
    split
    · rfl
    · next c =>
      rw [List.mem_cons] at h
      rcases h with h | h
      · subst h; exact absurd hi (fun hi => c (by simp [hi]))
      · exact ih h (by rw [Nat.testBit_or, hi]; rfl)
/-- twice the same -/
theorem pat_none_dup {n : Nat} {l : List Int} {p : Nat} (h : ¬ l.Nodup) : pat n l p = none := by
  induction l generalizing p with
  | nil => exact absurd List.nodup_nil h
  | cons a l ih =>
    simp only [pat]
    split
    · rfl
    · next c =>
      rw [List.nodup_cons] at h
      by_cases ha : a ∈ l
      · exact pat_none_bit ha (by rw [Nat.testBit_or, Nat.testBit_two_pow]; simp)
      · exact ih (fun h2 => h ⟨ha, h2⟩)
end Sh
end Go.Proofs.Ytfnfnmonnfcpeab
namespace Go.Proofs.Ytfnfnmonnfcpeab
open Go.RowKit
set_option maxRecDepth 20000

set_option maxHeartbeats 1000000 in
theorem isLost_any (p i : Nat) (w : World) (hp : p < 2 ^ 20) (hi : i ≤ 20) :
    Calls Try.prog 50 #[.int .i64 p, .int .i64 i] w fun e w' => e = .returned (.bool (p.testBit i)) ∧ w' = w := by
  have hb := Sh.lost_bit p i (by omega)
  cases hq : p.testBit i with
  | false =>
    rw [hq] at hb
    have hb2 : ¬ (bits .and .i64 ((p : Int) / 2 ^ i) 1 = 1) := by simpa using hb
    clear hq
    go_enter Try.func50, Try.ntmps50
    go_wp2
    all_goals
      go_ret
      exact ⟨rfl, rfl⟩
  | true =>
    rw [hq] at hb
    have hb2 : bits .and .i64 ((p : Int) / 2 ^ i) 1 = 1 := by simpa using hb
    clear hq
    go_enter Try.func50, Try.ntmps50
    go_wp2
    all_goals
      go_ret
      exact ⟨rfl, rfl⟩

set_option maxHeartbeats 2000000 in
theorem patternOf_ok (cb : Nat) (kind : Int) (K M : Nat) (N gd : Int) (v : Value) (base : Nat) (l : List Int) (w : World) (h : Sh.Ok kind K M N gd) (hcb : cb < w.heap.size)
    (c0 : w.cell? ⟨cb, 0, none⟩ = some (.int .i64 kind)) (c1 : w.cell? ⟨cb, 1, none⟩ = some (.int .i64 K)) (c2 : w.cell? ⟨cb, 2, none⟩ = some (.int .i64 M)) (c3 : w.cell? ⟨cb, 3, none⟩ = some (.int .i64 N)) (c4 : w.cell? ⟨cb, 4, none⟩ = some (.int .i64 gd))
    (hv : w.ownsRow base 3 1 v l.length (l.map (Value.int .i64))) (hl1 : 1 ≤ l.length) (hl : l.length ≤ 1000) (hb : ∀ i ∈ l, -9223372036854775808 ≤ i ∧ i ≤ 9223372036854775807) :
    Calls Try.prog 43 #[.pointer (some ⟨cb, 0, none⟩), v] w fun e w' => e = .returned (.tuple #[.int .i64 ((Sh.patE (K + M) M l).1 : Nat), .int .i64 (Sh.patE (K + M) M l).2]) ∧ Below w.heap.size w w' := by
  obtain ⟨hK, hM, h10, hR1, hR2, hKR, hMR, hPL⟩ := h.bounds
  have HE := hide (fun (wx : World) => ex_ok kind K M N gd wx h)
  obtain ⟨g, cap, rfl, _, hg, hcap, hcells⟩ := own_form hv hl1
  have HC := hide hcells
  have Hb := hide hb
  clear hv hcells hb h
  go_enter Try.func43, Try.ntmps43
  go_wp2_with fail
  refine (HE.out _).mono ?_
  rintro e w1 ⟨rfl, hb1⟩
  have d1 := keepc hb1 hcb 1 c1
  have d2 := keepc hb1 hcb 2 c2
  have HC1 := hide (fun (j : Nat) (u : Value) (hu : (l.map (Value.int .i64))[j]? = some u) => keepc hb1 hg j (HC.out j u hu))
  have hs1 := hb1.size
  have hwr : IntKind.i64.wrap ((K : Int) + (M : Int)) = (K : Int) + (M : Int) := by rw [IntKind.wrap_i64]; omega
  clear c0 c1 c2 c3 c4 HE
  go_wp2_with fail
  go_loopw [6, 8, 21] (fun pi _ ki wr => ∃ k q : Nat, k ≤ l.length ∧ ki = .int .i64 k ∧ pi = .int .i64 q ∧ Sh.pat (K + M) (l.take k) 0 = some q ∧ ∃ m, wr = w1.drewN m) (fun _ _ ki _ => l.length - (intOf ki).toNat)
  case atStart => exact ⟨0, 0, Nat.zero_le _, rfl, rfl, rfl, 0, rfl⟩
  case round =>
    obtain ⟨k, q, hk, rfl, rfl, hpat, m, rfl⟩ := hrel
    have hq := Sh.pat_lt hpat (Nat.two_pow_pos _)
    have hq10 : q < 2 ^ 10 := Nat.lt_of_lt_of_le hq (Nat.pow_le_pow_right (by decide) (by omega))
    have Hpat := hide hpat
    clear hpat hq
    by_cases hlk : k < l.length
    · have hck : w1.cell? ⟨g, k, none⟩ = some (.int .i64 l[k]) := HC1.out k _ (by simp [hlk])
      have hbk := Hb.out l[k] (List.getElem_mem hlk)
      have Hsp := hide (show l = l.take k ++ l[k] :: l.drop (k + 1) by rw [List.getElem_cons_drop, List.take_append_drop])
      have Hnx := hide (show l.take (k + 1) = l.take k ++ [l[k]] by rw [List.take_add_one, List.getElem?_eq_getElem hlk]; rfl)
      generalize hi0 : l[k] = i at *
      clear hi0
      have Hstep : Hid (i < 0 ∨ ((K + M : Nat) : Int) ≤ i ∨ q.testBit i.toNat = true → Sh.patE (K + M) M l = (0, 3)) := fun hc => by
        have : Sh.pat (K + M) l 0 = none := by
          rw [Hsp.out, Sh.pat_append, Hpat.out]
          show Sh.pat (K + M) (i :: l.drop (k + 1)) q = none
          simp only [Sh.pat]
          rw [if_pos hc]
        unfold Sh.patE
        rw [this]
      by_cases hi0 : i < 0
      · have hd : decide (i < 0) = true := decide_eq_true hi0
        have hst := Hstep.out (Or.inl hi0)
        go_wp2
        go_quiet (fail)
        go_wp2
        go_ret2
        exact ⟨by rw [hst]; rfl, hb1.trans (((Sh.below_dr w1 m).trans (Sh.below_dr (w1.drewN m) nq)).mono hs1)⟩
      · have hd : decide (i < 0) = false := decide_eq_false hi0
        by_cases hin : (K : Int) + (M : Int) ≤ i
        · have hd2 : decide ((K : Int) + (M : Int) ≤ i) = true := decide_eq_true hin
          have hst := Hstep.out (Or.inr (Or.inl (by omega)))
          go_wp2
          go_quiet (fail)
          go_wp2
          go_ret2
          exact ⟨by rw [hst]; rfl, hb1.trans (((Sh.below_dr w1 m).trans (Sh.below_dr (w1.drewN m) nq)).mono hs1)⟩
        · have hd2 : decide ((K : Int) + (M : Int) ≤ i) = false := decide_eq_false hin
          obtain ⟨iN, rfl⟩ := Int.eq_ofNat_of_zero_le (show 0 ≤ i by omega)
          have HL := hide (fun (wx : World) => isLost_any q iN wx (by omega) (by omega))
          cases hbt : q.testBit iN with
          | true =>
            rw [hbt] at HL
            have hst := Hstep.out (Or.inr (Or.inr hbt))
            clear hbt
            go_wp2
            go_quiet ((refine (HL.out _).mono ?_; rintro e w' ⟨rfl, rfl⟩; exact ⟨rfl, _, rfl⟩))
            go_wp2
            go_ret2
            exact ⟨by rw [hst]; rfl, hb1.trans (((Sh.below_dr w1 m).trans (Sh.below_dr (w1.drewN m) nq)).mono hs1)⟩
          | false =>
            rw [hbt] at HL
            have Hbt := hide hbt
            have hor := Sh.bits_or64 q (2 ^ iN) (by omega) (Nat.pow_lt_pow_right (by decide) (by omega))
            rw [show ((2 ^ iN : Nat) : Int) = (2 : Int) ^ iN by simp] at hor
            clear hbt
            go_wp2
            go_quiet ((refine (HL.out _).mono ?_; rintro e w' ⟨rfl, rfl⟩; exact ⟨rfl, _, rfl⟩))
            go_wp2
            refine ⟨⟨k + 1, q ||| 2 ^ iN, by omega, val_int (by omega), ?_, ?_, _, rfl⟩, by simp only [intOf]; omega⟩
            · have e2 : (2 : Int) ^ iN = ((2 ^ iN : Nat) : Int) := by simp
              have h2 : 2 ^ iN < 1024 := Nat.lt_of_lt_of_le (Nat.pow_lt_pow_right (by decide) (show iN < 10 by omega)) (by decide)
              have hw2 : wrap64 ((2 : Int) ^ iN) = (2 : Int) ^ iN := by
                unfold wrap64
                rw [e2]
                generalize 2 ^ iN = t at *
                omega
              rw [hw2, hor]
            · rw [Hnx.out, Sh.pat_append, Hpat.out]
              show Sh.pat (K + M) [(iN : Int)] q = _
              simp only [Sh.pat, Int.toNat_natCast]
              rw [if_neg]
              rintro (h | h | h)
              · omega
              · omega
              · rw [Hbt.out] at h; cases h
    · have hkl : k = l.length := by omega
      have hpa : Sh.pat (K + M) l 0 = some q := by
        have := Hpat.out
        rw [hkl, List.take_length] at this
        exact this
      by_cases hM2 : M < l.length
      · have hst : Sh.patE (K + M) M l = (0, 4) := by unfold Sh.patE; rw [hpa]; simp [hM2]
        have hd : decide ((M : Int) < (l.length : Int)) = true := decide_eq_true (by omega)
        clear hpa
        go_wp2
        go_ret2
        exact ⟨by rw [hst]; rfl, hb1.trans ((Sh.below_dr w1 m).mono hs1)⟩
      · have hst : Sh.patE (K + M) M l = (q, 0) := by unfold Sh.patE; rw [hpa]; simp [hM2]
        have hd : decide ((M : Int) < (l.length : Int)) = false := decide_eq_false (by omega)
        clear hpa
        go_wp2
        go_ret2
        exact ⟨by rw [hst]; rfl, hb1.trans ((Sh.below_dr w1 m).mono hs1)⟩
end Go.Proofs.Ytfnfnmonnfcpeab
namespace Go.Proofs.Ytfnfnmonnfcpeab
open Go.RowKit
set_option maxRecDepth 20000
set_option maxHeartbeats 4000000 in
theorem lost_ok (kind : Int) (K M : Nat) (N gd : Int) (q : Nat) (w : World) (h : Sh.Ok kind K M N gd) (hP : Sh.Pb kind K M N gd) (hq : q < 2 ^ 20) (hlo : (Sh.lo q (K + M)).length ≤ M) :
    Calls Try.prog 58 #[.agg #[.int .i64 kind, .int .i64 K, .int .i64 M, .int .i64 N, .int .i64 gd], .int .i64 q] w fun e w' => ∃ v, e = .returned v ∧ w'.ownsRow w.heap.size 89 1 v (Sh.lost kind K M N gd q).length (Sh.nv64 (Sh.lost kind K M N gd q)) ∧ Below w.heap.size w w' := by
  obtain ⟨hK, hM, h10, hR1, hR2, hKR, hMR, hPL⟩ := h.bounds
  obtain ⟨i0, hi, hz0, hz1, hz2⟩ := info_parts Try.infoU64
  have HRw := hide (fun w => rows_ok kind K M N gd w h)
  have HEv := hide (fun w => every_ok kind K M N gd w h hP)
  have hT1 : 1 ≤ (K + M) * Sh.R kind N := Nat.mul_pos (by omega) hR1
  have hT2 : (K + M) * Sh.R kind N ≤ 88 := by rw [Nat.add_mul]; omega
  have HrowE : Hid (∀ k, k < (K + M) * Sh.R kind N → (Sh.nv64 (Sh.every kind K M N gd))[k]? = some (.int .u64 ((Sh.row kind K M N gd k : Nat) : Int))) := by
    intro k hk
    have hl : k < (Sh.every kind K M N gd).length := by rw [Sh.every_len hPL]; exact hk
    unfold Sh.nv64 Sh.row
    rw [List.getElem?_map, List.getElem?_eq_getElem hl, Option.map_some, List.getD_eq_getElem?_getD, List.getElem?_eq_getElem hl]
    rfl
  have Hrl : Hid (∀ k, Sh.row kind K M N gd k < 2 ^ 48) := Sh.row_lt hP hKR
  have HL : Hid (Sh.lost kind K M N gd q = Sh.ls (Sh.row kind K M N gd) (Sh.R kind N) q (Sh.kn (Sh.row kind K M N gd) (Sh.gi (Sh.R kind N) q (K * Sh.R kind N) ((K + M) * Sh.R kind N))) ((K + M) * Sh.R kind N)) := rfl
  rw [HL.out]
  have Hgl : Hid ((Sh.gi (Sh.R kind N) q (K * Sh.R kind N) ((K + M) * Sh.R kind N)).length = K * Sh.R kind N) := by
    show _ = _
    rw [Sh.gi_lf, Sh.rws_len, Sh.lf_len, show min K (K + M - (Sh.lo q (K + M)).length) = K by omega]
  clear h hP hPL HL hlo
  generalize Sh.every kind K M N gd = EV at *
  generalize Sh.row kind K M N gd = row at *
  generalize hR : Sh.R kind N = R at *
  clear hR
  obtain ⟨a, ha⟩ : ∃ a, K * R = a := ⟨_, rfl⟩
  obtain ⟨T, hT⟩ : ∃ T, (K + M) * R = T := ⟨_, rfl⟩
  have hka : (K : Int) * (R : Int) = (a : Int) := by rw [← ha, Int.natCast_mul]
  have HdivB : Hid (∀ k, k < T → k / R < 20) := fun k hk => by
    have : k / R < K + M := Nat.div_lt_of_lt_mul (by rw [Nat.mul_comm, hT]; exact hk)
    omega
  rw [hT] at HEv HrowE hT1 hT2 Hgl ⊢
  rw [ha] at Hgl hKR ⊢
  clear ha hT hMR
  have dR : decide ((R : Int) < 1) = false := by simp; omega
  have dR0 : ((R : Int) == 0) = false := by simp; omega
  go_enter Try.func58, Try.ntmps58
  go_wp2_with fail
  refine (HRw.out _).mono ?_
  rintro e w1 ⟨rfl, hb1⟩
  have hc0 := box_cell hb1 (by simp) 0 rfl
  have hc1 := box_cell hb1 (by simp) 1 rfl
  have hc2 := box_cell hb1 (by simp) 2 rfl
  have hc3 := box_cell hb1 (by simp) 3 rfl
  have hc4 := box_cell hb1 (by simp) 4 rfl
  have hsz := box_size hb1
  have hB1 : Below w.heap.size w w1 := ((Below.refl _ _).alloc (Nat.le_refl _) _).trans (hb1.mono (by simp))
  go_wp2_with fail
  refine (HEv.out _).mono ?_
  rintro e w2 ⟨v2, rfl, hown2, hb2⟩
  obtain ⟨g, cap, rfl, hgb, hg, hcap, hcells⟩ := own_form hown2 hT1
  have hs2 := hb2.size
  have hB2 := hB1.trans (hb2.mono hB1.size)
  have HC := hide (fun (k : Nat) (hk : k < T) => hcells k _ (HrowE.out k hk))
  have d1 := keepc hb2 hsz 1 hc1
  clear hc0 hc1 hc2 hc3 hc4 hown2 hcells HrowE HRw HEv
  go_wp2_with fail
  have hlen0 : ∀ k, (Sh.gi R q a k).length ≤ a ∧ (Sh.gi R q a k).length ≤ k := fun k => Sh.gi_len R q a k
  have HSol0 : Hid (Sh.Sol (w2.alloc (.cells #[.slice none 0 0] 103)) w2.heap.size []) := ⟨_, heap_alloc_new w2 _, World.ownsRow_nil _ _ _ _, fun _ => rfl⟩
  go_loopw [8, 9, 10, 24] (fun gv _ _ i wr => ∃ k : Nat, k ≤ T ∧ i = .int .i64 k ∧ gv = .int .i64 (Sh.gi R q a k).length ∧ Sh.Sol wr w2.heap.size (Sh.kn row (Sh.gi R q a k)) ∧ Below w2.heap.size w2 wr) (fun _ _ _ i _ => T - (intOf i).toNat)
  case atStart => exact ⟨0, Nat.zero_le _, rfl, rfl, HSol0.out, (Below.refl _ _).alloc (Nat.le_refl _) _⟩
  case round =>
    obtain ⟨k, hk, rfl, rfl, hsol, hbl⟩ := hrel
    have hsr := hbl.size
    have e1 := keepc hbl (by omega) 1 d1
    by_cases hlt : k < T
    · have hck := keepc hbl hg k (HC.out k hlt)
      have hgl := hlen0 k
      have hrk := Hrl.out k
      have hdv : (k : Int) / (R : Int) = ((k / R : Nat) : Int) := (Int.natCast_ediv k R).symm
      have HI := hide (fun (wx : World) => isLost_any q (k / R) wx hq (by have := HdivB.out k hlt; omega))
      have hdb := HdivB.out k hlt
      have HSl := hide hsol
      have HAdd := hide (fun (wx : World) (hx : Sh.Sol wx w2.heap.size (Sh.kn row (Sh.gi R q a k))) (hl : (Sh.gi R q a k).length < a) => add_ok w2.heap.size (Sh.kn row (Sh.gi R q a k)) (row k) (2 ^ (Sh.gi R q a k).length) wx hx (by have := Sh.kn_len row (Sh.gi R q a k); omega) (Sh.kn_lt Hrl.out _ (by omega)) hrk (Nat.pow_lt_pow_right (by decide) (by omega)))
      have HGi : Hid (Sh.gi R q a (k + 1) = if q.testBit (k / R) = false ∧ (Sh.gi R q a k).length < a then Sh.gi R q a k ++ [k] else Sh.gi R q a k) := rfl
      have HKn := hide (Sh.kn_snoc row (Sh.gi R q a k) k)
      have HGl := hide (show (Sh.gi R q a k ++ [k]).length = (Sh.gi R q a k).length + 1 by simp)
      clear hsol
      generalize hGk : Sh.gi R q a k = Gk at *
      have hpow := Sh.pow64 Gk.length (by omega)
      generalize hTw : 2 ^ Gk.length = tw at *
      generalize hrw : row k = rk at *
      have hmod : ((k / R : Nat) : Int) = (k : Int) / (R : Int) := hdv.symm
      generalize hdd : k / R = dd at *
      cases hbt : q.testBit dd with
      | true =>
        have HG1 := hide (show Sh.gi R q a (k + 1) = Gk by rw [HGi.out, hbt]; simp)
        rw [hbt] at HI
        clear hbt HGi HKn HGl HAdd hTw hrw hdd hmod
        go_wp2_with (go_at_call 50; refine (HI.out _).mono ?_; rintro e w' ⟨rfl, rfl⟩)
        go_roundw
        case rel => exact ⟨k + 1, by omega, by go_num, by rw [HG1.out], by rw [HG1.out]; exact HSl.out, hbl⟩
        case measure => simp [intOf]; omega
      | false =>
        rw [hbt] at HI
        by_cases hga : Gk.length < a
        · have HG1 := hide (show Sh.gi R q a (k + 1) = Gk ++ [k] by rw [HGi.out, hbt]; simp [hga])
          have HA1 := hide (HAdd.out _ HSl.out hga)
          clear hbt HGi HAdd hTw hrw hdd hmod
          go_wp2_with (first | (go_at_call 50; refine (HI.out _).mono ?_; rintro e w' ⟨rfl, rfl⟩) | (go_at_call 63; refine HA1.out.mono ?_; rintro e w4 ⟨rfl, hsol4, hb4⟩))
          go_roundw
          case rel => exact ⟨k + 1, by omega, by go_num, by rw [HG1.out, HGl.out]; go_num, by rw [HG1.out, HKn.out]; exact hsol4, hbl.trans hb4⟩
          case measure => simp [intOf]; omega
        · have HG1 := hide (show Sh.gi R q a (k + 1) = Gk by rw [HGi.out]; rw [if_neg (fun h => hga h.2)])
          clear hbt HGi HKn HGl HAdd hTw hrw hdd hmod
          go_wp2_with (go_at_call 50; refine (HI.out _).mono ?_; rintro e w' ⟨rfl, rfl⟩)
          go_roundw
          case rel => exact ⟨k + 1, by omega, by go_num, by rw [HG1.out], by rw [HG1.out]; exact HSl.out, hbl⟩
          case measure => simp [intOf]; omega
    · rename World => wr0
      have hkT : k = T := by omega
      subst hkT
      rw [Hgl.out]
      go_wp2_with fail
      have HSl := hide hsol
      have hkl := Sh.kn_len row (Sh.gi R q a k)
      have hgl := (hlen0 k).1
      have HRd := hide (fun (wx : World) (hx : Sh.Sol wx w2.heap.size (Sh.kn row (Sh.gi R q a k))) (d : Nat) (hd : d < 2 ^ 48) => reduce_ok w2.heap.size (Sh.kn row (Sh.gi R q a k)) d 0 wx hx (by omega) (Sh.kn_lt Hrl.out _ (by omega)) hd (Nat.two_pow_pos 48))
      have Hrd2 := hide (fun (d : Nat) (hd : d < 2 ^ 48) => (Sh.red_lt (n := 48) (Sh.kn_lt Hrl.out (Sh.gi R q a k) (by omega)) (e := (d, 0)) ⟨hd, Nat.two_pow_pos 48⟩).2)
      generalize hks : Sh.kn row (Sh.gi R q a k) = ks at *
      have Hks := hide hks
      clear hks hsol hkl hgl
      have HLl : Hid (∀ t, (Sh.ls row R q ks t).length ≤ t) := by
        intro t
        induction t with
        | zero => exact Nat.le_refl _
        | succ t ih =>
          simp only [Sh.ls]
          split
          · rw [List.length_append, List.length_singleton]; omega
          · omega
      go_loopw [11, 12, 13, 14, 61] (fun s _ _ _ i wr2 => ∃ t : Nat, t ≤ k ∧ i = .int .i64 t ∧ wr2.ownsRow wr0.heap.size 89 1 s (Sh.ls row R q ks t).length (Sh.nv64 (Sh.ls row R q ks t)) ∧ Below wr0.heap.size wr0 wr2) (fun _ _ _ _ i _ => k - (intOf i).toNat)
      case atStart => exact ⟨0, Nat.zero_le _, rfl, own_empty rfl (Nat.le_refl _), (Below.refl _ _).alloc (Nat.le_refl _) _⟩
      case round =>
        obtain ⟨t, ht, rfl, hown, hb3⟩ := hrel
        have hs3 := hb3.size
        have hlt := HLl.out t
        by_cases htk : t < k
        · have hck := keepc hb3 (by omega) t (keepc hbl hg t (HC.out t htk))
          have hrk := Hrl.out t
          have hdv : (t : Int) / (R : Int) = ((t / R : Nat) : Int) := (Int.natCast_ediv t R).symm
          have HI := hide (fun (wx : World) => isLost_any q (t / R) wx hq (by have := HdivB.out t htk; omega))
          have hdb := HdivB.out t htk
          have HLs : Hid (Sh.ls row R q ks (t + 1) = if q.testBit (t / R) = true then Sh.ls row R q ks t ++ [(Sh.red ks (row t, 0)).2] else Sh.ls row R q ks t) := rfl
          have HR1 := hide (fun (wx : World) (hx : Below wr0.heap.size wr0 wx) => HRd.out wx (HSl.out.below hx) (row t) hrk)
          have hr2 := Hrd2.out (row t) hrk
          have HNs := hide (fun (x : Nat) => (show Sh.nv64 (Sh.ls row R q ks t ++ [x]) = Sh.nv64 (Sh.ls row R q ks t) ++ [.int .u64 (x : Int)] by simp [Sh.nv64]))
          generalize hLt : Sh.ls row R q ks t = Lt at *
          generalize hee : Sh.red ks (row t, 0) = ee at *
          generalize hrw : row t = rk at *
          generalize hdd : t / R = dd at *
          clear hee hrw hdd hLt
          obtain ⟨ea, eb⟩ := ee
          simp only at hr2 HR1 HLs
          cases hbt : q.testBit dd with
          | false =>
            have HG1 := hide (show Sh.ls row R q ks (t + 1) = Lt by rw [HLs.out, hbt]; simp)
            rw [hbt] at HI
            clear hbt HLs
            go_wp2_with (go_at_call 50; refine (HI.out _).mono ?_; rintro e w' ⟨rfl, rfl⟩)
            go_roundw
            case rel => exact ⟨t + 1, by omega, by go_num, by rw [HG1.out]; exact hown, hb3⟩
            case measure => simp [intOf]; omega
          | true =>
            have HG1 := hide (show Sh.ls row R q ks (t + 1) = Lt ++ [eb] by rw [HLs.out, hbt]; simp)
            rw [hbt] at HI
            have HR2 := hide (HR1.out _ hb3)
            clear hbt HLs
            go_wp2_with (first | (go_at_call 50; refine (HI.out _).mono ?_; rintro e w' ⟨rfl, rfl⟩) | (go_at_call 64; refine HR2.out.mono ?_; rintro e w4 ⟨rfl, hb4⟩; have hs4 := hb4.size; have hown4 := own_below hown hb4) | (at_builtin; refine appendX _ rfl (.tmp 74) (.tmp 77) 81 rfl wr0.heap.size 89 i0 (.int .u64 0) 1 8 Try.underlying81 hi hz0 hz1 hz2 rfl (by decide) _ _ _ rfl ((hown4.alloc _).alloc _) ⟨w4.heap.size + 1, 0, none⟩ 1 1 [.int .u64 (eb : Int)] rfl rfl (fun j u hu => by rw [addr_add]; exact blk_cell (heap_new2 w4 _ _) (by simpa using hu)) (by simp; rfl) (by decide) (by unfold maxLen; omega) (by omega) (by simp; omega) ?_; intro v5 w5 hown5 hb5 hg5 hf5))
            go_roundw
            case rel => exact ⟨t + 1, by omega, by go_num, by rw [HG1.out, HNs.out, List.length_append]; exact hown5, (((hb3.trans (hb4.mono (by omega))).alloc (by omega) _).alloc (by simp; omega) _).trans hb5⟩
            case measure => simp [intOf]; omega
        · have htk' : t = k := by omega
          subst htk'
          go_wp2
          go_ret
          have hz2 := hB2.size
          have hfin : wr.ownsRow w.heap.size 89 1 u11 (Sh.ls row R q (Sh.kn row (Sh.gi R q a t)) t).length (Sh.nv64 (Sh.ls row R q (Sh.kn row (Sh.gi R q a t)) t)) := by
            rw [Hks.out]
            exact own_mono hown (by omega)
          exact ⟨u11, rfl, hfin, (hB2.trans (hbl.mono hB2.size)).trans (hb3.mono (by have := hB2.size; omega))⟩
end Go.Proofs.Ytfnfnmonnfcpeab
