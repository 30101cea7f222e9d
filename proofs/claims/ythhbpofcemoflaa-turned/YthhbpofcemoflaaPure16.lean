import Derived.Test.YthhbpofcemoflaaGw
namespace Go.Proofs.Ythhbpofcemoflaa
open Go.RowKit
set_option maxRecDepth 20000
namespace Sh
theorem bx_zero_r {x : Int} (h : Byte x) : bx x 0 = x := by rw [bx_comm h byte0, bx_zero h]
theorem bx_eq_zero {a b : Int} (ha : Byte a) (hb : Byte b) (h : bx a b = 0) : a = b := by
  have h1 : bx a (bx a b) = b := by rw [← bx_assoc ha ha hb, bx_self ha, bx_zero hb]
  rw [h, bx_zero_r ha] at h1
  exact h1
theorem bx_keep {z d : Int} (hz : Byte z) (hd : Byte d) (h : bx z d = z) : d = 0 := by
  have h1 : bx z (bx z d) = d := by rw [← bx_assoc hz hz hd, bx_self hz, bx_zero hd]
  rw [h, bx_self hz] at h1
  exact h1.symm
theorem xs_diff (s : Int) (e1 e2 : Nat → Int) (r0 : Nat) (h1 : ∀ r, Byte (e1 r)) (h2 : ∀ r, Byte (e2 r)) (n : Nat) (he : ∀ r, r < n → r ≠ r0 → e2 r = e1 r) :
    xs s e2 n = if r0 < n ∧ bit s r0 = true then bx (xs s e1 n) (bx (e1 r0) (e2 r0)) else xs s e1 n := by
  induction n with
  | zero => rw [if_neg (by omega)]; rfl
  | succ n ih =>
    have ih := ih (fun r hr hne => he r (by omega) hne)
    by_cases c : bit s n = true
    · rw [xs_t c, xs_t c, ih]
      by_cases e : n = r0
      · subst e
        rw [if_neg (by omega), if_pos ⟨by omega, c⟩, bx_assoc (xs_byte _ _ _) (h1 _) (bx_byte _ _), ← bx_assoc (h1 _) (h1 _) (h2 _), bx_self (h1 _), bx_zero (h2 _)]
      · rw [he n (by omega) e]
        by_cases c2 : r0 < n ∧ bit s r0 = true
        · rw [if_pos c2, if_pos ⟨by omega, c2.2⟩, bx_assoc (xs_byte _ _ _) (bx_byte _ _) (h1 _), bx_comm (bx_byte _ _) (h1 _), ← bx_assoc (xs_byte _ _ _) (h1 _) (bx_byte _ _)]
        · rw [if_neg c2, if_neg (fun h => c2 ⟨by omega, h.2⟩)]
    · rw [xs_f c, xs_f c, ih]
      by_cases c2 : r0 < n ∧ bit s r0 = true
      · rw [if_pos c2, if_pos ⟨by omega, c2.2⟩]
      · rw [if_neg c2, if_neg]
        intro h
        by_cases e : n = r0
        · subst e; exact c h.2
        · exact c2 ⟨by omega, h.2⟩
/-- each row of the data is in some row of the parity -/
def Cov (kind : Int) (K M : Nat) (N gd : Int) : Prop := ∀ r, r < K * R kind N → ∃ j, j < M * R kind N ∧ bit ((parity kind K M N gd).getD j 0) r = true
def covB (kind : Int) (K M : Nat) (N gd : Int) : Bool := (List.range (K * R kind N)).all fun r => (List.range (M * R kind N)).any fun j => bit ((parity kind K M N gd).getD j 0) r
set_option maxRecDepth 100000 in
theorem cds_covB : ∀ t ∈ cds, covB t.1 t.2.1 t.2.2.1 t.2.2.2.1 t.2.2.2.2 = true := by decide +kernel
theorem cds_cov : ∀ t ∈ cds, Cov t.1 t.2.1 t.2.2.1 t.2.2.2.1 t.2.2.2.2 := by
  intro t ht r hr
  have h := cds_covB t ht
  simp only [covB, List.all_eq_true, List.any_eq_true, List.mem_range] at h
  exact h r hr
theorem set_bytes {X : List (List Int)} (h : Bytes X) {i k : Nat} {x : List Int} (hx : X[i]? = some x) {u : Int} (hu : Byte u) : Bytes (X.set i (x.set k u)) := by
  intro y hy b hb
  rcases List.mem_or_eq_of_mem_set hy with hy | rfl
  · exact h y hy b hb
  · rcases List.mem_or_eq_of_mem_set hb with hb | rfl
    · exact h x (List.mem_of_getElem? hx) b hb
    · exact hu
theorem turn_data {kind : Int} {K M : Nat} {N gd : Int} {size : Nat} {X : List (List Int)} (hc : Cov kind K M N gd) (hX : X.length = K) (bX : Bytes X) {i k : Nat} {x : List Int} (hx : X[i]? = some x) (hl : x.length = R kind N * size) {b u : Int} (hk : x[k]? = some b) (hu : Byte u) (hne : u ≠ b) :
    parB kind K M N gd size (X.set i (x.set k u)) ≠ parB kind K M N gd size X := by
  intro he
  have hkl : k < R kind N * size := by rw [← hl]; exact (List.getElem?_eq_some_iff.1 hk).1
  have hiK : i < K := by rw [← hX]; exact (List.getElem?_eq_some_iff.1 hx).1
  have hs0 : 0 < size := by
    rcases Nat.eq_zero_or_pos size with h | h
    · subst h; omega
    · exact h
  have hd := Nat.div_add_mod k size
  have hm := Nat.mod_lt k hs0
  have hq : k / size < R kind N := Nat.div_lt_of_lt_mul (by rw [Nat.mul_comm]; exact hkl)
  have ek : k = k / size * size + k % size := by rw [Nat.mul_comm]; exact hd.symm
  generalize hqq : k / size = q at *
  generalize hpp : k % size = p at *
  have hr0 : i * R kind N + q < K * R kind N := by
    have : (i + 1) * R kind N ≤ K * R kind N := Nat.mul_le_mul_right _ hiK
    rw [Nat.add_mul, Nat.one_mul] at this
    omega
  obtain ⟨j, hj, hbit⟩ := hc (i * R kind N + q) hr0
  have hR0 : 0 < R kind N := by omega
  have hx' : (X.set i (x.set k u))[i]? = some (x.set k u) := List.getElem?_set_self (by omega)
  have bX' : Bytes (X.set i (x.set k u)) := set_bytes bX hx hu
  have hpb : pb kind K M N gd size (X.set i (x.set k u)) j p = pb kind K M N gd size X j p := by
    have hjd := Nat.div_add_mod j (R kind N)
    have hjm := Nat.mod_lt j hR0
    have hjM : j / R kind N < M := Nat.div_lt_of_lt_mul (by rw [Nat.mul_comm]; exact hj)
    obtain ⟨y, hy⟩ : ∃ y, (parB kind K M N gd size X)[j / R kind N]? = some y := ⟨_, List.getElem?_eq_getElem (by rw [parB_len]; exact hjM)⟩
    have h1 := (parB_each hy).2 (j % R kind N) p hjm hm
    rw [← he] at hy
    have h2 := (parB_each hy).2 (j % R kind N) p hjm hm
    rw [h1, Nat.mul_comm (j / R kind N), hjd] at h2
    injection h2 with h2
    exact h2.symm
  unfold pb at hpb
  have e1 := fun r => env0_byte (rowsD_bytes (R := R kind N) (size := size) bX) p r
  have e2 := fun r => env0_byte (rowsD_bytes (R := R kind N) (size := size) bX') p r
  have henv : ∀ r, r < K * R kind N → r ≠ i * R kind N + q → env0 (rowsD (R kind N) size (X.set i (x.set k u))) p r = env0 (rowsD (R kind N) size X) p r := by
    intro r hr hrne
    have hrd := Nat.div_add_mod r (R kind N)
    have hrm := Nat.mod_lt r hR0
    have hrK : r / R kind N < K := Nat.div_lt_of_lt_mul (by rw [Nat.mul_comm]; exact hr)
    have er : r = r / R kind N * R kind N + r % R kind N := by rw [Nat.mul_comm]; exact hrd.symm
    obtain ⟨y, hy⟩ : ∃ y, X[r / R kind N]? = some y := ⟨_, List.getElem?_eq_getElem (by omega)⟩
    generalize r / R kind N = a at *
    generalize r % R kind N = c at *
    subst er
    by_cases hai : a = i
    · subst hai
      rw [hx] at hy
      injection hy with hy
      subst hy
      have hcq : c ≠ q := fun e => hrne (by rw [e])
      rw [env_row hx' hrm hm, env_row hx hrm hm]
      have hne2 : c * size + p ≠ k := by
        intro e
        rw [ek] at e
        apply hcq
        rcases Nat.lt_trichotomy c q with h | h | h
        · have : (c + 1) * size ≤ q * size := Nat.mul_le_mul_right _ h
          rw [Nat.add_mul, Nat.one_mul] at this
          omega
        · exact h
        · have : (q + 1) * size ≤ c * size := Nat.mul_le_mul_right _ h
          rw [Nat.add_mul, Nat.one_mul] at this
          omega
      rw [List.getD_eq_getElem?_getD, List.getD_eq_getElem?_getD, List.getElem?_set_ne (Ne.symm hne2)]
    · have hy' : (X.set i (x.set k u))[a]? = some y := by rw [List.getElem?_set_ne (by omega)]; exact hy
      rw [env_row hy' hrm hm, env_row hy hrm hm]
  rw [xs_diff _ _ _ (i * R kind N + q) e1 e2 _ henv, if_pos ⟨hr0, hbit⟩] at hpb
  have hd0 := bx_keep (xs_byte _ _ _) (bx_byte _ _) hpb
  have hab := bx_eq_zero (e1 _) (e2 _) hd0
  rw [env_row hx' hq hm, env_row hx hq hm, ← ek] at hab
  rw [List.getD_eq_getElem?_getD, List.getD_eq_getElem?_getD, hk, List.getElem?_set_self (by rw [hl]; exact hkl)] at hab
  exact hne hab.symm
theorem turn_ne {kind : Int} {K M : Nat} {N gd : Int} {size : Nat} {X : List (List Int)} (hc : Cov kind K M N gd) (hX : X.length = K) (bX : Bytes X) (hlX : ∀ x ∈ X, x.length = R kind N * size) {i k : Nat} {z : List Int} (hz : (X ++ parB kind K M N gd size X)[i]? = some z) {b u : Int} (hk : z[k]? = some b) (hu : Byte u) (hne : u ≠ b) :
    decide (parB kind K M N gd size (((X ++ parB kind K M N gd size X).set i (z.set k u)).take K) = ((X ++ parB kind K M N gd size X).set i (z.set k u)).drop K) = false := by
  apply decide_eq_false
  by_cases c : i < K
  · rw [List.getElem?_append_left (by omega)] at hz
    rw [List.set_append_left _ _ (by omega), List.take_append_of_le_length (by rw [List.length_set]; omega), List.take_of_length_le (by rw [List.length_set]; omega), List.drop_append_of_le_length (by rw [List.length_set]; omega), List.drop_of_length_le (by rw [List.length_set]; omega), List.nil_append]
    exact turn_data hc hX bX hz (hlX z (List.mem_of_getElem? hz)) hk hu hne
  · rw [List.getElem?_append_right (by omega)] at hz
    rw [List.set_append_right _ _ (by omega), List.take_append_of_le_length (by omega), List.take_of_length_le (by omega), List.drop_append_of_le_length (by omega), List.drop_of_length_le (by omega), List.nil_append]
    intro he
    have hlt := (List.getElem?_eq_some_iff.1 hz).1
    rw [he, List.getElem?_set_self hlt] at hz
    injection hz with hz
    have hl : k < z.length := (List.getElem?_eq_some_iff.1 hk).1
    have h1 : (z.set k u)[k]? = some u := List.getElem?_set_self hl
    rw [hz, hk] at h1
    injection h1 with h1
    exact hne h1.symm
end Sh
end Go.Proofs.Ythhbpofcemoflaa
