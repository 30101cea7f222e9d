import Derived.Test.YtfnfnmonnfcpeabW14
import Derived.Test.YtfnfnmonnfcpeabPure8
namespace Go.Proofs.Ytfnfnmonnfcpeab
open Go.RowKit
set_option maxRecDepth 20000

set_option maxHeartbeats 1000000 in
theorem rowsOf_any (v : Value) (base K R size : Nat) (ps : List (Nat × Nat × Nat)) (w : World) (hK : 1 ≤ K) (hK' : K ≤ 20) (hR : 1 ≤ R) (hR' : R ≤ 8) (hs1 : 1 ≤ size) (hs2 : size ≤ 48) (hl : ps.length = K)
    (hcap : ∀ p ∈ ps, R * size ≤ p.2.2 ∧ p.2.2 ≤ maxLen) (hv : w.ownsRow base 33 1 v K (Sh.sv (R * size) ps)) :
    Calls Try.prog 52 #[v, .int .i64 R] w
      fun e w' => ∃ v', e = .returned v' ∧ w'.ownsRow w.heap.size 33 1 v' (K * R) (Sh.sv size (Sh.cutAll size R ps)) ∧ Below w.heap.size w w' := by
  obtain ⟨i0, hi, hz0, hz1, hz2⟩ := info_parts Try.infoSl
  obtain ⟨g, cap, rfl, _, hg, hcp, hcells⟩ := own_form hv hK
  have HCC := hide hcells
  have HCAP := hide hcap
  have HL := hide hl
  clear hcells hcap hl hv
  have dR : decide ((R : Int) < 1) = false := by simp; omega
  go_enter Try.func52, Try.ntmps52
  go_wp2
  go_loopw [5, 7, 8, 9, 16] (fun v _ _ _ i' wr => ∃ k : Nat, k ≤ K ∧ i' = .int .i64 k ∧ wr.ownsRow w.heap.size 33 1 v (k * R) (Sh.sv size (Sh.cutAll size R (ps.take k))) ∧ Below w.heap.size w wr) (fun _ _ _ _ i _ => K - (intOf i).toNat)
  case atStart => exact ⟨0, Nat.zero_le _, rfl, by simp only [Nat.zero_mul]; exact own_empty rfl (Nat.le_refl _), (Below.refl _ _).alloc (Nat.le_refl _) _⟩
  case round =>
    obtain ⟨k, hk, rfl, hown, hbl⟩ := hrel
    have hsw := hbl.size
    by_cases hlt : k < K
    · have hlp : k < ps.length := by rw [HL.out]; exact hlt
      have hck := (hbl.cell (p := ⟨g, k, none⟩) hg).trans (HCC.out k _ (Sh.sv_get (List.getElem?_eq_getElem hlp)))
      have hcp2 := HCAP.out ps[k] (List.getElem_mem _)
      have HS := hide (List.take_succ_eq_append_getElem hlp)
      generalize hp0 : ps[k] = p0 at *
      clear hp0
      obtain ⟨pg, po, pc⟩ := p0
      simp only at hck hcp2
      unfold maxLen at hcp2
      have hkR : k * R ≤ 160 := by
        have : k * R ≤ 20 * 8 := Nat.mul_le_mul (by omega) hR'
        omega
      have hRs : R * size ≤ 384 := by
        have : R * size ≤ 8 * 48 := Nat.mul_le_mul hR' hs2
        omega
      have hdiv : (R : Int) * (size : Int) / (R : Int) = (size : Int) := Int.mul_ediv_cancel_left _ (by omega)
      go_wp2
      rw [hdiv]
      clear hdiv
      go_loopw [5, 9, 25] (fun v _ i' wr => ∃ r : Nat, r ≤ R ∧ i' = .int .i64 r ∧ wr.ownsRow w.heap.size 33 1 v (k * R + r) (Sh.sv size (Sh.cutAll size R (ps.take k) ++ Sh.cutOne size r (pg, po, pc))) ∧ Below w.heap.size w wr) (fun _ _ i _ => R - (intOf i).toNat)
      case atStart => exact ⟨0, Nat.zero_le _, rfl, by simpa [Sh.cutOne] using hown, hbl⟩
      case round =>
        clear hck hown hbl hsw
        obtain ⟨r, hr, rfl, hown, hbl⟩ := hrel
        have hsw := hbl.size
        by_cases hlr : r < R
        · have hrs : r * size + size ≤ R * size := by
            have : (r + 1) * size ≤ R * size := Nat.mul_le_mul_right _ hlr
            rw [Nat.add_mul, Nat.one_mul] at this
            exact this
          have hne : ¬ pc = r * size := by omega
          have hle : r * size ≤ pc := by omega
          go_wp2_with (at_builtin; refine append1x _ rfl (.tmp 28) (.tmp 39) 32 rfl w.heap.size 33 i0 (.slice none 0 0) 1 24 Try.underlying32 hi hz0 hz1 hz2 rfl (by decide) (by decide) _ _ _ _ rfl hown rfl rfl (by simp; rfl) (by omega) (by omega) ?_; intro v' w3 hown3 hb3 hg3 hf3)
          go_roundw
          case rel => exact ⟨r + 1, by omega, by go_num, by rw [Sh.cutOne_succ, ← List.append_assoc, Sh.sv_append]; exact hown3, hbl.trans hb3⟩
          case measure => simp [intOf]; omega
        · have hrR : r = R := by omega
          subst hrR
          go_wp2
          go_roundw
          case rel => exact ⟨k + 1, by omega, by go_num, by rw [HS.out, Sh.cutAll_snoc, Nat.add_mul, Nat.one_mul]; exact hown, hbl⟩
          case measure => simp [intOf]; omega
    · have hkK : k = K := by omega
      subst hkK
      go_wp2
      go_ret
      exact ⟨_, rfl, by rw [List.take_of_length_le (by rw [HL.out]; exact Nat.le_refl _)] at hown; exact hown, hbl⟩
end Go.Proofs.Ytfnfnmonnfcpeab
