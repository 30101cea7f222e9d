import Derived.Test.YtfnfnmonnfcpeabW15
namespace Go.Proofs.Ytfnfnmonnfcpeab
open Go.RowKit
set_option maxRecDepth 20000

set_option maxHeartbeats 1000000 in
theorem shardsOf_any (v : Value) (base M R size : Nat) (bs : List Nat) (X : List (List Int)) (w : World) (hM : 1 ≤ M) (hM' : M ≤ 10) (hR : 1 ≤ R) (hR' : R ≤ 8) (hs1 : 1 ≤ size) (hs2 : size ≤ 48) (hl : bs.length = M * R) (hX : X.length = M * R)
    (hXl : ∀ (j : Nat) (x : List Int), X[j]? = some x → x.length = size)
    (hv : w.ownsRow base 33 1 v (M * R) (bs.map fun b => Value.slice (some ⟨b, 0, none⟩) size size))
    (hb : ∀ (j b : Nat) (x : List Int), bs[j]? = some b → X[j]? = some x → w.heap[b]? = some (.cells (x.map (Value.int .u8)).toArray 5 (0, 0))) :
    Calls Try.prog 53 #[v, .int .i64 R] w
      fun e w' => ∃ (v' : Value) (ps : List (Nat × Nat × Nat)), e = .returned v' ∧ ps.length = M ∧ Sh.Own w' w.heap.size 33 5 v' (R * size) ps ((List.range M).map fun k => Sh.shB X R k R) ∧ Below w.heap.size w w' := by
  obtain ⟨i0, hi, hz0, hz1, hz2⟩ := info_parts Try.infoSl
  obtain ⟨i1, hj, hy0, hy1, hy2⟩ := info_parts Try.infoU8
  have hMR1 : 1 ≤ M * R := Nat.mul_pos hM hR
  have hMR2 : M * R ≤ 80 := by
    have : M * R ≤ 10 * 8 := Nat.mul_le_mul hM' hR'
    omega
  obtain ⟨g, cap, rfl, _, hg, hcp, hcells⟩ := own_form hv hMR1
  have HCC := hide hcells
  have HL := hide hl
  have HX := hide hX
  have HXl := hide hXl
  have HSL := hide (fun (k r : Nat) (hk : k < M) (hr : r ≤ R) => Sh.shB_len (k := k) (r := r) hXl hX hk hr)
  have HB := hide hb
  clear hcells hl hX hXl hb hv
  have dR : decide ((R : Int) < 1) = false := by simp; omega
  have hRs : R * size ≤ 384 := by
    have : R * size ≤ 8 * 48 := Nat.mul_le_mul hR' hs2
    omega
  have HKR := hide (fun (k : Nat) (h : k < M) => (by
        have : (k + 1) * R ≤ M * R := Nat.mul_le_mul_right _ h
        rw [Nat.add_mul, Nat.one_mul] at this
        exact this : k * R + R ≤ M * R))
  generalize hN1 : M * R = N1 at *
  have HN1 := hide hN1
  clear hN1
  go_enter Try.func53, Try.ntmps53
  go_wp2
  go_loopw [5, 6, 7, 9] (fun v i' _ _ wr => ∃ (k : Nat) (ps : List (Nat × Nat × Nat)), k ≤ M ∧ i' = .int .i64 ((k * R : Nat) : Int) ∧ ps.length = k ∧ Sh.Own wr w.heap.size 33 5 v (R * size) ps ((List.range k).map fun k => Sh.shB X R k R) ∧ Below w.heap.size w wr) (fun _ i _ _ _ => N1 + R - (intOf i).toNat)
  case atStart =>
    refine ⟨0, [], Nat.zero_le _, by simp, rfl, ⟨own_empty rfl (Nat.le_refl _), rfl, by intro j p x hp; simp at hp, by simp⟩, (Below.refl _ _).alloc (Nat.le_refl _) _⟩
  case round =>
    obtain ⟨k, ps, hk, rfl, hpl, hown, hbl⟩ := hrel
    have hsw := hbl.size
    by_cases hlt : k < M
    · have hkR := HKR.out k hlt
      generalize hT : k * R = T at *
      have HT := hide hT
      clear hT
      have hne : ¬ cap = T := by omega
      have hle : T ≤ cap := by omega
      have dT : decide ((T : Int) + (R : Int) ≤ (N1 : Int)) = true := by simp; omega
      have Hown := hide hown
      have Hpl := hide hpl
      clear hown hpl
      rename World => wz
      go_wp2
      rw [Nat.add_sub_cancel_left]
      go_loopw [7, 9, 31] (fun v _ i' wr => ∃ r : Nat, r ≤ R ∧ i' = .int .i64 r ∧ wr.ownsRow wz.heap.size 5 1 v (r * size) ((Sh.shB X R k r).map (Value.int .u8)) ∧ Below wz.heap.size wz wr) (fun _ _ i _ => R - (intOf i).toNat)
      case atStart => exact ⟨0, Nat.zero_le _, rfl, by simp only [Nat.zero_mul]; exact own_empty rfl (Nat.le_refl _), (Below.refl _ _).alloc (Nat.le_refl _) _⟩
      case round =>
        obtain ⟨r, hr, rfl, hcur, hbw⟩ := hrel
        have hzw := hbw.size
        by_cases hlr : r < R
        · obtain ⟨b, hbj⟩ : ∃ b, bs[T + r]? = some b := ⟨_, List.getElem?_eq_getElem (by rw [HL.out]; omega)⟩
          obtain ⟨x, hxj⟩ : ∃ x, X[T + r]? = some x := ⟨_, List.getElem?_eq_getElem (by rw [HX.out]; omega)⟩
          have hblk := HB.out _ _ _ hbj hxj
          have hbw0 : b < w.heap.size := blk_lt hblk
          have HBlk := hide ((hbw.block b (by omega)).trans ((hbl.block b hbw0).trans hblk))
          have hck : wr.cell? ⟨g, T + r, none⟩ = some (.slice (some ⟨b, 0, none⟩) size size) := ((hbw.cell (p := ⟨g, T + r, none⟩) (by simp; omega)).trans (hbl.cell (p := ⟨g, T + r, none⟩) hg)).trans (HCC.out _ _ (by rw [List.getElem?_map, hbj]; rfl))
          have HXL := hide (HXl.out _ _ hxj)
          have HS := hide (show Sh.shB X R k (r + 1) = Sh.shB X R k r ++ x by rw [Sh.shB_succ, HT.out, List.getD_eq_getElem?_getD, hxj]; rfl)
          have hrs : r * size ≤ 384 := by
            have : r * size ≤ 8 * 48 := Nat.mul_le_mul (by omega) hs2
            omega
          clear hbj hxj hblk
          go_wp2_with (at_builtin; refine appendX _ rfl (.tmp 35) (.tmp 36) 33 rfl wz.heap.size 5 i1 (.int .u8 0) 1 1 Try.underlying33 hj hy0 hy1 hy2 rfl (by decide) _ _ _ rfl hcur ⟨b, 0, none⟩ size size (x.map (Value.int .u8)) rfl (by simp [HXL.out]) (by exact World.news_of_block (cs := (x.map (Value.int .u8)).toArray) HBlk.out) (ints_one _ _) hs1 (by unfold maxLen; omega) (by omega) (by omega) ?_; intro v3 w3 hown3 hb3 hg3 hf3)
          go_roundw
          case rel => exact ⟨r + 1, by omega, by go_num, by rw [HS.out, List.map_append, Nat.add_mul, Nat.one_mul]; exact hown3, hbw.trans hb3⟩
          case measure => simp [intOf]; omega
        · have hrR : r = R := by omega
          subst hrR
          obtain ⟨g4, cap4, hv4, hgb4, hgw4, _, _⟩ := own_form hcur (Nat.mul_pos hR hs1)
          have HO2 := hide (Hown.out.below hbw)
          have hrow := HO2.out.row
          rw [Hpl.out] at hrow
          rw [hv4] at hcur
          have HV4 := hide hv4
          clear hv4
          rw [HV4.out]
          go_wp2_with (at_builtin; refine append1x _ rfl (.tmp 39) (.tmp 41) 32 rfl w.heap.size 33 i0 (.slice none 0 0) 1 24 Try.underlying32 hi hz0 hz1 hz2 rfl (by decide) (by decide) _ _ _ _ rfl hrow rfl rfl (by simp; rfl) (by omega) (by omega) ?_; intro v3 w3 hown3 hb3 hg3 hf3)
          go_roundw
          case rel =>
            refine ⟨k + 1, ps ++ [(g4, 0, cap4)], by omega, ?_, by simp [Hpl.out], ?_, (hbl.trans (hbw.mono hsw)).trans hb3⟩
            · refine val_int ?_
              rw [Nat.add_mul, Nat.one_mul, HT.out]
              omega
            · rw [List.range_succ, List.map_append]
              refine HO2.out.push (by decide) wz.heap.size (own_mono hcur hsw) ?_ hgb4 (by rw [Hpl.out]; exact hown3) hg3
              intro p hp
              obtain ⟨j, hjp⟩ := List.getElem?_of_mem hp
              obtain ⟨x, hxj⟩ : ∃ x, ((List.range k).map fun k => Sh.shB X r k r)[j]? = some x := ⟨_, List.getElem?_eq_getElem (by rw [Hown.out.lens]; exact (List.getElem?_eq_some_iff.1 hjp).1)⟩
              exact ((Hown.out.each j p x hjp hxj).2.lt p.1 rfl).2
          case measure => simp [intOf]; omega
    · have hkM : k = M := by omega
      subst hkM
      have hbeq : (k * R = N1) := HN1.out
      go_wp2
      go_ret
      exact ⟨_, ps, rfl, hpl, hown, hbl⟩
end Go.Proofs.Ytfnfnmonnfcpeab
