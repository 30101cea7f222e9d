import Derived.Test.YthhbpofcemoflaaGl
import Derived.Test.YthhbpofcemoflaaGk
namespace Go.Proofs.Ythhbpofcemoflaa
open Go.RowKit
set_option maxRecDepth 20000
namespace Sh
def mixB (X Y : List (List Int)) : List (List Int) := List.zipWith (List.zipWith bx) X Y
theorem mixB_bytes (X Y : List (List Int)) : Bytes (mixB X Y) := by
  intro x hx b hb
  simp only [mixB, List.mem_iff_getElem?, List.getElem?_zipWith_eq_some] at hx
  obtain ⟨j, a, c, _, _, rfl⟩ := hx
  rw [List.mem_iff_getElem?] at hb
  obtain ⟨i, hb⟩ := hb
  rw [List.getElem?_zipWith_eq_some] at hb
  obtain ⟨p, q, _, _, rfl⟩ := hb
  exact bx_byte _ _
theorem take_grow {c Z : List Int} {i : Nat} {b : Int} (hi : i < c.length) (h : c.take i = Z.take i) (hz : Z[i]? = some b) : (c.set i b).take (i + 1) = Z.take (i + 1) := by
  rw [List.take_add_one, List.take_add_one, hz, List.getElem?_set_self (by omega), ← h, List.take_set_of_le (by omega)]
end Sh

set_option maxHeartbeats 2000000 in
theorem mixed_ok (K n : Nat) (va vb : Value) (ba bb : Nat) (pa pb : List (Nat × Nat × Nat)) (X Y : List (List Int)) (w : World) (hK : 1 ≤ K) (hK9 : K ≤ 9) (hn1 : 1 ≤ n) (hn2 : n ≤ 102) (hda : Sh.Dat w ba 35 va n pa X) (hdb : Sh.Dat w bb 35 vb n pb Y) (hpa : pa.length = K) (hpb : pb.length = K) :
    Calls Try.prog 16 #[va, vb] w fun e w' => ∃ (v : Value) (ps : List (Nat × Nat × Nat)), e = .returned v ∧ ps.length = K ∧ Sh.Own w' w.heap.size 35 5 v n ps (Sh.mixB X Y) ∧ Below w.heap.size w w' := by
  obtain ⟨i0, hi, hz0, hz1, hz2⟩ := info_parts Try.infoSl
  have hmk := run_make_row' (P := Try.prog) 35 5 (.int .u8 0) 1 Try.underlying35 Try.infoU8 rfl .i64 .i64 n (by omega) (by omega)
  have hra := hda.row
  rw [hpa] at hra
  obtain ⟨ga, capa, rfl, _, hga, hcapa, hcella⟩ := own_form hra hK
  have hrb := hdb.row
  rw [hpb] at hrb
  obtain ⟨gb, capb, rfl, _, hgb, hcapb, hcellb⟩ := own_form hrb hK
  have HA := hide (fun (wx : World) (hb : Below w.heap.size w wx) => hda.below hb)
  have HB := hide (fun (wx : World) (hb : Below w.heap.size w wx) => hdb.below hb)
  have HPA := hide hpa
  have HPB := hide hpb
  have HXL := hide (show X.length = K by rw [hda.lens, hpa])
  have HYL := hide (show Y.length = K by rw [hdb.lens, hpb])
  clear hda hdb hpa hpb hra hrb hcella hcellb
  go_enter Try.func16, Try.ntmps16
  go_wp2
  go_loopw [5, 6, 7, 8, 9] (fun v i' _ _ _ wr => ∃ (j : Nat) (ps : List (Nat × Nat × Nat)), j ≤ K ∧ i' = .int .i64 j ∧ ps.length = j ∧ Sh.Own wr w.heap.size 35 5 v n ps ((Sh.mixB X Y).take j) ∧ Below w.heap.size w wr) (fun _ i _ _ _ _ => K - (intOf i).toNat)
  case atStart => exact ⟨0, [], Nat.zero_le _, rfl, rfl, ⟨World.ownsRow_nil _ _ _ _, rfl, by intro j p x hp; simp at hp, by simp⟩, Below.refl _ _⟩
  case round =>
    obtain ⟨j, ps, hj, rfl, hpl, hown, hbl⟩ := hrel
    have hsw := hbl.size
    by_cases hlt : j < K
    · obtain ⟨x, hx⟩ : ∃ x, X[j]? = some x := ⟨_, List.getElem?_eq_getElem (by rw [HXL.out]; exact hlt)⟩
      obtain ⟨y, hy⟩ : ∃ y, Y[j]? = some y := ⟨_, List.getElem?_eq_getElem (by rw [HYL.out]; exact hlt)⟩
      obtain ⟨p, hp⟩ : ∃ p, pa[j]? = some p := ⟨_, List.getElem?_eq_getElem (by rw [HPA.out]; exact hlt)⟩
      obtain ⟨q, hq⟩ : ∃ q, pb[j]? = some q := ⟨_, List.getElem?_eq_getElem (by rw [HPB.out]; exact hlt)⟩
      have hda := HA.out wr hbl
      have hdb := HB.out wr hbl
      have hra := hda.row
      have hrb := hdb.row
      rw [HPA.out] at hra
      rw [HPB.out] at hrb
      obtain ⟨hxl, hxc⟩ := hda.each j p x hp hx
      obtain ⟨hyl, hyc⟩ := hdb.each j q y hq hy
      have z1 : wr.cell? ⟨ga, j, none⟩ = some (.slice (some ⟨p.1, p.2.1, none⟩) n p.2.2) := own_cells hra j _ (Sh.sv_get hp)
      have z2 : wr.cell? ⟨gb, j, none⟩ = some (.slice (some ⟨q.1, q.2.1, none⟩) n q.2.2) := own_cells hrb j _ (Sh.sv_get hq)
      have hgaz : ga < wr.heap.size := by omega
      have hgbz : gb < wr.heap.size := by omega
      have hpz : p.1 < wr.heap.size := hda.lt p (List.mem_of_getElem? hp)
      have hqz : q.1 < wr.heap.size := hdb.lt q (List.mem_of_getElem? hq)
      have hmix : (Sh.mixB X Y)[j]? = some (List.zipWith Sh.bx x y) := by
        simp only [Sh.mixB]
        rw [List.getElem?_zipWith_eq_some]
        exact ⟨x, y, hx, hy, rfl⟩
      have HMX := hide hmix
      have HXC := hide hxc
      have HYC := hide hyc
      have HOwn := hide hown
      have HPL := hide hpl
      have HXl := hide hxl
      have HYl := hide hyl
      clear hown hpl hmix hxc hyc hx hy hp hq hda hdb hra hrb hxl hyl
      rename World => wz
      go_wp2
      go_loopw [8] (fun i' wr => ∃ (i : Nat) (c : List Int), i ≤ n ∧ i' = .int .i64 i ∧ c.length = n ∧ c.take i = (List.zipWith Sh.bx x y).take i ∧ wr.heap[wz.heap.size]? = some (.cells (c.map (Value.int .u8)).toArray 5 (0, 0)) ∧ Below wz.heap.size wz wr) (fun i _ => n - (intOf i).toNat)
      case atStart => exact ⟨0, List.replicate n 0, Nat.zero_le _, rfl, by simp, by simp, by rw [← made_zero]; exact heap_alloc_new wz _, (Below.refl _ _).alloc (Nat.le_refl _) _⟩
      case round =>
        obtain ⟨i, c, hii, rfl, hcl, hct, hblk, hbw⟩ := hrel
        have HCL := hide hcl
        have HCT := hide hct
        have Hblk := hide hblk
        have hfz := blk_frozen hblk i
        have hbz := blk_lt hblk
        clear hcl hct
        by_cases hli : i < n
        · have hix : i < x.length := by rw [HXl.out]; exact hli
          have hiy : i < y.length := by rw [HYl.out]; exact hli
          have hic : i < c.length := by rw [HCL.out]; exact hli
          have y1 : wr.cell? ⟨ga, j, none⟩ = some (.slice (some ⟨p.1, p.2.1, none⟩) n p.2.2) := keepc hbw hgaz j z1
          have y2 : wr.cell? ⟨gb, j, none⟩ = some (.slice (some ⟨q.1, q.2.1, none⟩) n q.2.2) := keepc hbw hgbz j z2
          have y3 : wr.cell? ⟨p.1, p.2.1 + i, none⟩ = some (.int .u8 x[i]) := keepc hbw hpz (p.2.1 + i) (HXC.out i _ (List.getElem?_eq_getElem hix))
          have y4 : wr.cell? ⟨q.1, q.2.1 + i, none⟩ = some (.int .u8 y[i]) := keepc hbw hqz (q.2.1 + i) (HYC.out i _ (List.getElem?_eq_getElem hiy))
          have hci : wr.cell? ⟨wz.heap.size, i, none⟩ = some (.int .u8 c[i]) := blk_cell hblk (by simp [hic])
          clear hblk z1 z2
          have HZ := hide (show (List.zipWith Sh.bx x y)[i]? = some (bits .xor .u8 x[i] y[i]) by
            rw [List.getElem?_zipWith_eq_some]
            exact ⟨_, _, List.getElem?_eq_getElem hix, List.getElem?_eq_getElem hiy, rfl⟩)
          generalize hx0 : x[i] = x0 at *
          generalize hy0 : y[i] = y0 at *
          generalize hc0 : c[i] = c0 at *
          clear hx0 hy0 hc0
          go_wp2
          go_region
          all_goals go_wp2
          go_roundw
          case rel => exact ⟨i + 1, c.set i (bits .xor .u8 x0 y0), by omega, by go_num, by rw [List.length_set]; exact HCL.out, Sh.take_grow hic HCT.out HZ.out, (blk_set (j := i) (u := .int .u8 (bits .xor .u8 x0 y0)) Hblk.out).trans (by simp [List.map_set]), (hbw.setCell (by simp) _).drew⟩
          case measure => simp [intOf]; omega
        · have hin : i = n := by omega
          have HIN := hide hin
          clear hin
          have hrow := (HOwn.out.below hbw).row
          rw [HPL.out] at hrow
          have hzw := hbw.size
          go_wp2_with (at_builtin; refine append1x _ rfl (.tmp 46) (.tmp 48) 31 rfl w.heap.size 35 i0 (.slice none 0 0) 1 24 Try.underlying31 hi hz0 hz1 hz2 rfl (by decide) (by decide) _ _ _ _ rfl hrow rfl rfl (by simp; rfl) (by omega) (by omega) ?_; intro v' w3 hown3 hb3 hg3 hf3)
          have hcz : c = List.zipWith Sh.bx x y := by
            have := HCT.out
            rw [HIN.out, List.take_of_length_le (by rw [HCL.out]; exact Nat.le_refl _), List.take_of_length_le (by rw [List.length_zipWith, HXl.out, HYl.out, Nat.min_self]; exact Nat.le_refl _)] at this
            exact this
          go_roundw
          case rel =>
            refine ⟨j + 1, ps ++ [(wz.heap.size, 0, n)], by omega, by go_num, by simp [HPL.out], ?_, (hbl.trans (hbw.mono hsw)).trans hb3⟩
            rw [List.take_add_one, HMX.out, ← hcz]
            refine (HOwn.out.below hbw).push (by decide) wz.heap.size (own_of_blk Hblk.out HCL.out hsw (by unfold maxLen; omega)) ?_ (Nat.le_refl _) (by rw [HPL.out]; exact hown3) hg3
            intro p hp
            obtain ⟨q, hq⟩ := List.getElem?_of_mem hp
            obtain ⟨y, hy⟩ : ∃ y, ((Sh.mixB X Y).take j)[q]? = some y := ⟨_, List.getElem?_eq_getElem (by rw [HOwn.out.lens]; exact (List.getElem?_eq_some_iff.1 hq).1)⟩
            exact ((HOwn.out.each q p y hq hy).2.lt p.1 rfl).2
          case measure => simp [intOf]; omega
    · have hjK : j = K := by omega
      subst hjK
      go_wp2
      go_ret
      rw [List.take_of_length_le (by simp only [Sh.mixB]; rw [List.length_zipWith, HXL.out, HYL.out, Nat.min_self]; exact Nat.le_refl _)] at hown
      exact ⟨_, ps, rfl, hpl, hown, hbl⟩
end Go.Proofs.Ythhbpofcemoflaa
namespace Go.Proofs.Ythhbpofcemoflaa
open Go.RowKit
set_option maxRecDepth 20000

theorem dat_conv {w : World} {base : Nat} {v : Value} {n : Nat} {ps : List (Nat × Nat × Nat)} {X : List (List Int)} (h : Sh.Dat w base 35 v n ps X) {j : Nat} {p : Nat × Nat × Nat} {x : List Int} (hp : ps[j]? = some p) (hx : X[j]? = some x) : (convert 35 9 (.slice (some ⟨p.1, p.2.1, none⟩) n p.2.2)).run Try.prog w = .ok (.string (strOfNums x)) w := run_convert_bytes_arg (P := Try.prog) w 35 5 Try.underlying35 Try.underlying5 p.1 p.2.1 n p.2.2 x (h.each j p x hp hx).1 (fun i hi => by
  have hl := (h.each j p x hp hx).1
  rw [List.getD_eq_getElem?_getD, List.getElem?_eq_getElem (by omega), Option.getD_some]
  exact (h.each j p x hp hx).2 i _ (List.getElem?_eq_getElem (by omega))) 9 Try.underlying9
set_option maxHeartbeats 2000000 in
theorem same_ok (K n : Nat) (va vb : Value) (ba bb : Nat) (pa pb : List (Nat × Nat × Nat)) (X : List (List Int)) (w : World) (hK : 1 ≤ K) (hK9 : K ≤ 10) (hda : Sh.Dat w ba 35 va n pa X) (hdb : Sh.Dat w bb 35 vb n pb X) (hpa : pa.length = K) (hpb : pb.length = K) :
    Calls Try.prog 17 #[va, vb] w fun e w' => e = .returned (.bool true) ∧ ∃ q, w' = w.drewN q := by
  have hra := hda.row
  rw [hpa] at hra
  obtain ⟨ga, capa, rfl, _, hga, hcapa, hcella⟩ := own_form hra hK
  have hrb := hdb.row
  rw [hpb] at hrb
  obtain ⟨gb, capb, rfl, _, hgb, hcapb, hcellb⟩ := own_form hrb hK
  have HA := hide (fun (wx : World) (hb : Below w.heap.size w wx) => hda.below hb)
  have HB := hide (fun (wx : World) (hb : Below w.heap.size w wx) => hdb.below hb)
  have HPA := hide hpa
  have HPB := hide hpb
  have HXL := hide (show X.length = K by rw [hda.lens, hpa])
  have HCA := hide hcella
  have HCB := hide hcellb
  clear hda hdb hpa hpb hra hrb hcella hcellb
  go_enter Try.func17, Try.ntmps17
  go_wp2
  go_loopw [5] (fun i wr => ∃ k : Nat, k ≤ K ∧ i = .int .i64 k ∧ ∃ q, wr = w.drewN q) (fun i _ => K - (intOf i).toNat)
  case atStart => exact ⟨0, Nat.zero_le _, rfl, 0, rfl⟩
  case round =>
    obtain ⟨k, hk, rfl, q, rfl⟩ := hrel
    by_cases hlk : k < K
    · obtain ⟨x, hx⟩ : ∃ x, X[k]? = some x := ⟨_, List.getElem?_eq_getElem (by rw [HXL.out]; exact hlk)⟩
      obtain ⟨p, hp⟩ : ∃ p, pa[k]? = some p := ⟨_, List.getElem?_eq_getElem (by rw [HPA.out]; exact hlk)⟩
      obtain ⟨r, hr⟩ : ∃ r, pb[k]? = some r := ⟨_, List.getElem?_eq_getElem (by rw [HPB.out]; exact hlk)⟩
      have z1 : w.cell? ⟨ga, k, none⟩ = some (.slice (some ⟨p.1, p.2.1, none⟩) n p.2.2) := HCA.out k _ (Sh.sv_get hp)
      have z2 : w.cell? ⟨gb, k, none⟩ = some (.slice (some ⟨r.1, r.2.1, none⟩) n r.2.2) := HCB.out k _ (Sh.sv_get hr)
      have c1 := fun m => dat_conv (HA.out (w.drewN m) (below_drewN w m)) hp hx
      have c2 := fun m => dat_conv (HB.out (w.drewN m) (below_drewN w m)) hr hx
      clear hx hp hr
      go_wp2
      go_quiet (fail)
      go_wp2
      go_roundw
      case rel => exact ⟨k + 1, by omega, by go_num, _, rfl⟩
      case measure => simp [intOf]; omega
    · have hkK : k = K := by omega
      subst hkK
      go_wp2
      go_ret
      exact ⟨rfl, q, rfl⟩
end Go.Proofs.Ythhbpofcemoflaa
