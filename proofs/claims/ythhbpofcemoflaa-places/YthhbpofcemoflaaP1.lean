import Derived.Test.YthhbpofcemoflaaGw
import Derived.Test.YthhbpofcemoflaaPure15
namespace Go.Proofs.Ythhbpofcemoflaa
open Go.RowKit
set_option maxRecDepth 20000
set_option maxRecDepth 20000 in
set_option maxHeartbeats 4000000 in
theorem local_any (c : Int) (s : ByteArray) (w : World) (hl : -9223372036854775808 ≤ c) (hs : s.size ≤ 300) : Calls Try.prog 10 #[.int .i64 c, .string s] w fun e w' => e = .returned (.bool true) ∧ Below w.heap.size w w' := by
  obtain ⟨i0, hi, hz0, hz1, hz2⟩ := info_parts Try.infoSl
  go_enter Try.func10, Try.ntmps10
  go_wp2_with fail
  refine (codes_any c _ hl).mono ?_
  rintro e w1 ⟨t, ht, rfl, hb1⟩
  have hOk0 := Sh.cds_ok t ht
  obtain ⟨kind, K, M, N, gd⟩ := t
  simp only at hOk0
  clear ht
  have HOk := hide hOk0
  clear hOk0
  go_wp2_with fail
  refine (best_ok kind K M N gd _ HOk.out).mono ?_
  rintro e w2 ⟨cb, rfl, hcb, hco, hb2⟩
  obtain ⟨hK, hM, h10, hR1, hR2, hKR, hMR, hPL⟩ := HOk.out.bounds
  have hsv := (hb2.block w1.heap.size (by simp)).trans (heap_alloc_new w1 _)
  have hsz2 := hb2.size
  simp only [World.size_alloc] at hsz2 hcb
  have s0 : w2.cell? ⟨w1.heap.size, 0, none⟩ = some (.int .i64 kind) := blk_cell hsv rfl
  have s1 : w2.cell? ⟨w1.heap.size, 1, none⟩ = some (.int .i64 K) := blk_cell hsv rfl
  have s2 : w2.cell? ⟨w1.heap.size, 2, none⟩ = some (.int .i64 M) := blk_cell hsv rfl
  have s3 : w2.cell? ⟨w1.heap.size, 3, none⟩ = some (.int .i64 N) := blk_cell hsv rfl
  have s4 : w2.cell? ⟨w1.heap.size, 4, none⟩ = some (.int .i64 gd) := blk_cell hsv rfl
  have hcbz := blk_lt hco
  have HD := hide (data_ok cb kind K M N gd s w2 HOk.out hs hcbz (blk_cell hco rfl) (blk_cell hco rfl) (blk_cell hco rfl) (blk_cell hco rfl) (blk_cell hco rfl))
  have HCS : Hid (Sh.CS w2 cb kind K M N gd 3 8 ((16 : Nat) : Int) 2) := Or.inl hco
  have hlow2 : Below w.heap.size w w2 := (hb1.trans (((Below.refl w1.heap.size w1).alloc (Nat.le_refl _) _).mono hb1.size)).trans (hb2.mono (by have := hb1.size; simp; omega))
  have hb1s := hb1.size
  clear hsv hco hb2
  go_wp2_with fail
  refine HD.out.mono ?_
  rintro e w3 ⟨v3, ps, X, rfl, hpl, hbX, hown3, hb3⟩
  have hs3 := hb3.size
  have HCS3 := hide (Sh.CS.below HCS.out hb3)
  have hsz17 : 1 + s.size % 17 ≤ 17 := by have := Nat.mod_lt s.size (show 0 < 17 by decide); omega
  generalize hsize : 1 + s.size % 17 = size at *
  have hsize1 : 1 ≤ size := by omega
  clear hsize
  have HnX := hide (own_ne_cb hown3 hcbz)
  have HdX := hide (own_dat hown3)
  have Hpl := hide hpl
  have HbX := hide hbX
  have HC := hide (coded_st cb kind K M N gd 3 8 16 2 size v3 _ ps X w3 HOk.out (by decide) (by decide) (by decide) (by decide) hsize1 (by omega) HCS3.out HdX.out Hpl.out HnX.out HbX.out)
  have t1 := keepc hb3 (by omega) 1 s1
  have t2 := keepc hb3 (by omega) 2 s2
  clear s0 s1 s2 s3 s4 hpl hbX hown3 HD
  go_wp2_with fail
  refine HC.out.mono ?_
  rintro e w4 ⟨v4, qs, rfl, hql, hd4, hn4, _, hcs4, hk4⟩
  have hs4 := hk4.grown.size
  have x1 := (grown_cell (c := w1.heap.size) (j := 1) hk4.grown (by omega) (by omega)).trans t1
  have x2 := (grown_cell (c := w1.heap.size) (j := 2) hk4.grown (by omega) (by omega)).trans t2
  obtain ⟨p0, g0, o0, z0, v0, cnt, hblk4⟩ := hcs4.blk
  have HRw := hide (crows_ok cb kind K M N gd w4 HOk.out (blk_cell hblk4 rfl) (blk_cell hblk4 rfl) (blk_cell hblk4 rfl) (blk_cell hblk4 rfl) (blk_cell hblk4 rfl))
  have HdX4 := hide (hk4.dat _ _ _ _ _ HdX.out HnX.out)
  have HdP4 := hide hd4
  have HnP := hide hn4
  have Hql := hide hql
  have HCS4 := hide hcs4
  have hlow4 : Below w.heap.size w w4 := (hlow2.trans (hb3.mono hlow2.size)).trans (hk4.low (by omega) (by omega))
  clear t1 t2 hql hd4 hn4 hcs4 hblk4
  go_wp2_with fail
  refine HRw.out.mono ?_
  rintro e w5 ⟨rfl, hb5⟩
  have hs5 := hb5.size
  have HdX5 := hide (HdX4.out.below hb5)
  have HdP5 := hide (HdP4.out.below hb5)
  have HCS5 := hide (Sh.CS.below HCS4.out hb5)
  have hlow5 : Below w.heap.size w w5 := hlow4.trans (hb5.mono (by omega))
  have k1 := keepc hb5 (by omega) 1 x1
  have k2 := keepc hb5 (by omega) 2 x2
  have hrX := HdX5.out.row
  rw [Hpl.out] at hrX
  obtain ⟨gX, capX, hvX, _, hgX, hcapX, hcellX⟩ := own_form hrX hK
  obtain ⟨p0, hp0⟩ : ∃ p, ps[0]? = some p := ⟨_, List.getElem?_eq_getElem (by rw [Hpl.out]; omega)⟩
  have k3 : w5.cell? ⟨gX, 0, none⟩ = some (.slice (some ⟨p0.1, p0.2.1, none⟩) (Sh.R kind N * size) p0.2.2) := hcellX 0 _ (Sh.sv_get hp0)
  subst hvX
  have hrP := HdP5.out.row
  rw [Hql.out] at hrP
  obtain ⟨gP, capP, hvP, hgP0, hgP, hcapP, hcellP⟩ := own_form hrP hM
  subst hvP
  clear x1 x2 hrX hrP hcellX hcellP hp0
  have HCone := hide (fun (wx : World) (v : Value) (base : Nat) (rs : List (Nat × Nat × Nat)) (Z : List (List Int)) (hc : Sh.CS wx cb kind K M N gd 3 8 ((16 : Nat) : Int) 2) (hd : Sh.Dat wx base 35 v (Sh.R kind N * 1) rs Z) (h1 : rs.length = K) (h2 : ∀ p ∈ rs, p.1 ≠ cb) (h3 : Sh.Bytes Z) => coded_st cb kind K M N gd 3 8 16 2 1 v base rs Z wx HOk.out (by decide) (by decide) (by decide) (by decide) (by decide) (by decide) hc hd h1 h2 h3)
  have HPl := hide (fun (i q k : Nat) (hi : k < size) => Sh.pb_place (kind := kind) (K := K) (M := M) (N := N) (gd := gd) (size := size) (X := X) (by rw [HdX.out.lens, Hpl.out]) k hi (i * Sh.R kind N + q))
  have HPe := hide (fun (i : Nat) (x : List Int) (h : (Sh.parB kind K M N gd size X)[i]? = some x) => Sh.parB_each h)
  have HPL := hide (Sh.parB_len kind K M N gd size X)
  have HOe := hide (fun (k i : Nat) (x : List Int) (h : (Sh.parB kind K M N gd 1 (Sh.onesAt (Sh.R kind N) size k X))[i]? = some x) => Sh.parB_each h)
  have HOL := hide (fun k => Sh.parB_len kind K M N gd 1 (Sh.onesAt (Sh.R kind N) size k X))
  have hdiv : (Sh.R kind N : Int) * (size : Int) / (Sh.R kind N : Int) = (size : Int) := Int.mul_ediv_cancel_left _ (by omega)
  have hRs : Sh.R kind N * size ≤ 102 := by
    have : Sh.R kind N * size ≤ 6 * 17 := Nat.mul_le_mul hR2 hsz17
    omega
  generalize hR : Sh.R kind N = R at *
  have dR : decide ((R : Int) < 1) = false := decide_eq_false (by omega)
  have eR : ((R : Int) == 0) = false := by simp; omega
  have hmk := run_make_row' (P := Try.prog) 35 5 (.int .u8 0) 1 Try.underlying35 Try.infoU8 rfl .i64 .i64 R (by omega) (by omega)
  simp only [Nat.mul_one] at HCone
  generalize hPX : Sh.parB kind K M N gd size X = PX at *
  go_wp2_with fail
  rw [hdiv]
  clear hdiv
  go_loopw [12, 13, 14, 15, 16, 17, 18, 19, 20, 21] (fun ci _ _ _ _ _ _ _ _ _ wr => ∃ k : Nat, k ≤ size ∧ ci = .int .i64 k ∧ Sh.CS wr cb kind K M N gd 3 8 ((16 : Nat) : Int) 2 ∧ Sh.Dat wr w2.heap.size 35 (.slice (some ⟨gX, 0, none⟩) K capX) (R * size) ps X ∧ Sh.Dat wr w3.heap.size 35 (.slice (some ⟨gP, 0, none⟩) M capP) (R * size) qs PX ∧ wr.cell? ⟨w1.heap.size, 1, none⟩ = some (.int .i64 K) ∧ wr.cell? ⟨w1.heap.size, 2, none⟩ = some (.int .i64 M) ∧ Below w.heap.size w wr ∧ w5.heap.size ≤ wr.heap.size) (fun ci _ _ _ _ _ _ _ _ _ _ => size - (intOf ci).toNat)
  case atStart => exact ⟨0, Nat.zero_le _, rfl, HCS5.out, HdX5.out, HdP5.out, k1, k2, hlow5, Nat.le_refl _⟩
  case round =>
    obtain ⟨k, hk, rfl, hcs, hdX, hdP, y1, y2, hlow, hsr⟩ := hrel
    clear k1 k2 k3
    by_cases hlk : k < size
    · have HdX := hide hdX
      have HdP := hide hdP
      have HCS := hide hcs
      clear hcs hdX hdP
      have hOL : (Sh.onesAt R size k X).length = K := by simp only [Sh.onesAt]; rw [List.length_map, HdX.out.lens, Hpl.out]
      have HOL2 := hide hOL
      clear hOL
      rename World => wz
      go_wp2
      go_loopw [13, 14, 15, 16, 17] (fun v ji _ _ _ wr => ∃ (j : Nat) (rs : List (Nat × Nat × Nat)), j ≤ K ∧ ji = .int .i64 j ∧ rs.length = j ∧ Sh.Own wr wz.heap.size 35 5 v R rs ((Sh.onesAt R size k X).take j) ∧ Below wz.heap.size wz wr) (fun _ ji _ _ _ _ => K - (intOf ji).toNat)
      case atStart => exact ⟨0, [], Nat.zero_le _, rfl, rfl, ⟨World.ownsRow_nil _ _ _ _, rfl, by intro j p x hp; simp at hp, by simp⟩, Below.refl _ _⟩
      case round =>
        obtain ⟨j, rs, hj, rfl, hrl, hown, hbl⟩ := hrel
        have hsw := hbl.size
        have z1 := keepc hbl (by omega) 1 y1
        have z2 := keepc hbl (by omega) 2 y2
        by_cases hlt : j < K
        · obtain ⟨x, hx⟩ : ∃ x, X[j]? = some x := ⟨_, List.getElem?_eq_getElem (by rw [HdX.out.lens, Hpl.out]; exact hlt)⟩
          obtain ⟨p, hp⟩ : ∃ p, ps[j]? = some p := ⟨_, List.getElem?_eq_getElem (by rw [Hpl.out]; exact hlt)⟩
          have hda := HdX.out.below hbl
          have hra := hda.row
          rw [Hpl.out] at hra
          obtain ⟨hxl, hxc⟩ := hda.each j p x hp hx
          have z3 : wr.cell? ⟨gX, j, none⟩ = some (.slice (some ⟨p.1, p.2.1, none⟩) (R * size) p.2.2) := own_cells hra j _ (Sh.sv_get hp)
          have hgaz : gX < wr.heap.size := by omega
          have hpz : p.1 < wr.heap.size := hda.lt p (List.mem_of_getElem? hp)
          have hon : (Sh.onesAt R size k X)[j]? = some ((List.range R).map fun q => x.getD (q * size + k) 0) := by
            simp only [Sh.onesAt]
            rw [List.getElem?_map, hx]
            rfl
          have HON := hide hon
          have HXC := hide hxc
          have HOwn := hide hown
          have HRL := hide hrl
          have HXl := hide hxl
          clear hown hrl hon hxc hx hp hda hra hxl
          rename World => wy
          go_wp2
          go_loopw [16] (fun qi wr => ∃ (q : Nat) (c : List Int), q ≤ R ∧ qi = .int .i64 q ∧ c.length = R ∧ c.take q = ((List.range R).map fun q => x.getD (q * size + k) 0).take q ∧ wr.heap[wy.heap.size]? = some (.cells (c.map (Value.int .u8)).toArray 5 (0, 0)) ∧ Below wy.heap.size wy wr) (fun i _ => R - (intOf i).toNat)
          case atStart => exact ⟨0, List.replicate R 0, Nat.zero_le _, rfl, by simp, by simp, by rw [← made_zero]; exact heap_alloc_new wy _, (Below.refl _ _).alloc (Nat.le_refl _) _⟩
          case round =>
            obtain ⟨q, c, hq, rfl, hcl, hct, hblk, hbw⟩ := hrel
            have HCL := hide hcl
            have HCT := hide hct
            have Hblk := hide hblk
            have hfz := blk_frozen hblk q
            have hbz := blk_lt hblk
            clear hcl hct
            by_cases hlq : q < R
            · have hqs : q * size + k < R * size := by
                have : (q + 1) * size ≤ R * size := Nat.mul_le_mul_right _ hlq
                rw [Nat.add_mul, Nat.one_mul] at this
                omega
              have hix : q * size + k < x.length := by rw [HXl.out]; exact hqs
              have hic : q < c.length := by rw [HCL.out]; exact hlq
              have z4 : wr.cell? ⟨gX, j, none⟩ = some (.slice (some ⟨p.1, p.2.1, none⟩) (R * size) p.2.2) := keepc hbw hgaz j z3
              have z5 : wr.cell? ⟨p.1, p.2.1 + (q * size + k), none⟩ = some (.int .u8 x[q * size + k]) := keepc hbw hpz _ (HXC.out (q * size + k) _ (List.getElem?_eq_getElem hix))
              have hci : wr.cell? ⟨wy.heap.size, q, none⟩ = some (.int .u8 c[q]) := blk_cell hblk (by simp [hic])
              have hqI : (q : Int) * (size : Int) = ((q * size : Nat) : Int) := (Int.natCast_mul _ _).symm
              have hqb : q * size ≤ 102 := by omega
              clear hblk
              have HZ := hide (show ((List.range R).map fun q => x.getD (q * size + k) 0)[q]? = some x[q * size + k] by
                rw [List.getElem?_map, List.getElem?_range hlq]
                simp [List.getElem?_eq_getElem hix])
              generalize hx0 : x[q * size + k] = x0 at *
              generalize hc0 : c[q] = c0 at *
              clear hx0 hc0
              generalize hqz : q * size = qz at *
              go_wp2
              go_roundw
              case rel => exact ⟨q + 1, c.set q x0, by omega, by go_num, by rw [List.length_set]; exact HCL.out, Sh.take_grow hic HCT.out HZ.out, (blk_set (j := q) (u := .int .u8 x0) Hblk.out).trans (by simp [List.map_set]), hbw.setCell (by simp) _⟩
              case measure => simp [intOf]; omega
            · have hqR : q = R := by omega
              have HIN := hide hqR
              clear hqR
              have hrow := (HOwn.out.below hbw).row
              rw [HRL.out] at hrow
              have hzw := hbw.size
              go_wp2_with (at_builtin; refine append1x _ rfl (.tmp 84) (.tmp 86) 31 rfl wz.heap.size 35 i0 (.slice none 0 0) 1 24 Try.underlying31 hi hz0 hz1 hz2 rfl (by decide) (by decide) _ _ _ _ rfl hrow rfl rfl (by simp; rfl) (by omega) (by omega) ?_; intro v' w9 hown9 hb9 hg9 hf9)
              have hcz : c = (List.range R).map fun q => x.getD (q * size + k) 0 := by
                have := HCT.out
                rw [HIN.out, List.take_of_length_le (by rw [HCL.out]; exact Nat.le_refl _), List.take_of_length_le (by simp)] at this
                exact this
              go_roundw
              case rel =>
                refine ⟨j + 1, rs ++ [(wy.heap.size, 0, R)], by omega, by go_num, by simp [HRL.out], ?_, (hbl.trans (hbw.mono hsw)).trans hb9⟩
                rw [List.take_add_one, HON.out, ← hcz]
                refine (HOwn.out.below hbw).push (by decide) wy.heap.size (own_of_blk Hblk.out HCL.out hsw (by unfold maxLen; omega)) ?_ (Nat.le_refl _) (by rw [HRL.out]; exact hown9) hg9
                intro p hp
                obtain ⟨q, hq⟩ := List.getElem?_of_mem hp
                obtain ⟨y, hy⟩ : ∃ y, ((Sh.onesAt R size k X).take j)[q]? = some y := ⟨_, List.getElem?_eq_getElem (by rw [HOwn.out.lens]; exact (List.getElem?_eq_some_iff.1 hq).1)⟩
                exact ((HOwn.out.each q p y hq hy).2.lt p.1 rfl).2
              case measure => simp [intOf]; omega
        · have hjK : j = K := by omega
          subst hjK
          rw [List.take_of_length_le (by rw [HOL2.out]; exact Nat.le_refl _)] at hown
          have HC1 := hide (HCone.out wr _ _ rs _ (Sh.CS.below HCS.out hbl) (own_dat hown) hrl (own_ne_cb hown (show cb < wz.heap.size by omega)) (Sh.onesAt_bytes HbX.out))
          clear hown hrl
          go_wp2_with fail
          refine HC1.out.mono ?_
          rintro e w6 ⟨v6, ts, rfl, htl, hd6, hn6, _, hcs6, hk6⟩
          have hs6 := hk6.grown.size
          have h61 := (grown_cell (c := w1.heap.size) (j := 1) hk6.grown (by omega) (by omega)).trans z1
          have h62 := (grown_cell (c := w1.heap.size) (j := 2) hk6.grown (by omega) (by omega)).trans z2
          have HP6 := hide (hk6.dat _ _ _ _ _ (HdP.out.below hbl) HnP.out)
          have HX6 := hide (hk6.dat _ _ _ _ _ (HdX.out.below hbl) HnX.out)
          have hr6 := hd6.row
          rw [htl] at hr6
          obtain ⟨g6, cap6, hv6, _, hg6, hcap6, hcell6⟩ := own_form hr6 hM
          subst hv6
          have hrp := HP6.out.row
          rw [Hql.out] at hrp
          have HcP := hide (own_cells hrp)
          have HcO := hide hcell6
          have HO6 := hide hd6
          have Htl := hide htl
          have HCS6 := hide hcs6
          clear hr6 hcell6 hrp hd6 htl hn6 hcs6 z1 z2 y1 y2
          go_wp2_with fail
          go_loopw [20, 21] (fun ii _ wr => ∃ i : Nat, i ≤ M ∧ ii = .int .i64 i ∧ ∃ q, wr = w6.drewN q) (fun ii _ _ => M - (intOf ii).toNat)
          case atStart => exact ⟨0, Nat.zero_le _, rfl, 0, rfl⟩
          case round =>
            obtain ⟨i, hiM, rfl, dq, rfl⟩ := hrel
            by_cases hli : i < M
            · obtain ⟨t, ht⟩ : ∃ t, ts[i]? = some t := ⟨_, List.getElem?_eq_getElem (by rw [Htl.out]; exact hli)⟩
              obtain ⟨r, hr⟩ : ∃ r, qs[i]? = some r := ⟨_, List.getElem?_eq_getElem (by rw [Hql.out]; exact hli)⟩
              obtain ⟨y, hy⟩ : ∃ y, (Sh.parB kind j M N gd 1 (Sh.onesAt R size k X))[i]? = some y := ⟨_, List.getElem?_eq_getElem (by rw [HOL.out]; exact hli)⟩
              obtain ⟨z, hz⟩ : ∃ z, PX[i]? = some z := ⟨_, List.getElem?_eq_getElem (by rw [HPL.out]; exact hli)⟩
              have HE1 := hide (HOe.out k i y hy).2
              have HE2 := hide (HPe.out i z hz).2
              have HcY := hide (HO6.out.each i t y ht hy).2
              have HcZ := hide (HP6.out.each i r z hr hz).2
              have a1 : w6.cell? ⟨g6, i, none⟩ = some (.slice (some ⟨t.1, t.2.1, none⟩) R t.2.2) := HcO.out i _ (Sh.sv_get ht)
              have a3 : w6.cell? ⟨gP, i, none⟩ = some (.slice (some ⟨r.1, r.2.1, none⟩) (R * size) r.2.2) := HcP.out i _ (Sh.sv_get hr)
              clear ht hr hy hz
              go_wp2
              go_loopw [21] (fun qi wr => ∃ q : Nat, q ≤ R ∧ qi = .int .i64 q ∧ ∃ m, wr = w6.drewN m) (fun qi _ => R - (intOf qi).toNat)
              case atStart => exact ⟨0, Nat.zero_le _, rfl, dq, rfl⟩
              case round =>
                obtain ⟨q, hq, rfl, m, rfl⟩ := hrel
                by_cases hlq : q < R
                · have hqs : q * size + k < R * size := by
                    have : (q + 1) * size ≤ R * size := Nat.mul_le_mul_right _ hlq
                    rw [Nat.add_mul, Nat.one_mul] at this
                    omega
                  have hqI : (q : Int) * (size : Int) = ((q * size : Nat) : Int) := (Int.natCast_mul _ _).symm
                  have hqb : q * size ≤ 102 := by omega
                  have e1 := HE1.out q 0 hlq (by decide)
                  rw [Nat.mul_one, Nat.add_zero, HPl.out i q k hlk] at e1
                  have a2 := HcY.out _ _ e1
                  have a4 := HcZ.out _ _ (HE2.out q k hlq hlk)
                  clear e1
                  generalize hb0 : Sh.pb kind j M N gd size X (i * R + q) k = b0 at *
                  clear hb0
                  have hq1 : (b0 != b0) = false := by simp
                  generalize hqz : q * size = qz at *
                  clear hqz
                  go_wp2
                  go_quiet (fail)
                  go_wp2
                  go_roundw
                  case rel => exact ⟨q + 1, by omega, by go_num, _, rfl⟩
                  case measure => simp [intOf]; omega
                · have hqR : q = R := by omega
                  subst hqR
                  go_wp2
                  go_roundw
                  case rel => exact ⟨i + 1, by omega, by go_num, _, rfl⟩
                  case measure => simp [intOf]; omega
            · have hiM2 : i = M := by omega
              subst hiM2
              go_wp2
              have hbd := below_drewN w6 dq
              have hlow6 : Below w.heap.size w w6 := (hlow.trans (hbl.mono (by omega))).trans (hk6.low (by omega) (by omega))
              go_roundw
              case rel => exact ⟨k + 1, by omega, by go_num, Sh.CS.below HCS6.out hbd, HX6.out.below hbd, HP6.out.below hbd, keepc hbd (by omega) 1 h61, keepc hbd (by omega) 2 h62, hlow6.trans (hbd.mono (by omega)), by have := hbd.size; omega⟩
              case measure => simp [intOf]; omega
    · have hkz : k = size := by omega
      subst hkz
      go_wp2
      go_ret
      exact ⟨rfl, hlow⟩
theorem placesT_any (c : Int) (s : ByteArray) (w : World) (hc : -9223372036854775808 ≤ c ∧ c ≤ 9223372036854775807) (hs : s.size ≤ maxLen) : Calls Try.prog 5 #[.int .i64 c, .string s] w fun e w' => e = .returned (.bool true) ∧ Below w.heap.size w w' := by
  go_enter Try.func5, Try.ntmps5
  go_wp2_with fail
  refine (some_any s _ hs).mono ?_
  rintro e w1 ⟨t, rfl, ht, rfl⟩
  go_wp2_with fail
  refine (local_any c t _ hc.1 ht).mono ?_
  rintro e w2 ⟨rfl, hb⟩
  go_wp2
  go_ret
  exact ⟨rfl, hb⟩
end Go.Proofs.Ythhbpofcemoflaa
