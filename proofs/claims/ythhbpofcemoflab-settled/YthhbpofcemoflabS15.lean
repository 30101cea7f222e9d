import Derived.Test.YthhbpofcemoflabS14
namespace Go.Proofs.Ythhbpofcemoflab
open Go.RowKit
set_option maxRecDepth 20000
set_option maxRecDepth 20000 in
set_option maxHeartbeats 4000000 in
theorem same_any (c b : Int) (s : ByteArray) (w : World) (hl : -9223372036854775808 ≤ c) (hlb : -9223372036854775808 ≤ b) (hs : s.size ≤ 300) : Calls Try.prog 19 #[.int .i64 c, .int .i64 b, .string s] w fun e w' => e = .returned (.bool true) ∧ Below w.heap.size w w' := by
  go_enter Try.func19, Try.ntmps19
  go_wp2_with fail
  refine (codes_any c _ hl).mono ?_
  rintro e w1 ⟨t, ht, rfl, hb1⟩
  have hOk0 := Sh.cds_ok t ht
  have hPb0 := Sh.cds_pb t ht
  have hDf0 := Sh.cds_dfs t ht
  obtain ⟨kind, K, M, N, gd⟩ := t
  simp only at hOk0 hPb0 hDf0
  clear ht
  have HOk := hide hOk0
  have HPb := hide hPb0
  have HDf := hide hDf0
  clear hOk0 hPb0 hDf0
  go_wp2_with fail
  refine (best_ok kind K M N gd _ HOk.out).mono ?_
  rintro e w2 ⟨cb, rfl, hcb, hco, hb2⟩
  obtain ⟨hK, hM, h10, hR1, hR2, hKR, hMR, hPL⟩ := HOk.out.bounds
  have hsv := (hb2.block w1.heap.size (by simp)).trans (heap_alloc_new w1 _)
  have hsz2 := hb2.size
  simp only [World.size_alloc] at hsz2 hcb
  have s0 : w2.cell? ⟨w1.heap.size, 0, none⟩ = some (.int .i64 kind) := blk_cell hsv rfl
  have s1 : w2.cell? ⟨w1.heap.size, 1, none⟩ = some (.int .i64 K) := blk_cell hsv rfl
  have s2 : w2.cell? ⟨w1.heap.size, 2, none⟩ = some (.int .i64 M) := blk_cell hsv rfl
  have s3 : w2.cell? ⟨w1.heap.size, 3, none⟩ = some (.int .i64 N) := blk_cell hsv rfl
  have s4 : w2.cell? ⟨w1.heap.size, 4, none⟩ = some (.int .i64 gd) := blk_cell hsv rfl
  have hcbz := blk_lt hco
  have HD := hide (data_ok cb kind K M N gd s w2 HOk.out hs hcbz (blk_cell hco rfl) (blk_cell hco rfl) (blk_cell hco rfl) (blk_cell hco rfl) (blk_cell hco rfl))
  have HCS : Hid (Sh.CS w2 cb kind K M N gd 3 8 ((16 : Nat) : Int) 2) := Or.inl hco
  have hlow2 : Below w.heap.size w w2 := (hb1.trans (((Below.refl w1.heap.size w1).alloc (Nat.le_refl _) _).mono hb1.size)).trans (hb2.mono (by have := hb1.size; simp; omega))
  have hb1s := hb1.size
  clear hsv hco hb2
  go_wp2_with fail
  refine HD.out.mono ?_
  rintro e w3 ⟨v3, ps, X, rfl, hpl, hbX, hown3, hb3⟩
  have hs3 := hb3.size
  have HCS3 := hide (Sh.CS.below HCS.out hb3)
  have hsz17 : 1 + s.size % 17 ≤ 17 := by have := Nat.mod_lt s.size (show 0 < 17 by decide); omega
  generalize hsize : 1 + s.size % 17 = size at *
  have hsize1 : 1 ≤ size := by omega
  clear hsize
  have HW := hide (word_ok cb kind K M N gd 3 8 16 2 size v3 _ ps X w3 HOk.out (by decide) (by decide) (by decide) (by decide) hsize1 (by omega) HCS3.out hown3 hpl hcbz hbX)
  have t0 := keepc hb3 (by omega) 0 s0
  have t1 := keepc hb3 (by omega) 1 s1
  have t2 := keepc hb3 (by omega) 2 s2
  have t3 := keepc hb3 (by omega) 3 s3
  have t4 := keepc hb3 (by omega) 4 s4
  have HO3 := hide hown3
  obtain ⟨u0, u1, u2, u3, u4, u5, hblk3⟩ := HCS3.out.blk
  have Hlx := hide (own_dat hown3).len_each
  have HXl := hide (show X.length = K by rw [hown3.lens, hpl])
  have Hpl := hide hpl
  have HbX := hide hbX
  clear s0 s1 s2 s3 s4 hpl hbX hown3 HD
  go_wp2_with fail
  refine HW.out.mono ?_
  rintro e w4 ⟨v4, qs, rfl, hql, hown4, hcs4, hg4⟩
  have hs4 := hg4.size
  have hlow4 : Below w.heap.size w w4 := (hlow2.trans (hb3.mono hlow2.size)).trans ⟨hg4.os, hg4.tape, hg4.output, hg4.size, fun i hi => hg4.block i (by omega) (by intro e; injection e; omega)⟩
  have hall : (ps ++ qs).length = K + M := by rw [List.length_append, Hpl.out, hql]
  have x0 := (grown_cell (c := w1.heap.size) (j := 0) hg4 (by omega) (by omega)).trans t0
  have x3 := (grown_cell (c := w1.heap.size) (j := 3) hg4 (by omega) (by omega)).trans t3
  have x4 := (grown_cell (c := w1.heap.size) (j := 4) hg4 (by omega) (by omega)).trans t4
  have HD4 := hide ((own_dat HO3.out).grown hg4 hblk3 (by decide) (own_ne_cb HO3.out hcbz))
  have x1 := (grown_cell (c := w1.heap.size) (j := 1) hg4 (by omega) (by omega)).trans t1
  have x2 := (grown_cell (c := w1.heap.size) (j := 2) hg4 (by omega) (by omega)).trans t2
  have HZl := hide (show (X ++ Sh.parB kind K M N gd size X).length = K + M by rw [List.length_append, HXl.out, Sh.parB_len])
  have Hown4 := hide hown4
  have HCS4 := hide hcs4
  have Hall := hide hall
  have hr4 := hown4.row
  rw [hall] at hr4
  obtain ⟨g4, cap4, hv4, hg4b, hg4z, hcap4, hcell4⟩ := own_form hr4 (by omega)
  subst hv4
  have HC4 := hide hcell4
  have HLo := hide (fun (wx : World) => (by
    have := losses_ok b (K + M) M wx hlb (by omega) (by omega)
    rw [Int.natCast_add] at this
    exact this))
  have hn1 : 1 ≤ Sh.R kind N * size := Nat.mul_pos hR1 hsize1
  have hn2 : Sh.R kind N * size ≤ 102 := by
    have : Sh.R kind N * size ≤ 6 * 17 := Nat.mul_le_mul hR2 hsz17
    omega
  clear hown4 hcs4 hall hr4 hcell4 t0 t1 t2 t3 t4
  go_wp2_with fail
  refine (HLo.out _).mono ?_
  rintro e w5 ⟨v5, l, rfl, hl5, hnil5, hpw, hlt, hlM, hb5⟩
  have hs5 := hb5.size
  obtain ⟨q, hqE, hq20, hqb, hqM, hq1⟩ := Sh.pat_of (n := K + M) (M := M) (by omega) hpw hlt hlM
  obtain ⟨la, lc, hv5⟩ := own_slice hl5
  subst hv5
  have y0 := keepc hb5 (by omega) 0 x0
  have y1 := keepc hb5 (by omega) 1 x1
  have y2 := keepc hb5 (by omega) 2 x2
  have y3 := keepc hb5 (by omega) 3 x3
  have y4 := keepc hb5 (by omega) 4 x4
  have HPat := hide (fun (cb : Nat) (wx : World) (hx : Below w5.heap.size w5 wx) (hcbx : cb < wx.heap.size) (c0 : wx.cell? ⟨cb, 0, none⟩ = some (.int .i64 kind)) (c1 : wx.cell? ⟨cb, 1, none⟩ = some (.int .i64 K)) (c2 : wx.cell? ⟨cb, 2, none⟩ = some (.int .i64 M)) (c3 : wx.cell? ⟨cb, 3, none⟩ = some (.int .i64 N)) (c4 : wx.cell? ⟨cb, 4, none⟩ = some (.int .i64 gd)) => patternOf_any cb kind K M N gd _ _ l q wx HOk.out hcbx c0 c1 c2 c3 c4 (own_below hl5 hx) hnil5 hlt hlM hqE)
  have HL5 := hide hl5
  have Hlt := hide hlt
  have Hqb := hide hqb
  have HO5 := hide (Hown4.out.below hb5)
  have HD5 := hide (HD4.out.below hb5)
  have HDlt := hide (fun p hp => HD4.out.lt p hp)
  clear hl5 hnil5 hpw hlt hqE hqb x0 x1 x2 x3 x4
  go_wp2_with fail
  go_loopw [13, 14, 15, 16, 17, 18, 19, 20] (fun i _ _ _ _ _ _ _ wr => ∃ k : Nat, k ≤ 8 ∧ i = .int .i64 k ∧ Below w5.heap.size w5 wr) (fun i _ _ _ _ _ _ _ _ => 8 - (intOf i).toNat)
  case atStart => exact ⟨0, Nat.zero_le _, rfl, Below.refl _ _⟩
  case round =>
    obtain ⟨k, hk, rfl, hbw⟩ := hrel
    have hsw := hbw.size
    by_cases hk8 : k < 8
    · have z0 := keepc hbw (by omega) 0 y0
      have z1 := keepc hbw (by omega) 1 y1
      have z2 := keepc hbw (by omega) 2 y2
      have z3 := keepc hbw (by omega) 3 y3
      have z4 := keepc hbw (by omega) 4 y4
      obtain ⟨sq, hsq⟩ : ∃ sq : Int, (k : Int) * (k : Int) = sq := ⟨_, rfl⟩
      have hsq1 : 0 ≤ sq ∧ sq ≤ 49 := by
        rw [← hsq, ← Int.natCast_mul]
        have : k * k ≤ 7 * 7 := Nat.mul_le_mul (by omega) (by omega)
        omega
      have HNew := hide (new_ok kind K M N gd ((k : Int) % 4) (sq % 17) (1 + 9 * (k : Int)) ((k : Int) % 5) wr HOk.out (by omega) (by omega) (by omega) (by omega) (by omega) (by omega) (by omega) (by omega))
      rename World => wz
      go_wp2_with fail
      refine HNew.out.mono ?_
      rintro e w6 ⟨cb2, rfl, hcb2, hco2, hb6⟩
      have hs6 := hb6.size
      have eb : (1 + 9 * (k : Int)) = ((1 + 9 * k : Nat) : Int) := by omega
      rw [eb] at hco2
      have hB6 : Below w5.heap.size w5 w6 := hbw.trans (hb6.mono hsw)
      have hcb2z := blk_lt hco2
      have HW := hide (word_dat cb2 kind K M N gd ((k : Int) % 4) (sq % 17) (1 + 9 * k) ((k : Int) % 5) size v3 _ ps X w6 HOk.out (by omega) (by omega) (by omega) (by omega) hsize1 (by omega) (Or.inl hco2) (HD5.out.below hB6) Hpl.out (fun p hp => by have := HDlt.out p hp; omega) HbX.out)
      have u2 := keepc hb6 (by omega) 2 z2
      clear hco2 z0 z1 z2 z3 z4 eb
      go_wp2_with fail
      refine HW.out.mono ?_
      rintro e w7 ⟨v7, qs7, rfl, hql7, hd7, hlt7, hcs7, hg7⟩
      have hs7 := hg7.size
      have hall7 : (ps ++ qs7).length = K + M := by rw [List.length_append, Hpl.out, hql7]
      have hr7 := hd7.row
      rw [hall7] at hr7
      obtain ⟨g7, cap7, hv7, hg7b, hg7z, hcap7, hcell7⟩ := own_form hr7 (by omega)
      subst hv7
      have HR7 := hide hr7
      have Hd7 := hide hd7
      have HCS7 := hide hcs7
      have Hall7 := hide hall7
      have Hlt7 := hide (fun (p : Nat × Nat × Nat) (hp : p ∈ ps ++ qs7) => (hlt7 p hp).2 g7 rfl)
      have Hne7 := hide (fun (p : Nat × Nat × Nat) (hp : p ∈ ps ++ qs7) => (hlt7 p hp).1)
      have hB7 : Below w5.heap.size w5 w7 := hB6.trans ⟨hg7.os, hg7.tape, hg7.output, hg7.size, fun i hi => hg7.block i (by omega) (by intro e; injection e; omega)⟩
      clear hr7 hd7 hcs7 hall7 hlt7 hcell7 u2
      go_wp2_with fail
      go_loopw [18] (fun i wr => ∃ (t : Nat) (vs : List Value), t ≤ l.length ∧ i = .int .i64 t ∧ wr.ownsRow w6.heap.size 33 1 (.slice (some ⟨g7, 0, none⟩) (K + M) cap7) (K + M) vs ∧ (∀ u ∈ vs, ∃ a m c, u = Value.slice a m c) ∧ (∀ j, j ∉ l.take t → vs[j]? = (Sh.sv (Sh.R kind N * size) (ps ++ qs7))[j]?) ∧ Sh.CS wr cb2 kind K M N gd ((k : Int) % 4) (sq % 17) ((1 + 9 * k : Nat) : Int) ((k : Int) % 5) ∧ Below g7 w7 wr) (fun i _ => l.length - (intOf i).toNat)
      case atStart =>
        refine ⟨0, _, Nat.zero_le _, rfl, HR7.out, ?_, fun _ _ => rfl, HCS7.out, Below.refl _ _⟩
        intro u hu
        simp only [Sh.sv, List.mem_map] at hu
        obtain ⟨p, _, rfl⟩ := hu
        exact ⟨_, _, _, rfl⟩
      case round =>
        obtain ⟨t, vs, ht, rfl, hov, hsl, hkeep, hcs, hbl⟩ := hrel
        have hsl8 := hbl.size
        have hvl : vs.length = K + M := by have := hov.1; omega
        by_cases htl : t < l.length
        · obtain ⟨gl, cl, hvl5, _, hglz, _, hcl⟩ := own_form HL5.out (by omega)
          injection hvl5 with hla _ hlc
          subst hla
          subst hlc
          obtain ⟨a, ha⟩ : ∃ a, l[t]? = some a := ⟨_, List.getElem?_eq_getElem htl⟩
          have hak0 := keepc hB7 hglz t (hcl t _ (show (Sh.iv64 l)[t]? = some (.int .i64 (a : Int)) by unfold Sh.iv64; rw [List.getElem?_map, ha]; rfl))
          have hak := (hbl.cell (p := ⟨gl, t, none⟩) (by show gl < g7; omega)).trans hak0
          have haK := Hlt.out a (List.mem_of_getElem? ha)
          obtain ⟨u, hu⟩ : ∃ u, vs[a]? = some u := ⟨_, List.getElem?_eq_getElem (by omega)⟩
          have hcu := own_cells hov a u hu
          have hfz := own_frozen hov a
          have hg7r := (hov.lt g7 rfl).2
          have HOv := hide hov
          have HSl := hide hsl
          have HKp := hide hkeep
          have HA := hide ha
          have HCs := hide hcs
          clear hcl hu hov hsl hkeep ha hak0 hcs
          go_wp2
          refine ⟨⟨t + 1, vs.set a (.slice none 0 0), by omega, by go_num, own_setc HOv.out, ?_, ?_, HCs.out.setRow HOv.out (by omega) _, hbl.setCell (by simp) _⟩, by simp only [intOf]; omega⟩
          · intro u hu
            rcases List.mem_or_eq_of_mem_set hu with hu | rfl
            · exact HSl.out u hu
            · exact ⟨_, _, _, rfl⟩
          · intro j hj
            rw [List.take_add_one, HA.out, Option.toList_some, List.mem_append, List.mem_singleton] at hj
            rw [List.getElem?_set_ne (fun e => hj (Or.inr e.symm))]
            exact HKp.out j (fun h => hj (Or.inl h))
        · have hkk : t = l.length := by omega
          rw [hkk, List.take_length] at hkeep
          rename World => wy
          have hB8 : Below w5.heap.size w5 wy := hB7.trans (hbl.mono (by omega))
          obtain ⟨p0, g0, o0, zz, v0, cnt, hblk⟩ := hcs.blk
          have hcbz8 := blk_lt hblk
          have hpat := HPat.out cb2 wy hB8 hcbz8 (blk_cell hblk rfl) (blk_cell hblk rfl) (blk_cell hblk rfl) (blk_cell hblk rfl) (blk_cell hblk rfl)
          have hbrk : Sh.Brk wy w6.heap.size (.slice (some ⟨g7, 0, none⟩) (K + M) cap7) (Sh.R kind N * size) q vs (ps ++ qs7) (X ++ Sh.parB kind K M N gd size X) := by
            refine ⟨by rw [hvl]; exact hov, by rw [Hall7.out, hvl], by rw [HZl.out, hvl], hsl, ?_⟩
            intro j p x hj hp hx
            have hjl : j ∉ l := fun h => by rw [(Hqb.out j).2 h] at hj; cases hj
            exact ⟨by rw [hkeep j hjl]; exact Sh.sv_get hp, (Sh.One.of Hd7.out hp hx).low hbl (Hlt7.out p (List.mem_of_getElem? hp))⟩
          have HRec := hide (reconstruct_ok cb2 kind K M N gd ((k : Int) % 4) (sq % 17) (1 + 9 * k) ((k : Int) % 5) size q _ _ _ vs (ps ++ qs7) X wy HOk.out HPb.out HDf.out hq20 hqM hq1 (by omega) (by omega) (by omega) hsize1 (by omega) hcs HXl.out HbX.out Hlx.out hbrk hvl (fun j p _ hp => Hne7.out p (List.mem_of_getElem? hp)) hpat)
          have HDw := hide (fun (wx : World) (hg : wy.grownBy wx (some cb2)) => (own_dat (HO5.out.below hB8)).grown hg hblk (by decide) (fun p hp => by have := (HO5.out.ge p hp).2; omega))
          clear hov hsl hkeep hcs hblk hpat hbrk
          go_wp2_with fail
          refine HRec.out.mono ?_
          rintro e w8 ⟨v8, rs, rfl, hrl, hown8, hg8⟩
          have hs8 := hg8.size
          have HSm := hide (same_ok (K + M) (Sh.R kind N * size) v8 _ _ _ rs (ps ++ qs) _ w8 (by omega) (by omega) (own_dat hown8) (HDw.out w8 hg8) hrl Hall.out)
          clear hown8
          go_wp2_with fail
          refine HSm.out.mono ?_
          rintro e w9 ⟨rfl, qd, rfl⟩
          have hB9 : Below w5.heap.size w5 w8 := hB8.trans ⟨hg8.os, hg8.tape, hg8.output, hg8.size, fun i hi => hg8.block i (by have := hB8.size; omega) (by intro e; injection e; omega)⟩
          go_wp2
          exact ⟨⟨k + 1, by omega, by go_num, hB9.trans ((below_drewN w8 qd).mono (by have := hB9.size; omega))⟩, by simp only [intOf]; omega⟩
    · have hk8' : k = 8 := by omega
      subst hk8'
      go_wp2
      go_ret
      exact ⟨rfl, hlow4.trans ((hb5.trans (hbw.mono hs5)).mono (by omega))⟩
theorem settledT_any (c b : Int) (s : ByteArray) (w : World) (hc : -9223372036854775808 ≤ c ∧ c ≤ 9223372036854775807) (hb : -9223372036854775808 ≤ b ∧ b ≤ 9223372036854775807) (hs : s.size ≤ maxLen) : Calls Try.prog 6 #[.int .i64 c, .int .i64 b, .string s] w fun e w' => e = .returned (.bool true) ∧ Below w.heap.size w w' := by
  go_enter Try.func6, Try.ntmps6
  go_wp2_with fail
  refine (some_any s _ hs).mono ?_
  rintro e w1 ⟨t, rfl, ht, rfl⟩
  go_wp2_with fail
  refine (same_any c b t _ hc.1 hb.1 ht).mono ?_
  rintro e w2 ⟨rfl, hb⟩
  go_wp2
  go_ret
  exact ⟨rfl, hb⟩
end Go.Proofs.Ythhbpofcemoflab
