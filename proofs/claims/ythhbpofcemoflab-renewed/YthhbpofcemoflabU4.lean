import Derived.Test.YthhbpofcemoflabU3
namespace Go.Proofs.Ythhbpofcemoflab
open Go.RowKit
set_option maxRecDepth 20000
theorem frozen_of_blk {w w' : World} {g : Nat} (h : w.heap[g]? = w'.heap[g]?) (k : Nat) : w.frozen? ⟨g, k, none⟩ = w'.frozen? ⟨g, k, none⟩ := by simp only [World.frozen?, h]
set_option maxHeartbeats 4000000 in
theorem updated_any (c b : Int) (s o : ByteArray) (w : World) (hl : -9223372036854775808 ≤ c) (hlb : -9223372036854775808 ≤ b) (hs : s.size ≤ 300) (ho : o.size ≤ 300) : Calls Try.prog 18 #[.int .i64 c, .int .i64 b, .string s, .string o] w fun e w' => e = .returned (.bool true) ∧ Below w.heap.size w w' := by
  go_enter Try.func18, Try.ntmps18
  go_wp2_with fail
  refine (codes_any c _ hl).mono ?_
  rintro e w1 ⟨t, ht, rfl, hb1⟩
  have hOk0 := Sh.cds_ok t ht
  have hPb0 := Sh.cds_pb t ht
  obtain ⟨kind, K, M, N, gd⟩ := t
  simp only at hOk0 hPb0
  clear ht
  have HOk := hide hOk0
  have HPb := hide hPb0
  clear hOk0 hPb0
  go_wp2_with fail
  refine (best_ok kind K M N gd _ HOk.out).mono ?_
  rintro e w2 ⟨cb, rfl, hcb, hco, hb2⟩
  obtain ⟨hK, hM, h10, hR1, hR2, hKR, hMR, hPL⟩ := HOk.out.bounds
  have hsv := (hb2.block w1.heap.size (by simp)).trans (heap_alloc_new w1 _)
  have hsz2 := hb2.size
  simp only [World.size_alloc] at hsz2 hcb
  have s0 : w2.cell? ⟨w1.heap.size, 0, none⟩ = some (.int .i64 kind) := blk_cell hsv rfl
  have s1 : w2.cell? ⟨w1.heap.size, 1, none⟩ = some (.int .i64 K) := blk_cell hsv rfl
  have s2 : w2.cell? ⟨w1.heap.size, 2, none⟩ = some (.int .i64 M) := blk_cell hsv rfl
  have s3 : w2.cell? ⟨w1.heap.size, 3, none⟩ = some (.int .i64 N) := blk_cell hsv rfl
  have s4 : w2.cell? ⟨w1.heap.size, 4, none⟩ = some (.int .i64 gd) := blk_cell hsv rfl
  have hcbz := blk_lt hco
  have HD := hide (fun (wx : World) (t : ByteArray) (ht : t.size ≤ 300) (hb : Below w2.heap.size w2 wx) => data_ok cb kind K M N gd t wx HOk.out ht (Nat.lt_of_lt_of_le hcbz hb.size) (keepc hb hcbz 0 (blk_cell hco rfl)) (keepc hb hcbz 1 (blk_cell hco rfl)) (keepc hb hcbz 2 (blk_cell hco rfl)) (keepc hb hcbz 3 (blk_cell hco rfl)) (keepc hb hcbz 4 (blk_cell hco rfl)))
  have HCS : Hid (Sh.CS w2 cb kind K M N gd 3 8 ((16 : Nat) : Int) 2) := Or.inl hco
  have hlow2 : Below w.heap.size w w2 := (hb1.trans (((Below.refl w1.heap.size w1).alloc (Nat.le_refl _) _).mono hb1.size)).trans (hb2.mono (by have := hb1.size; simp; omega))
  have hb1s := hb1.size
  clear hsv hco hb2
  go_wp2_with fail
  go_loop [3] (fun v => ∃ u : ByteArray, v = .string u ∧ u.size ≤ 300) (fun v => s.size - Sh.szOf v)
  case atStart => exact ⟨o, rfl, ho⟩
  case round =>
    obtain ⟨u, rfl, hu⟩ := hrel
    by_cases hlt : u.size < s.size
    · go_wp2
      go_round
      case rel => exact ⟨_, rfl, by rw [ByteArray.size_append]; have : (ByteArray.mk #[121]).size = 1 := rfl; omega⟩
      case measure => simp only [Sh.szOf]; rw [ByteArray.size_append]; have : (ByteArray.mk #[121]).size = 1 := rfl; omega
    · go_wp2_with fail
      refine (HD.out w2 s hs (Below.refl _ _)).mono ?_
      rintro e w3 ⟨v3, ps, X, rfl, hpl, hbX, hown3, hb3⟩
      have hs3 := hb3.size
      have hsx : (u.extract 0 s.size).size = s.size := by simp; omega
      have HX3 := hide (⟨hpl, hbX, hown3⟩ : _ ∧ _ ∧ _)
      have t0 := keepc hb3 (by omega) 0 s0
      have t1 := keepc hb3 (by omega) 1 s1
      have t2 := keepc hb3 (by omega) 2 s2
      have t3 := keepc hb3 (by omega) 3 s3
      have t4 := keepc hb3 (by omega) 4 s4
      clear s0 s1 s2 s3 s4 hpl hbX hown3
      go_wp2_with fail
      go_region_with ((go_at_call 29; refine (HD.out _ _ (by rw [hsx]; exact hs) (by first | exact hb3 | exact hb3.drew)).mono ?_; rintro e w4 ⟨v4, qs, Y, rfl, hql, hbY, hown4, hb4⟩))
      all_goals
        have hb34 : Below w3.heap.size w3 w4 := by first | exact hb4 | exact ((Below.refl _ _).drew).trans hb4
        have hs4 := hb34.size
        obtain ⟨hpl, hbX, hown3⟩ := HX3.out
        rw [hsx] at hown4
        have hsz17 : 1 + s.size % 17 ≤ 17 := by have := Nat.mod_lt s.size (show 0 < 17 by decide); omega
        generalize hsize : 1 + s.size % 17 = size at *
        have hsize1 : 1 ≤ size := by omega
        clear hsize
        have hn1 : 1 ≤ Sh.R kind N * size := Nat.mul_pos hR1 hsize1
        have hn2 : Sh.R kind N * size ≤ 102 := by
          have : Sh.R kind N * size ≤ 6 * 17 := Nat.mul_le_mul hR2 hsz17
          omega
        have hdX := (own_dat hown3).below hb34
        have hdY := own_dat hown4
        have HnX := hide (own_ne_cb hown3 hcbz)
        have HnY : Hid (∀ p ∈ qs, p.1 ≠ cb) := own_ne_cb hown4 (by first | omega | (simp; omega))
        have HCS4 := hide (Sh.CS.below (Sh.CS.below HCS.out hb3) hb34)
        have x1 := keepc hb34 (by omega) 1 t1
        have x2 := keepc hb34 (by omega) 2 t2
        have HO3 := hide (hown3.below hb34)
        have HO4 := hide hown4
        have HdX := hide hdX
        have HdY := hide hdY
        have HbX := hide hbX
        have HbY := hide hbY
        have Hpl := hide hpl
        have Hql := hide hql
        clear t0 t1 t2 t3 t4 hpl hql hbX hbY hown3 hown4 hdX hdY HX3 HD
        go_wp2_with fail
        refine (pick_any b (K : Int) w4 hlb (by omega)).mono ?_
        rintro e w5 ⟨j, rfl, hj, rfl⟩
        have hjK : j < K := by omega
        have HC1 := hide (coded_st cb kind K M N gd 3 8 16 2 size v3 _ ps X w5 HOk.out (by decide) (by decide) (by decide) (by decide) hsize1 (by omega) HCS4.out HdX.out Hpl.out HnX.out HbX.out)
        go_wp2_with fail
        refine HC1.out.mono ?_
        rintro e w6 ⟨v6, ms, rfl, hml, hd6, hn6, hown6, hcs6, hk6⟩
        have hs6 := hk6.grown.size
        have hO3 := HO3.out.grown hk6.grown (show cb < w2.heap.size by omega)
        have hO4 := HO4.out.grown hk6.grown (by first | (simp; omega) | omega)
        obtain ⟨p, hp⟩ : ∃ p, ps[j]? = some p := ⟨_, List.getElem?_eq_getElem (by rw [Hpl.out]; exact hjK)⟩
        obtain ⟨r, hr⟩ : ∃ r, qs[j]? = some r := ⟨_, List.getElem?_eq_getElem (by rw [Hql.out]; exact hjK)⟩
        obtain ⟨x, hx⟩ : ∃ x, X[j]? = some x := ⟨_, List.getElem?_eq_getElem (by rw [hO3.lens, Hpl.out]; exact hjK)⟩
        obtain ⟨y, hy⟩ : ∃ y, Y[j]? = some y := ⟨_, List.getElem?_eq_getElem (by rw [hO4.lens, Hql.out]; exact hjK)⟩
        have hr3 := hO3.row
        rw [Hpl.out] at hr3
        obtain ⟨g3, cap3, hv3, hg3b, hg3, hcap3, hcell3⟩ := own_form hr3 hK
        have hr4 := hO4.row
        rw [Hql.out] at hr4
        obtain ⟨g4, cap4, hv4, hg4b, hg4, hcap4, hcell4⟩ := own_form hr4 hK
        subst hv3
        subst hv4
        have a3 : w6.cell? ⟨g3, j, none⟩ = some (.slice (some ⟨p.1, p.2.1, none⟩) (Sh.R kind N * size) p.2.2) := hcell3 j _ (Sh.sv_get hp)
        have a4 : w6.cell? ⟨g4, j, none⟩ = some (.slice (some ⟨r.1, r.2.1, none⟩) (Sh.R kind N * size) r.2.2) := hcell4 j _ (Sh.sv_get hr)
        have fz3 : w6.frozen? ⟨g3, j, none⟩ = false := by
          rcases hr3.2 with ⟨hc, _⟩ | ⟨g, cap, cur, hv, _, hgg, _⟩
          · cases hc
          · injection hv with hv1
            injection hv1 with hv1
            injection hv1 with hv1
            subst hv1
            exact blk_frozen hgg j
        have hbY' : ∀ b ∈ y, Sh.Byte b := HbY.out y (List.mem_of_getElem? hy)
        have HTA := hide (Sh.turn_anew (size := size) HOk.out HPb.out (show X.length = K by rw [hO3.lens, Hpl.out]) HbX.out hx hbY')
        have HUp := hide (fun (wx : World) (hx' : Below w6.heap.size w6 wx) => update_ok cb kind K M N gd 3 8 16 2 size v6 _ ms _ j p r x y wx HOk.out HPb.out hjK (by decide) (by decide) hsize1 (by omega) (hcs6.below hx') (hd6.below hx') hml ((Sh.One.of (own_dat hO3) hp hx).below hx') ((Sh.One.of (own_dat hO4) hr hy).below hx') (by
          intro z hz b hb
          rw [List.mem_append] at hz
          rcases hz with hz | hz
          · exact Sh.parB_bytes kind K M N gd size X z hz b hb
          · simp only [List.mem_cons, List.not_mem_nil, or_false] at hz
            rcases hz with rfl | rfl
            · exact HbX.out z (List.mem_of_getElem? hx) b hb
            · exact hbY' b hb))
        rw [HTA.out] at HUp
        have y2 := (grown_cell (c := w1.heap.size) (j := 2) hk6.grown (by omega) (by omega)).trans x2
        have Hr := hide hr
        have Hy := hide hy
        have HO3' := hide hO3
        have HO4' := hide hO4
        have HCS6 := hide hcs6
        have HXl := hide (show X.length = K by rw [hO3.lens, Hpl.out])
        have HR3 := hide hr3
        generalize hn : Sh.R kind N * size = n at *
        have Hn := hide hn
        clear hn
        clear hp hx hr hy hO3 hO4 hr3 hr4 hcell3 hcell4 hd6 hn6 hown6 hcs6 hml x1 x2
        go_wp2_with fail
        go_region_with ((go_at_call 35; refine (HUp.out _ (by first | exact Below.refl _ _ | exact (Below.refl _ _).drew)).mono ?_; rintro e w7 ⟨v7, us, rfl, hul, hown7, hb7⟩))
        all_goals
          have hb67 : Below w6.heap.size w6 w7 := by first | exact hb7 | exact ((Below.refl _ _).drew).trans hb7
          have hs7 := hb67.size
          have b3 := keepc hb67 hg3 j a3
          have b4 := keepc hb67 hg4 j a4
          have z2 := keepc hb67 (by omega) 2 y2
          have fz7 := (frozen_of_blk (hb67.block g3 hg3) j).trans fz3
          have hg3w : w1.heap.size ≠ g3 := by omega
          have hg3c : g3 ≠ cb := by omega
          have hSet := Sh.dat_setrow (HO3'.out.below hb67) (HO4'.out.below hb67) (by rw [Hpl.out]; exact hjK) Hr.out Hy.out
          have hrW := own_below HR3.out hb67
          have hCS8 := (HCS6.out.below hb67).setRow hrW hg3c (k := j) (.slice (some ⟨r.1, r.2.1, none⟩) n r.2.2)
          have hu8 := hown7.grown (grown_set (grown_refl w7 (some g3)) (j := j) (.slice (some ⟨r.1, r.2.1, none⟩) n r.2.2)) (by first | exact hg3 | (simp; exact hg3))
          have hW8 : Below w2.heap.size w7 (w7.setCell ⟨g3, j, none⟩ (.slice (some ⟨r.1, r.2.1, none⟩) n r.2.2)) := (Below.refl _ _).setCell (by simp; omega) _
          clear a3 a4 fz3 y2
          go_wp2_with fail
          have hsW : w7.heap.size = (w7.setCell ⟨g3, j, none⟩ (.slice (some ⟨r.1, r.2.1, none⟩) n r.2.2)).heap.size := by simp [World.setCell]
          generalize hW : w7.setCell ⟨g3, j, none⟩ (.slice (some ⟨r.1, r.2.1, none⟩) n r.2.2) = W at *
          clear hW
          have hn0 := Hn.out
          subst hn0
          have HU8 := hide hu8
          have HnU : Hid (∀ p ∈ us, p.1 ≠ cb) := own_ne_cb hu8 (by first | omega | (simp; omega))
          have HnS : Hid (∀ p ∈ ps.set j r, p.1 ≠ cb) := by
            intro p hp
            rcases List.mem_or_eq_of_mem_set hp with hp | rfl
            · exact HnX.out p hp
            · exact HnY.out _ (List.mem_of_getElem? Hr.out)
          have HbS : Hid (Sh.Bytes (X.set j y)) := by
            intro z hz b hb
            rcases List.mem_or_eq_of_mem_set hz with hz | rfl
            · exact HbX.out z hz b hb
            · exact HbY.out _ (List.mem_of_getElem? Hy.out) b hb
          have HC2 := hide (coded_st cb kind K M N gd 3 8 16 2 size _ _ (ps.set j r) (X.set j y) W HOk.out (by decide) (by decide) (by decide) (by decide) hsize1 (by omega) hCS8 hSet (by rw [List.length_set]; exact Hpl.out) HnS.out HbS.out)
          have Hul := hide hul
          clear hSet hCS8 hu8 hown7 hul b3 b4 z2 fz7 hrW
          refine HC2.out.mono ?_
          rintro e w9 ⟨v9, os, rfl, hol, hd9, hn9, _, hcs9, hk9⟩
          have HSm := hide (same_ok M (Sh.R kind N * size) v7 v9 _ _ us os _ w9 hM (by omega) (hk9.dat _ _ _ _ _ (own_dat HU8.out) HnU.out) hd9 Hul.out hol)
          have hs9 := hk9.grown.size
          clear hd9 hn9 hcs9 hol
          go_wp2_with fail
          refine HSm.out.mono ?_
          rintro e w10 ⟨rfl, q, rfl⟩
          have hz : w.heap.size ≤ cb := by omega
          have hlow : Below w.heap.size w w9 := (((((hlow2.trans (hb3.mono hlow2.size)).trans (hb34.mono (by omega))).trans (hk6.low hz (by omega))).trans (hb67.mono (by omega))).trans (hW8.mono (by omega))).trans (hk9.low hz (by omega))
          go_wp2
          go_ret
          exact ⟨rfl, hlow.trans ((below_drewN w9 q).mono (by omega))⟩
theorem renewed_any (c b : Int) (s o : ByteArray) (w : World) (hc : -9223372036854775808 ≤ c ∧ c ≤ 9223372036854775807) (hb : -9223372036854775808 ≤ b ∧ b ≤ 9223372036854775807) (hs : s.size ≤ maxLen) (ho : o.size ≤ maxLen) : Calls Try.prog 5 #[.int .i64 c, .int .i64 b, .string s, .string o] w fun e w' => e = .returned (.bool true) ∧ Below w.heap.size w w' := by
  go_enter Try.func5, Try.ntmps5
  go_wp2_with fail
  refine (some_any s _ hs).mono ?_
  rintro e w1 ⟨t, rfl, ht, rfl⟩
  go_wp2_with fail
  refine (some_any o _ ho).mono ?_
  rintro e w2 ⟨t2, rfl, ht2, rfl⟩
  go_wp2_with fail
  refine (updated_any c b t t2 _ hc.1 hb.1 ht ht2).mono ?_
  rintro e w3 ⟨rfl, hb⟩
  go_wp2
  go_ret
  exact ⟨rfl, hb⟩
end Go.Proofs.Ythhbpofcemoflab
