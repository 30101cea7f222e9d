import Derived.Test.YthhbpofcemoflabX4
import Derived.Test.YthhbpofcemoflabGt
import Derived.Test.YthhbpofcemoflabGu
import Derived.Test.YthhbpofcemoflabGq
import Derived.Test.YthhbpofcemoflabGs
namespace Go.Proofs.Ythhbpofcemoflab
open Go.RowKit
set_option maxRecDepth 20000
theorem vf_ne {vf vt : Value} (h : ∀ b, vf.ownBlock = some b → vt.ownBlock ≠ some b) : vf.ownBlock = none ∨ vf.ownBlock ≠ vt.ownBlock := by
  cases hvb : vf.ownBlock with
  | none => exact Or.inl rfl
  | some b => exact Or.inr (fun e => h b hvb e.symm)
theorem vf_dis {w : World} {base : Nat} {e : TypeId} {size n : Nat} {xs : List Value} {vf vt v3 : Value} (h : ∀ b, vf.ownBlock = some b → vt.ownBlock ≠ some b) (hf : ∀ q, v3.ownBlock = some q → vt.ownBlock = some q ∨ w.heap.size ≤ q) (ho : w.ownsRow base e size vf n xs) : ∀ b, vf.ownBlock = some b → v3.ownBlock ≠ some b := by
  intro b hb h3
  rcases hf b h3 with h1 | h1
  · exact h b hb h1
  · have := (ho.lt b hb).2
    omega
theorem vt_ne {vf vt : Value} (h : ∀ b, vf.ownBlock = some b → vt.ownBlock ≠ some b) : vt.ownBlock = none ∨ vt.ownBlock ≠ vf.ownBlock := by
  cases hvb : vt.ownBlock with
  | none => exact Or.inl rfl
  | some b => exact Or.inr (fun e => h b e.symm hvb)
theorem vt_dis {w : World} {base : Nat} {e : TypeId} {size n : Nat} {xs : List Value} {vf vt v3 : Value} (h : ∀ b, vf.ownBlock = some b → vt.ownBlock ≠ some b) (hf : ∀ q, v3.ownBlock = some q → vf.ownBlock = some q ∨ w.heap.size ≤ q) (ho : w.ownsRow base e size vt n xs) : ∀ b, v3.ownBlock = some b → vt.ownBlock ≠ some b := by
  intro b hb h3
  rcases hf b hb with h1 | h1
  · exact h b h1 h3
  · have := (ho.lt b h3).2
    omega
set_option maxRecDepth 20000 in
set_option maxHeartbeats 8000000 in
theorem programmed_any (c b : Int) (s : ByteArray) (w : World) (hl : -9223372036854775808 ≤ c) (hlb : -9223372036854775808 ≤ b) (hs : s.size ≤ 300) : Calls Try.prog 21 #[.int .i64 c, .int .i64 b, .string s] w fun e w' => e = .returned (.bool true) ∧ Below w.heap.size w w' := by
  go_enter Try.func21, Try.ntmps21
  go_wp2_with fail
  refine (codes_any c _ hl).mono ?_
  rintro e w1 ⟨t, ht, rfl, hb1⟩
  have hOk0 := Sh.cds_ok t ht
  have hPb0 := Sh.cds_pb t ht
  have hDf0 := Sh.cds_dfs t ht
  obtain ⟨kind, K, M, N, gd⟩ := t
  simp only at hOk0 hPb0 hDf0
  clear ht
  have HOk := hide hOk0
  have HPb := hide hPb0
  have HDf := hide hDf0
  clear hOk0 hPb0 hDf0
  go_wp2_with fail
  refine (best_ok kind K M N gd _ HOk.out).mono ?_
  rintro e w2 ⟨cb, rfl, hcb, hco, hb2⟩
  obtain ⟨hK, hM, h10, hR1, hR2, hKR, hMR, hPL⟩ := HOk.out.bounds
  have hsv := (hb2.block w1.heap.size (by simp)).trans (heap_alloc_new w1 _)
  have hsz2 := hb2.size
  simp only [World.size_alloc] at hsz2 hcb
  have s0 : w2.cell? ⟨w1.heap.size, 0, none⟩ = some (.int .i64 kind) := blk_cell hsv rfl
  have s1 : w2.cell? ⟨w1.heap.size, 1, none⟩ = some (.int .i64 K) := blk_cell hsv rfl
  have s2 : w2.cell? ⟨w1.heap.size, 2, none⟩ = some (.int .i64 M) := blk_cell hsv rfl
  have s3 : w2.cell? ⟨w1.heap.size, 3, none⟩ = some (.int .i64 N) := blk_cell hsv rfl
  have s4 : w2.cell? ⟨w1.heap.size, 4, none⟩ = some (.int .i64 gd) := blk_cell hsv rfl
  have hcbz := blk_lt hco
  have HD := hide (data_ok cb kind K M N gd s w2 HOk.out hs hcbz (blk_cell hco rfl) (blk_cell hco rfl) (blk_cell hco rfl) (blk_cell hco rfl) (blk_cell hco rfl))
  have HCS : Hid (Sh.CS w2 cb kind K M N gd 3 8 ((16 : Nat) : Int) 2) := Or.inl hco
  have hlow2 : Below w.heap.size w w2 := (hb1.trans (((Below.refl w1.heap.size w1).alloc (Nat.le_refl _) _).mono hb1.size)).trans (hb2.mono (by have := hb1.size; simp; omega))
  have hb1s := hb1.size
  clear hsv hco hb2
  go_wp2_with fail
  refine HD.out.mono ?_
  rintro e w3 ⟨v3, ps, X, rfl, hpl, hbX, hown3, hb3⟩
  have hs3 := hb3.size
  have HCS3 := hide (Sh.CS.below HCS.out hb3)
  have hsz17 : 1 + s.size % 17 ≤ 17 := by have := Nat.mod_lt s.size (show 0 < 17 by decide); omega
  generalize hsize : 1 + s.size % 17 = size at *
  have hsize1 : 1 ≤ size := by omega
  clear hsize
  have HW := hide (word_ok cb kind K M N gd 3 8 16 2 size v3 _ ps X w3 HOk.out (by decide) (by decide) (by decide) (by decide) hsize1 (by omega) HCS3.out hown3 hpl hcbz hbX)
  have t1 := keepc hb3 (by omega) 1 s1
  have t2 := keepc hb3 (by omega) 2 s2
  have Hlx := hide (own_dat hown3).len_each
  have HXl := hide (show X.length = K by rw [hown3.lens, hpl])
  have Hpl := hide hpl
  have HbX := hide hbX
  clear s0 s1 s2 s3 s4 hpl hbX hown3 HD
  go_wp2_with fail
  refine HW.out.mono ?_
  rintro e w4 ⟨v4, qs, rfl, hql, hown4, hcs4, hg4⟩
  have hs4 := hg4.size
  have hlow4 : Below w.heap.size w w4 := (hlow2.trans (hb3.mono hlow2.size)).trans ⟨hg4.os, hg4.tape, hg4.output, hg4.size, fun i hi => hg4.block i (by omega) (by intro e; injection e; omega)⟩
  have hall : (ps ++ qs).length = K + M := by rw [List.length_append, Hpl.out, hql]
  have x1 := (grown_cell (c := w1.heap.size) (j := 1) hg4 (by omega) (by omega)).trans t1
  have x2 := (grown_cell (c := w1.heap.size) (j := 2) hg4 (by omega) (by omega)).trans t2
  have HZl := hide (show (X ++ Sh.parB kind K M N gd size X).length = K + M by rw [List.length_append, HXl.out, Sh.parB_len])
  have Hown4 := hide hown4
  have HCS4 := hide hcs4
  have Hall := hide hall
  have hr4 := hown4.row
  rw [hall] at hr4
  obtain ⟨g4, cap4, hv4, hg4b, hg4z, hcap4, hcell4⟩ := own_form hr4 (by omega)
  subst hv4
  have HC4 := hide hcell4
  have HLo := hide (fun (wx : World) => (by
    have := losses_ok b (K + M) M wx hlb (by omega) (by omega)
    rw [Int.natCast_add] at this
    exact this))
  have hn1 : 1 ≤ Sh.R kind N * size := Nat.mul_pos hR1 hsize1
  have hn2 : Sh.R kind N * size ≤ 102 := by
    have : Sh.R kind N * size ≤ 6 * 17 := Nat.mul_le_mul hR2 hsz17
    omega
  clear hown4 hcs4 hall hr4 hcell4 t1 t2
  go_wp2_with fail
  refine (HLo.out _).mono ?_
  rintro e w5 ⟨v5, l, rfl, hl5, hnil5, hpw, hlt, hlM, hb5⟩
  have hs5 := hb5.size
  obtain ⟨q, hqE, hq20, hqb, hqM, hq1⟩ := Sh.pat_of (n := K + M) (M := M) (by omega) hpw hlt hlM
  obtain ⟨la, lc, hv5⟩ := own_slice hl5
  subst hv5
  have y2 := keepc hb5 (by omega) 2 x2
  have HPat := hide (fun (wx : World) (hx : Below w5.heap.size w5 wx) (c0 : wx.cell? ⟨cb, 0, none⟩ = some (.int .i64 kind)) (c1 : wx.cell? ⟨cb, 1, none⟩ = some (.int .i64 K)) (c2 : wx.cell? ⟨cb, 2, none⟩ = some (.int .i64 M)) (c3 : wx.cell? ⟨cb, 3, none⟩ = some (.int .i64 N)) (c4 : wx.cell? ⟨cb, 4, none⟩ = some (.int .i64 gd)) => patternOf_any cb kind K M N gd _ _ l q wx HOk.out (by have := hx.size; omega) c0 c1 c2 c3 c4 (own_below hl5 hx) hnil5 hlt hlM hqE)
  by_cases hl0 : l = []
  · have hv0 := hnil5 hl0
    subst hl0
    injection hv0 with e1 _ e3
    subst e1
    subst e3
    clear HPat
    go_wp2
    go_ret
    exact ⟨rfl, hlow4.trans (hb5.mono (by omega))⟩
  · have hll : 1 ≤ l.length := List.length_pos_iff.2 hl0
    have hlz : ((l.length : Int) == 0) = false := by simp; omega
    have hq0 : q ≠ 0 := by
      intro h0
      obtain ⟨l0, hm0⟩ := List.exists_mem_of_ne_nil l hl0
      have := (hqb l0).2 hm0
      rw [h0, Nat.zero_testBit] at this
      cases this
    have hlo1 := hq1 hq0
    have hlE := Sh.eq_lo hpw hlt hqb
    obtain ⟨gl, cl, hvl, hglb, hglz, _, hcl⟩ := own_form hl5 hll
    injection hvl with e1 _ e3
    subst e1
    subst e3
    have hcs5 := HCS4.out.below hb5
    obtain ⟨p0, g0, o0, z0, v0, cnt, hblk⟩ := hcs5.blk
    have hpat := HPat.out w5 (Below.refl _ _) (blk_cell hblk rfl) (blk_cell hblk rfl) (blk_cell hblk rfl) (blk_cell hblk rfl) (blk_cell hblk rfl)
    have HPr := hide (program_ok cb kind K M N gd 3 8 ((16 : Nat) : Int) 2 q _ w5 HOk.out HPb.out hq20 hq0 hlo1 hqM (by decide) hcs5 hpat)
    have HO5 := hide (Hown4.out.below hb5)
    have HL5 := hide hl5
    have HlE := hide hlE
    have Hqb := hide hqb
    have y1 := keepc hb5 (by omega) 1 x1
    obtain ⟨i0, hi, hz0, hz1, hz2⟩ := info_parts Try.infoSl
    clear hl5 hnil5 hpw hlt hqE hqb x1 x2 hcl hcs5 hblk hpat HPat hlE hl0 y2
    generalize hst : strOfNums (Sh.txt (K * Sh.R kind N) ((Sh.lo q (K + M)).length * Sh.R kind N) (Sh.lprz kind K M N gd 3 8 q) (Sh.lprog kind K M N gd 3 8 q)) = st at *
    have Hst := hide hst
    clear hst
    go_wp2_with fail
    refine HPr.out.mono ?_
    rintro e w6 ⟨rfl, hcc6, hg6⟩
    have hs6 := hg6.size
    have hO6 := HO5.out.grown hg6 hcbz
    have HO6 := hide hO6
    have HC6 := hide (own_cells hO6.row)
    have hl6 := own_kept_ge HL5.out hg6 (by omega)
    have HCl := hide (own_cells hl6)
    have y1' := (grown_cell (c := w1.heap.size) (j := 1) hg6 (by omega) (by omega)).trans y1
    have HCC6 := hide hcc6
    have hlow6 : Below w.heap.size w w6 := (hlow4.trans (hb5.mono (by omega))).trans ⟨hg6.os, hg6.tape, hg6.output, hg6.size, fun i hi => hg6.block i (by omega) (by intro e; injection e; omega)⟩
    generalize hn : Sh.R kind N * size = n at *
    have Hn := hide hn
    clear hO6 hl6 hcc6 y1 HPr HL5 HO5 hn
    go_wp2
    go_loopw [15, 16, 17, 18, 19, 20] (fun vf vt at' i' _ _ wr => ∃ k : Nat, k ≤ K + M ∧ i' = .int .i64 k ∧ at' = .int .i64 ((Sh.lo q k).length : Int) ∧ wr.ownsRow w6.heap.size 33 1 vf (Sh.lf q K k).length (Sh.sv n ((Sh.lf q K k).map fun i => (ps ++ qs).getD i (0, 0, 0))) ∧ wr.ownsRow w6.heap.size 33 1 vt (Sh.lo q k).length (Sh.sv n ((Sh.lo q k).map fun i => (ps ++ qs).getD i (0, 0, 0))) ∧ (∀ b, vf.ownBlock = some b → vt.ownBlock ≠ some b) ∧ Below w6.heap.size w6 wr) (fun _ _ _ i _ _ _ => K + M - (intOf i).toNat)
    case atStart => exact ⟨0, Nat.zero_le _, rfl, rfl, World.ownsRow_nil _ _ _ _, World.ownsRow_nil _ _ _ _, (by intro b h; cases h), Below.refl _ _⟩
    case round =>
      obtain ⟨k, hk, rfl, rfl, hof, hot, hdis, hbl⟩ := hrel
      have hsr := hbl.size
      have hfl : (Sh.lf q K k).length ≤ K := by rw [Sh.lf_len]; omega
      have hll' := Sh.lo_len_le q k
      obtain ⟨fa, fc, rfl⟩ := own_slice hof
      obtain ⟨ta, tc, rfl⟩ := own_slice hot
      have Hdis := hide hdis
      have y1r := keepc hbl (by omega) 1 y1'
      by_cases hkn : k < K + M
      · obtain ⟨p, hp⟩ : ∃ p, (ps ++ qs)[k]? = some p := ⟨_, List.getElem?_eq_getElem (by rw [Hall.out]; exact hkn)⟩
        have hck : wr.cell? ⟨g4, k, none⟩ = some (.slice (some ⟨p.1, p.2.1, none⟩) n p.2.2) := keepc hbl (by omega) k (HC6.out k _ (Sh.sv_get hp))
        have hpd : (ps ++ qs).getD k (0, 0, 0) = p := by rw [List.getD_eq_getElem?_getD, hp]; rfl
        have HNx := hide (fun (l : List Nat) => (show Sh.sv n ((l ++ [k]).map fun i => (ps ++ qs).getD i (0, 0, 0)) = Sh.sv n (l.map fun i => (ps ++ qs).getD i (0, 0, 0)) ++ [.slice (some ⟨p.1, p.2.1, none⟩) n p.2.2] by rw [List.map_append, Sh.sv_append, List.map_cons, hpd]; rfl))
        have HLo : Hid (Sh.lo q (k + 1) = if q.testBit k = true then Sh.lo q k ++ [k] else Sh.lo q k) := rfl
        have HLf : Hid (Sh.lf q K (k + 1) = if q.testBit k = false ∧ (Sh.lf q K k).length < K then Sh.lf q K k ++ [k] else Sh.lf q K k) := rfl
        clear hp hpd
        cases hbt : q.testBit k with
        | true =>
          have hlk : l[(Sh.lo q k).length]? = some k := by rw [HlE.out]; exact Sh.lo_get hkn hbt
          have hal : (Sh.lo q k).length < l.length := (List.getElem?_eq_some_iff.1 hlk).1
          have hlc : wr.cell? ⟨gl, (Sh.lo q k).length, none⟩ = some (.int .i64 k) := keepc hbl (by omega) _ (HCl.out _ _ (show (Sh.iv64 l)[(Sh.lo q k).length]? = some (.int .i64 (k : Int)) by unfold Sh.iv64; rw [List.getElem?_map, hlk]; rfl))
          have HG1 := hide (show Sh.lo q (k + 1) = Sh.lo q k ++ [k] by rw [HLo.out, hbt]; simp)
          have HF1 := hide (show Sh.lf q K (k + 1) = Sh.lf q K k by rw [HLf.out, hbt]; simp)
          generalize hLk : Sh.lo q k = Lk at *
          clear hbt HLo HLf hLk hlk hdis
          go_wp2_with (at_builtin; refine append1x _ rfl (.tmp 87) (.tmp 92) 32 rfl w6.heap.size 33 i0 (.slice none 0 0) 1 24 Try.underlying32 hi hz0 hz1 hz2 rfl (by decide) (by decide) _ _ _ _ rfl hot rfl rfl (by simp; rfl) (by omega) (by omega) ?_; intro v3 w3 hown3 hb3 hg3 hf3)
          go_roundw
          case rel => exact ⟨k + 1, by omega, by go_num, by rw [HG1.out, List.length_append]; rfl, by rw [HF1.out]; exact hof.kept hg3 (vf_ne Hdis.out), by rw [HG1.out, HNx.out, List.length_append]; exact hown3, vf_dis Hdis.out hf3 hof, hbl.trans hb3⟩
          case measure => simp [intOf]; omega
        | false =>
          have HG1 := hide (show Sh.lo q (k + 1) = Sh.lo q k by rw [HLo.out, hbt]; simp)
          by_cases hga : (Sh.lf q K k).length < K
          · have HF1 := hide (show Sh.lf q K (k + 1) = Sh.lf q K k ++ [k] by rw [HLf.out, hbt]; simp [hga])
            by_cases hal : (Sh.lo q k).length < l.length
            · obtain ⟨j, hj⟩ : ∃ j, l[(Sh.lo q k).length]? = some j := ⟨_, List.getElem?_eq_getElem hal⟩
              have hjk : j ≠ k := by
                intro e
                rw [e] at hj
                have := (Hqb.out k).2 (List.mem_of_getElem? hj)
                rw [hbt] at this
                cases this
              have hlc : wr.cell? ⟨gl, (Sh.lo q k).length, none⟩ = some (.int .i64 j) := keepc hbl (by omega) _ (HCl.out _ _ (show (Sh.iv64 l)[(Sh.lo q k).length]? = some (.int .i64 (j : Int)) by unfold Sh.iv64; rw [List.getElem?_map, hj]; rfl))
              have hjb : ((j : Int) == (k : Int)) = false := by simp; omega
              generalize hLk : Sh.lo q k = Lk at *
              generalize hFk : Sh.lf q K k = Fk at *
              clear hbt HLo HLf hLk hFk hj hdis hjk
              go_wp2_with (at_builtin; refine append1x _ rfl (.tmp 100) (.tmp 105) 32 rfl w6.heap.size 33 i0 (.slice none 0 0) 1 24 Try.underlying32 hi hz0 hz1 hz2 rfl (by decide) (by decide) _ _ _ _ rfl hof rfl rfl (by simp; rfl) (by omega) (by omega) ?_; intro v3 w3 hown3 hb3 hg3 hf3)
              go_roundw
              case rel => exact ⟨k + 1, by omega, by go_num, by rw [HG1.out], by rw [HF1.out, HNx.out, List.length_append]; exact hown3, by rw [HG1.out]; exact hot.kept hg3 (vt_ne Hdis.out), vt_dis Hdis.out hf3 hot, hbl.trans hb3⟩
              case measure => simp [intOf]; omega
            · have dal : decide (((Sh.lo q k).length : Int) < (l.length : Int)) = false := decide_eq_false (by omega)
              generalize hLk : Sh.lo q k = Lk at *
              generalize hFk : Sh.lf q K k = Fk at *
              clear hbt HLo HLf hLk hFk hdis
              go_wp2_with (at_builtin; refine append1x _ rfl (.tmp 100) (.tmp 105) 32 rfl w6.heap.size 33 i0 (.slice none 0 0) 1 24 Try.underlying32 hi hz0 hz1 hz2 rfl (by decide) (by decide) _ _ _ _ rfl hof rfl rfl (by simp; rfl) (by omega) (by omega) ?_; intro v3 w3 hown3 hb3 hg3 hf3)
              go_roundw
              case rel => exact ⟨k + 1, by omega, by go_num, by rw [HG1.out], by rw [HF1.out, HNx.out, List.length_append]; exact hown3, by rw [HG1.out]; exact hot.kept hg3 (vt_ne Hdis.out), vt_dis Hdis.out hf3 hot, hbl.trans hb3⟩
              case measure => simp [intOf]; omega
          · have HF1 := hide (show Sh.lf q K (k + 1) = Sh.lf q K k by rw [HLf.out]; rw [if_neg (fun h => hga h.2)])
            have dga : decide (((Sh.lf q K k).length : Int) < (K : Int)) = false := decide_eq_false (by omega)
            by_cases hal : (Sh.lo q k).length < l.length
            · obtain ⟨j, hj⟩ : ∃ j, l[(Sh.lo q k).length]? = some j := ⟨_, List.getElem?_eq_getElem hal⟩
              have hjk : j ≠ k := by
                intro e
                rw [e] at hj
                have := (Hqb.out k).2 (List.mem_of_getElem? hj)
                rw [hbt] at this
                cases this
              have hlc : wr.cell? ⟨gl, (Sh.lo q k).length, none⟩ = some (.int .i64 j) := keepc hbl (by omega) _ (HCl.out _ _ (show (Sh.iv64 l)[(Sh.lo q k).length]? = some (.int .i64 (j : Int)) by unfold Sh.iv64; rw [List.getElem?_map, hj]; rfl))
              have hjb : ((j : Int) == (k : Int)) = false := by simp; omega
              generalize hLk : Sh.lo q k = Lk at *
              generalize hFk : Sh.lf q K k = Fk at *
              clear hbt HLo HLf hLk hFk hj hdis hjk
              go_wp2
              go_roundw
              case rel => exact ⟨k + 1, by omega, by go_num, by rw [HG1.out], by rw [HF1.out]; exact hof, by rw [HG1.out]; exact hot, Hdis.out, hbl⟩
              case measure => simp [intOf]; omega
            · have dal : decide (((Sh.lo q k).length : Int) < (l.length : Int)) = false := decide_eq_false (by omega)
              generalize hLk : Sh.lo q k = Lk at *
              generalize hFk : Sh.lf q K k = Fk at *
              clear hbt HLo HLf hLk hFk hdis
              go_wp2
              go_roundw
              case rel => exact ⟨k + 1, by omega, by go_num, by rw [HG1.out], by rw [HF1.out]; exact hof, by rw [HG1.out]; exact hot, Hdis.out, hbl⟩
              case measure => simp [intOf]; omega
      · have hkk : k = K + M := by omega
        subst hkk
        have hlfK : (Sh.lf q K (K + M)).length = K := by rw [Sh.lf_len]; omega
        have hn0 := Hn.out
        subst hn0
        have hdF := pick_dat (own_dat HO6.out) hbl (fun i hi => by rw [Hall.out]; exact Sh.lf_lt i hi) hof
        have hdT := pick_dat (own_dat HO6.out) hbl (fun i hi => by rw [Hall.out]; exact (Sh.lo_lt i hi).1) hot
        obtain ⟨C, hC, e0, e1, e2, e3, e4, _⟩ := HCC6.out.below hbl
        have HRw := hide (crows_ok cb kind K M N gd wr HOk.out (blk_cell hC e0) (blk_cell hC e1) (blk_cell hC e2) (blk_cell hC e3) (blk_cell hC e4))
        have dR : decide ((Sh.R kind N : Int) < 1) = false := by simp; omega
        have HdF := hide hdF
        have HdT := hide hdT
        rw [hlfK] at hof
        rw [hlfK]
        have Hof := hide hof
        have Hot := hide hot
        have HlfK := hide hlfK
        clear hdF hdT hof hot hC e0 e1 e2 e3 e4 hdis
        go_wp2_with fail
        refine HRw.out.mono ?_
        rintro e w7 ⟨rfl, hb7⟩
        have hs7 := hb7.size
        have HCF := hide (cut_ok (.slice fa K fc) _ K (Sh.R kind N) size _ w7 hK (by omega) hR1 (by omega) hsize1 (by omega) (by rw [List.length_map, HlfK.out]) HdF.out.caps (own_below Hof.out hb7))
        go_wp2_with fail
        refine HCF.out.mono ?_
        rintro e w8 ⟨v8, rfl, hown8, hb8⟩
        have hs8 := hb8.size
        have HCT := hide (cut_ok (.slice ta (Sh.lo q (K + M)).length tc) _ (Sh.lo q (K + M)).length (Sh.R kind N) size _ w8 hlo1 (by omega) hR1 (by omega) hsize1 (by omega) (by rw [List.length_map]) HdT.out.caps (own_below (own_below Hot.out hb7) hb8))
        have dF8 := cut_dat (HdF.out.below hb7) hb8 (by rw [List.length_map, HlfK.out]; exact hown8)
        have HdF8 := hide dF8
        clear hown8 dF8 HCF
        go_wp2_with fail
        refine HCT.out.mono ?_
        rintro e w9 ⟨v9, rfl, hown9, hb9⟩
        have hs9 := hb9.size
        have dF9 := HdF8.out.below hb9
        have hG9 : (Sh.cutAll size (Sh.R kind N) ((Sh.lf q K (K + M)).map fun i => (ps ++ qs).getD i (0, 0, 0))).length = K * Sh.R kind N := by rw [Sh.cutAll_len, List.length_map, HlfK.out]
        have hrow9 := dF9.row
        rw [hG9] at hrow9
        have dT9 := cut_dat ((HdT.out.below hb7).below hb8) hb9 (by rw [List.length_map]; exact hown9)
        have hT9 : (Sh.cutAll size (Sh.R kind N) ((Sh.lo q (K + M)).map fun i => (ps ++ qs).getD i (0, 0, 0))).length = (Sh.lo q (K + M)).length * Sh.R kind N := by rw [Sh.cutAll_len, List.length_map]
        have HdT9 := hide dT9
        have hll9 := Sh.lsums_len kind K M N gd q
        have hKR1 : 1 ≤ K * Sh.R kind N := Nat.mul_pos hK hR1
        have hmR1 : 1 ≤ (Sh.lo q (K + M)).length * Sh.R kind N := Nat.mul_pos hlo1 hR1
        have hmR : (Sh.lo q (K + M)).length * Sh.R kind N ≤ 40 := Nat.le_trans (Nat.mul_le_mul_right _ hqM) hMR
        have hgd9 := Sh.lprog_good HOk.out 3 8 q hlo1 hqM
        have hll8 := Sh.lost_len kind K M N gd q
        have hpp : 1 ≤ (Sh.lprog kind K M N gd 3 8 q).length := hgd9.pos
        have hpn : (Sh.lprog kind K M N gd 3 8 q).length ≤ 2048 := hgd9.len
        have hSnd : Sh.Snd (K * Sh.R kind N) ((Sh.lo q (K + M)).length * Sh.R kind N) (Sh.lprz kind K M N gd 3 8 q) (Sh.lprog kind K M N gd 3 8 q) := by
          have := hgd9.snd
          rw [hll8] at this
          exact this
        have hops : ∀ o ∈ Sh.lprog kind K M N gd 3 8 q, Sh.OpOk (K * Sh.R kind N) (K * Sh.R kind N + (Sh.lo q (K + M)).length * Sh.R kind N + Sh.lprz kind K M N gd 3 8 q) o := by
          have := hgd9.ok
          rw [hll8] at this
          exact this
        have hB9 := hgd9.hB
        have hFb : Sh.Bytes (Sh.pick' (X ++ Sh.parB kind K M N gd size X) (Sh.lf q K (K + M))) := by
          intro x hx
          unfold Sh.pick' at hx
          rw [List.mem_map] at hx
          obtain ⟨t, ht, rfl⟩ := hx
          have hlt := Sh.lf_lt t ht
          rw [List.getD_eq_getElem?_getD, List.getElem?_eq_getElem (by rw [List.length_append, HXl.out, Sh.parB_len]; exact hlt)]
          exact (List.mem_append.1 (List.getElem_mem _)).elim (fun h => HbX.out _ h) (fun h => Sh.parB_bytes kind K M N gd size X _ h)
        have HRun := hide (runs_ok (K * Sh.R kind N) ((Sh.lo q (K + M)).length * Sh.R kind N) (Sh.lprz kind K M N gd 3 8 q) size (Sh.lprog kind K M N gd 3 8 q) st v8 _ _ _ w9 hKR1 hKR hmR1 hmR hsize1 (by omega) hB9 hops hpp hpn hSnd Hst.out.symm hrow9 hG9 (by rw [dF9.lens, hG9]) dF9.lt (fun r x hx => by
          obtain ⟨p, hp⟩ : ∃ p, (Sh.cutAll size (Sh.R kind N) ((Sh.lf q K (K + M)).map fun i => (ps ++ qs).getD i (0, 0, 0)))[r]? = some p := ⟨_, List.getElem?_eq_getElem (by rw [← dF9.lens]; exact (List.getElem?_eq_some_iff.1 hx).1)⟩
          exact (dF9.each r p x hp hx).1) (fun r p x hp hx => (dF9.each r p x hp hx).2))
        have hX10 : Sh.rowsD (Sh.R kind N) size (Sh.pick' (X ++ Sh.parB kind K M N gd size X) (Sh.lo q (K + M))) = Sh.regsG (Sh.R kind N) K (Sh.lo q (K + M)).length size (Sh.lsums kind K M N gd q) (Sh.pick' (X ++ Sh.parB kind K M N gd size X) (Sh.lf q K (K + M))) := by
          have hlb := Sh.lost_back HOk.out HPb.out HDf.out HXl.out HbX.out Hlx.out q hqM
          rw [← hlb]
          refine Sh.rows_sh (regs := Sh.regsG (Sh.R kind N) K (Sh.lo q (K + M)).length size (Sh.lsums kind K M N gd q) (Sh.pick' (X ++ Sh.parB kind K M N gd size X) (Sh.lf q K (K + M)))) (by simp [Sh.regsG]) ?_
          intro j x hx
          simp only [Sh.regsG, List.getElem?_map, Option.map_eq_some_iff] at hx
          obtain ⟨t, _, rfl⟩ := hx
          exact Sh.regAt_len _ _ _ _ _ _ _ _
        have HX10 := hide hX10
        have HRegs := hide (fun (j : Nat) (hj : j < (Sh.lo q (K + M)).length * Sh.R kind N) => hgd9.regs (size := size) (j := j) (by omega) (Sh.lost_lt kind K M N gd q) (show (Sh.rowsD (Sh.R kind N) size (Sh.pick' (X ++ Sh.parB kind K M N gd size X) (Sh.lf q K (K + M)))).length = K * Sh.R kind N by rw [dF9.lens, hG9]) (Sh.rowsD_bytes hFb) (by rw [hll8]; exact hj))
        clear hown9 dF9 dT9 hrow9 hG9 hX10 hSnd hops hll9 hpp hpn HCT hgd9 hll8 hB9 hFb
        go_wp2_with fail
        refine HRun.out.mono ?_
        rintro e w10 ⟨v10, bs, b0, rfl, _, ho10, hbl10, hc10, hb10⟩
        have hs10 := hb10.size
        have dT10 := HdT9.out.below hb10
        rw [HX10.out] at dT10
        rw [← hbl10] at ho10
        have dO := regs_dat (X := Sh.regsG (Sh.R kind N) K (Sh.lo q (K + M)).length size (Sh.lsums kind K M N gd q) (Sh.pick' (X ++ Sh.parB kind K M N gd size X) (Sh.lf q K (K + M)))) (by omega) ho10 (by simp [Sh.regsG, hbl10]) (by
          intro j x hx
          simp only [Sh.regsG, List.getElem?_map, Option.map_eq_some_iff] at hx
          obtain ⟨t, _, rfl⟩ := hx
          exact Sh.regAt_len _ _ _ _ _ _ _ _) (by
          intro j b x hj hx
          have hjl : j < (Sh.lo q (K + M)).length * Sh.R kind N := by rw [← hbl10]; exact (List.getElem?_eq_some_iff.1 hj).1
          simp only [Sh.regsG, List.getElem?_map, List.getElem?_range hjl, Option.map_some, Option.some.injEq] at hx
          subst hx
          have := hc10 j b hj
          rw [HRegs.out j hjl] at this
          exact this)
        have HSm := hide (same60_ok ((Sh.lo q (K + M)).length * Sh.R kind N) size v10 v9 _ _ _ _ _ w10 hmR1 (by omega) dO dT10 (by rw [List.length_map, hbl10]) hT9)
        clear dO dT10 ho10 hc10
        go_wp2_with fail
        refine HSm.out.mono ?_
        rintro e w11 ⟨rfl, qd, rfl⟩
        go_wp2
        go_ret
        exact ⟨rfl, (((((hlow6.trans (hbl.mono (by omega))).trans (hb7.mono (by omega))).trans (hb8.mono (by omega))).trans (hb9.mono (by omega))).trans (hb10.mono (by omega))).trans ((below_drewN w10 qd).mono (by omega))⟩
theorem writtenT_any (c b : Int) (s : ByteArray) (w : World) (hc : -9223372036854775808 ≤ c ∧ c ≤ 9223372036854775807) (hb : -9223372036854775808 ≤ b ∧ b ≤ 9223372036854775807) (hs : s.size ≤ maxLen) : Calls Try.prog 8 #[.int .i64 c, .int .i64 b, .string s] w fun e w' => e = .returned (.bool true) ∧ Below w.heap.size w w' := by
  go_enter Try.func8, Try.ntmps8
  go_wp2_with fail
  refine (some_any s _ hs).mono ?_
  rintro e w1 ⟨t, rfl, ht, rfl⟩
  go_wp2_with fail
  refine (programmed_any c b t _ hc.1 hb.1 ht).mono ?_
  rintro e w2 ⟨rfl, hb⟩
  go_wp2
  go_ret
  exact ⟨rfl, hb⟩
end Go.Proofs.Ythhbpofcemoflab
