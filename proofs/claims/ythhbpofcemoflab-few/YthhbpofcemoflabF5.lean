import Derived.Test.YthhbpofcemoflabF3
import Derived.Test.YthhbpofcemoflabF4
namespace Go.Proofs.Ythhbpofcemoflab
open Go.RowKit
set_option maxRecDepth 20000
set_option maxHeartbeats 4000000 in
theorem few_any (c b : Int) (w : World) (hl : -9223372036854775808 ≤ c) (hlb : -9223372036854775808 ≤ b) : Calls Try.prog 22 #[.int .i64 c, .int .i64 b] w fun e w' => e = .returned (.bool true) ∧ Below w.heap.size w w' := by
  go_enter Try.func22, Try.ntmps22
  go_wp2_with fail
  refine (codes_any c _ hl).mono ?_
  rintro e w1 ⟨t, ht, rfl, hb1⟩
  have hOk0 := Sh.cds_ok t ht
  have hPb0 := Sh.cds_pb t ht
  obtain ⟨kind, K, M, N, gd⟩ := t
  simp only at hOk0 hPb0
  clear ht
  have HOk := hide hOk0
  have HPb := hide hPb0
  clear hOk0 hPb0
  obtain ⟨hK, hM, h10, hR1, hR2, hKR, hMR, hPL⟩ := HOk.out.bounds
  clear hPL hR1 hR2 hKR hMR
  have hb1s := hb1.size
  have HLo := hide (fun (wx : World) => (by
    have := losses_ok b (K + M) M wx hlb (by omega) (by omega)
    rw [Int.natCast_add] at this
    exact this))
  go_wp2_with fail
  refine (HLo.out _).mono ?_
  rintro e w2 ⟨v2, l, rfl, hl2, hnil2, hpw, hlt, hlM, hb2⟩
  obtain ⟨q, hqE, hq20, hqb, hqM, hq1⟩ := Sh.pat_of (n := K + M) (M := M) (by omega) hpw hlt hlM
  have HLs : Hid (Sh.Ls w2 K M v2 _ l q) := ⟨hl2, hnil2, hlt, hlM, hqE, hq20, hq1, hqM⟩
  have hf := Sh.sms_fit HOk.out q hq1 hqM
  have hsv := (hb2.block w1.heap.size (by simp)).trans (heap_alloc_new w1 _)
  have hsz2 := hb2.size
  simp only [World.size_alloc] at hsz2
  have hlow2 : Below w.heap.size w w2 := (hb1.trans (((Below.refl w1.heap.size w1).alloc (Nat.le_refl _) _).mono hb1.size)).trans (hb2.mono (by simp; omega))
  have HX := hide (fun (lev scr : Int) (k : Nat) (hk : scr = (k : Int)) (hk16 : k ≤ 16) (h0 : 0 ≤ lev) (h3 : lev ≤ 3) (wx : World) (hx : Below w2.heap.size w2 wx) => (by
    subst hk
    exact xorsK_ok kind K M N gd lev k q v2 _ l wx HOk.out HPb.out h0 h3 hk16 (HLs.out.below hx) : Calls Try.prog 39 #[.agg #[.int .i64 kind, .int .i64 K, .int .i64 M, .int .i64 N, .int .i64 gd], .int .i64 lev, .int .i64 scr, v2] wx fun e w' => e = .returned (.int .i64 (Sh.cnt lev scr (K * Sh.R kind N) (Sh.sms kind K M N gd q) : Int)) ∧ Below wx.heap.size wx w'))
  have HN := hide (fun (wx : World) => new_ok kind K M N gd 0 0 1 0 wx HOk.out (by decide) (by decide) (by decide) (by decide) (by decide) (by decide) (by decide) (by decide))
  have HPr := hide (fun (cb : Nat) (wx : World) (hx : Below w2.heap.size w2 wx) (hc : wx.heap[cb]? = some (.cells (Sh.coder kind K M N gd 0 0 1 0 0 0 0 0 (.slice none 0 0) 0) 54 (0, 0))) => (by
    have := program_ls cb kind K M N gd 0 0 1 q v2 _ l wx HOk.out HPb.out (HLs.out.below hx) hc
    rw [Sh.opt0] at this
    exact this))
  have HSh := hide (fun (wx : World) => shared_ok (K * Sh.R kind N) (Sh.sms kind K M N gd q) (Sh.sumsO (K * Sh.R kind N) (Sh.sms kind K M N gd q).length (Sh.sms kind K M N gd q) (Sh.sms kind K M N gd q).length) _ wx (Sh.plain_good hf.g1 hf.g hf.lt hf.l1 hf.l).1 hf rfl)
  have Hsv := hide hsv
  have hz1 := blk_lt hsv
  have HFit := hide hf
  clear hsv hl2 hnil2 hpw hlt hlM hqE hq20 hqb hqM hq1 hf HLs HLo HPb HOk
  simp only at HPr
  generalize strOfNums (Sh.txt (K * Sh.R kind N) (Sh.sms kind K M N gd q).length 0 (Sh.sumsO (K * Sh.R kind N) (Sh.sms kind K M N gd q).length (Sh.sms kind K M N gd q) (Sh.sms kind K M N gd q).length)) = st at *
  generalize K * Sh.R kind N = G at *
  generalize Sh.sms kind K M N gd q = S at *
  have s0 : w2.cell? ⟨w1.heap.size, 0, none⟩ = some (.int .i64 kind) := blk_cell Hsv.out rfl
  have s1 : w2.cell? ⟨w1.heap.size, 1, none⟩ = some (.int .i64 K) := blk_cell Hsv.out rfl
  have s2 : w2.cell? ⟨w1.heap.size, 2, none⟩ = some (.int .i64 M) := blk_cell Hsv.out rfl
  have s3 : w2.cell? ⟨w1.heap.size, 3, none⟩ = some (.int .i64 N) := blk_cell Hsv.out rfl
  have s4 : w2.cell? ⟨w1.heap.size, 4, none⟩ = some (.int .i64 gd) := blk_cell Hsv.out rfl
  go_wp2_with fail
  refine (HX.out 0 0 0 rfl (by decide) (by decide) (by decide) _ (Below.refl _ _)).mono ?_
  rintro e w3 ⟨rfl, hb3⟩
  have hs3 := hb3.size
  have t0 := keepc hb3 hz1 0 s0
  have t1 := keepc hb3 hz1 1 s1
  have t2 := keepc hb3 hz1 2 s2
  have t3 := keepc hb3 hz1 3 s3
  have t4 := keepc hb3 hz1 4 s4
  clear s0 s1 s2 s3 s4
  go_wp2_with fail
  refine (HN.out _).mono ?_
  rintro e w4 ⟨cb, rfl, hcb, hco, hb4⟩
  have hB4 := hb3.trans (hb4.mono hs3)
  have hs4 := hB4.size
  clear t0 t1 t2 t3 t4
  go_wp2_with fail
  refine (HPr.out _ _ hB4 hco).mono ?_
  rintro e w5 ⟨rfl, hb5⟩
  have hB5 := hB4.trans (hb5.mono hs4)
  have hs5 := hB5.size
  have HA1 := hide (HFit.out.cnt1 0)
  rw [← HFit.out.cnt0 0] at HA1
  have hpl1 : Sh.cnt 1 0 G S ≤ Sh.cnt 0 0 G S := HA1.out
  have HRd := hide (fun j hj => HFit.out.round j hj)
  have HLst0 : Hid (Sh.lst G S 0 = Sh.cnt 0 0 G S) := rfl
  have HLst1 : Hid (∀ j, Sh.lst G S (j + 1) = Sh.cnt 3 ((4 * j : Nat) : Int) G S) := fun _ => rfl
  have hpM := HFit.out.cnt_le 0 0
  have HcM := hide (fun lev scr => HFit.out.cnt_le lev scr)
  obtain ⟨Cn, hCn⟩ : ∃ Cn : Int → Int → Nat, Cn = fun lev scr => Sh.cnt lev scr G S := ⟨_, rfl⟩
  have hCe : ∀ lev scr, Sh.cnt lev scr G S = Cn lev scr := fun lev scr => by rw [hCn]
  simp only [hCe] at HX HRd HLst0 HLst1 hpM hpl1 HcM ⊢
  clear hCe hCn HA1 HFit hco HPr HN
  generalize Sh.lst G S = ls at *
  generalize hP0 : Cn 0 0 = P0 at *
  generalize hR0 : Cn 1 0 = R0 at *
  have d0 : decide ((P0 : Int) < 0) = false := by simp
  go_wp2_with fail
  refine (HSh.out _).mono ?_
  rintro e w6 ⟨bb, rfl, htwo, hb6⟩
  cases bb with
  | false =>
    have hB6 := hB5.trans (hb6.mono hs5)
    have hs6 := hB6.size
    have t0 : w6.cell? ⟨w1.heap.size, 0, none⟩ = some (.int .i64 kind) := blk_cell ((hB6.block _ hz1).trans Hsv.out) rfl
    have t1 : w6.cell? ⟨w1.heap.size, 1, none⟩ = some (.int .i64 K) := blk_cell ((hB6.block _ hz1).trans Hsv.out) rfl
    have t2 : w6.cell? ⟨w1.heap.size, 2, none⟩ = some (.int .i64 M) := blk_cell ((hB6.block _ hz1).trans Hsv.out) rfl
    have t3 : w6.cell? ⟨w1.heap.size, 3, none⟩ = some (.int .i64 N) := blk_cell ((hB6.block _ hz1).trans Hsv.out) rfl
    have t4 : w6.cell? ⟨w1.heap.size, 4, none⟩ = some (.int .i64 gd) := blk_cell ((hB6.block _ hz1).trans Hsv.out) rfl
    have HX1 := hide (HX.out 1 0 0 rfl (by decide) (by decide) (by decide) w6 hB6)
    rw [hR0] at HX1
    clear hP0 hR0 HSh
    go_wp2_with fail
    refine HX1.out.mono ?_
    rintro e w7 ⟨rfl, hb7⟩
    have hB7 := hB6.trans (hb7.mono hs6)
    have hs7 := hB7.size
    clear t0 t1 t2 t3 t4 HX1 htwo
    have dP : decide ((0 : Int) ≤ (P0 : Int)) = true := by simp
    have dR : decide ((0 : Int) ≤ (R0 : Int)) = true := by simp
    have dRP : decide ((P0 : Int) < (R0 : Int)) = false := by simp; omega
    go_wp2
    go_loopw [14, 15, 16, 17] (fun la ki _ _ wr => ∃ j k : Nat, j ≤ 5 ∧ k = 4 * j ∧ ki = .int .i64 (k : Int) ∧ la = .int .i64 (ls j : Int) ∧ Below w7.heap.size w7 wr) (fun _ ki _ _ _ => 24 - (intOf ki).toNat)
    case atStart => exact ⟨0, 0, by omega, rfl, rfl, val_int (by rw [HLst0.out]), Below.refl _ _⟩
    case round =>
      obtain ⟨j, k, hj, hk, rfl, rfl, hbw⟩ := hrel
      have hBw := hB7.trans (hbw.mono hs7)
      have hsw := hBw.size
      by_cases hj4 : j ≤ 4
      · have hk16 : k ≤ 16 := by omega
        have hkd : decide ((k : Int) ≤ 16) = true := by simp; omega
        obtain ⟨r1, r2, r3, r4, r5⟩ := HRd.out j hj4
        have hlj := HLst1.out j
        rw [← hk] at r1 r2 r3 r4 r5 hlj
        have t0 : wr.cell? ⟨w1.heap.size, 0, none⟩ = some (.int .i64 kind) := blk_cell ((hBw.block _ hz1).trans Hsv.out) rfl
        have t1 : wr.cell? ⟨w1.heap.size, 1, none⟩ = some (.int .i64 K) := blk_cell ((hBw.block _ hz1).trans Hsv.out) rfl
        have t2 : wr.cell? ⟨w1.heap.size, 2, none⟩ = some (.int .i64 M) := blk_cell ((hBw.block _ hz1).trans Hsv.out) rfl
        have t3 : wr.cell? ⟨w1.heap.size, 3, none⟩ = some (.int .i64 N) := blk_cell ((hBw.block _ hz1).trans Hsv.out) rfl
        have t4 : wr.cell? ⟨w1.heap.size, 4, none⟩ = some (.int .i64 gd) := blk_cell ((hBw.block _ hz1).trans Hsv.out) rfl
        have HX2 := hide (HX.out 2 k k rfl hk16 (by decide) (by decide) wr hBw)
        have HX3 := hide (fun wx (hx : Below w2.heap.size w2 wx) => HX.out 3 k k rfl hk16 (by decide) (by decide) wx hx)
        have HLj := hide hlj
        have Hk := hide hk
        clear hlj hk
        generalize Cn 2 (k : Int) = P2 at *
        generalize Cn 3 (k : Int) = P3 at *
        generalize hlsj : ls j = lj at *
        clear hlsj
        have q1 : decide ((P2 : Int) < 0) = false := by simp
        have q2 : decide ((P3 : Int) < 0) = false := by simp
        have q3 : decide ((R0 : Int) < (P3 : Int)) = false := by simp; omega
        have q4 : decide ((P2 : Int) < (P3 : Int)) = false := by simp; omega
        have q5 : decide ((lj : Int) < (P3 : Int)) = false := by simp; omega
        have q6 : decide ((P0 : Int) < (P2 : Int)) = false := by simp; omega
        go_wp2_with fail
        refine HX2.out.mono ?_
        rintro e w8 ⟨rfl, hb8⟩
        have hB8 := hBw.trans (hb8.mono hsw)
        have hz8 : w1.heap.size < wr.heap.size := by omega
        have u0 := keepc hb8 hz8 0 t0
        have u1 := keepc hb8 hz8 1 t1
        have u2 := keepc hb8 hz8 2 t2
        have u3 := keepc hb8 hz8 3 t3
        have u4 := keepc hb8 hz8 4 t4
        clear t0 t1 t2 t3 t4
        go_wp2_with fail
        refine (HX3.out _ hB8).mono ?_
        rintro e w9 ⟨rfl, hb9⟩
        have hs8 := hb8.size
        have hb79 : Below w7.heap.size w7 w9 := (hbw.trans (hb8.mono hbw.size)).trans (hb9.mono (by have := hbw.size; omega))
        clear u0 u1 u2 u3 u4
        go_wp2
        go_roundw
        case rel => exact ⟨j + 1, k + 4, by omega, by have := Hk.out; omega, by go_num, val_int (by rw [HLj.out]), hb79⟩
        case measure => simp [intOf]; omega
      · have hkd : decide ((k : Int) ≤ 16) = false := by simp; omega
        have hlow : Below w.heap.size w wr := hlow2.trans (hBw.mono hlow2.size)
        go_wp2
        go_ret
        exact ⟨rfl, hlow⟩
  | true =>
    have hB6 := hB5.trans (hb6.mono hs5)
    have hs6 := hB6.size
    have t0 : w6.cell? ⟨w1.heap.size, 0, none⟩ = some (.int .i64 kind) := blk_cell ((hB6.block _ hz1).trans Hsv.out) rfl
    have t1 : w6.cell? ⟨w1.heap.size, 1, none⟩ = some (.int .i64 K) := blk_cell ((hB6.block _ hz1).trans Hsv.out) rfl
    have t2 : w6.cell? ⟨w1.heap.size, 2, none⟩ = some (.int .i64 M) := blk_cell ((hB6.block _ hz1).trans Hsv.out) rfl
    have t3 : w6.cell? ⟨w1.heap.size, 3, none⟩ = some (.int .i64 N) := blk_cell ((hB6.block _ hz1).trans Hsv.out) rfl
    have t4 : w6.cell? ⟨w1.heap.size, 4, none⟩ = some (.int .i64 gd) := blk_cell ((hB6.block _ hz1).trans Hsv.out) rfl
    have HX1 := hide (HX.out 1 0 0 rfl (by decide) (by decide) (by decide) w6 hB6)
    rw [hR0] at HX1
    clear hP0 hR0 HSh
    go_wp2_with fail
    refine HX1.out.mono ?_
    rintro e w7 ⟨rfl, hb7⟩
    have hB7 := hB6.trans (hb7.mono hs6)
    have hs7 := hB7.size
    have Htwo := hide (htwo (by simp))
    clear t0 t1 t2 t3 t4 HX1 htwo
    have dP : decide ((0 : Int) ≤ (P0 : Int)) = true := by simp
    have dR : decide ((0 : Int) ≤ (R0 : Int)) = true := by simp
    have dRP : decide ((P0 : Int) < (R0 : Int)) = false := by simp; omega
    go_wp2
    go_loopw [14, 15, 16, 17] (fun la ki _ _ wr => ∃ j k : Nat, j ≤ 5 ∧ k = 4 * j ∧ ki = .int .i64 (k : Int) ∧ la = .int .i64 (ls j : Int) ∧ Below w7.heap.size w7 wr) (fun _ ki _ _ _ => 24 - (intOf ki).toNat)
    case atStart => exact ⟨0, 0, by omega, rfl, rfl, val_int (by rw [HLst0.out]), Below.refl _ _⟩
    case round =>
      obtain ⟨j, k, hj, hk, rfl, rfl, hbw⟩ := hrel
      have hBw := hB7.trans (hbw.mono hs7)
      have hsw := hBw.size
      by_cases hj4 : j ≤ 4
      · have hk16 : k ≤ 16 := by omega
        have hkd : decide ((k : Int) ≤ 16) = true := by simp; omega
        obtain ⟨r1, r2, r3, r4, r5⟩ := HRd.out j hj4
        have hlj := HLst1.out j
        rw [← hk] at r1 r2 r3 r4 r5 hlj
        have t0 : wr.cell? ⟨w1.heap.size, 0, none⟩ = some (.int .i64 kind) := blk_cell ((hBw.block _ hz1).trans Hsv.out) rfl
        have t1 : wr.cell? ⟨w1.heap.size, 1, none⟩ = some (.int .i64 K) := blk_cell ((hBw.block _ hz1).trans Hsv.out) rfl
        have t2 : wr.cell? ⟨w1.heap.size, 2, none⟩ = some (.int .i64 M) := blk_cell ((hBw.block _ hz1).trans Hsv.out) rfl
        have t3 : wr.cell? ⟨w1.heap.size, 3, none⟩ = some (.int .i64 N) := blk_cell ((hBw.block _ hz1).trans Hsv.out) rfl
        have t4 : wr.cell? ⟨w1.heap.size, 4, none⟩ = some (.int .i64 gd) := blk_cell ((hBw.block _ hz1).trans Hsv.out) rfl
        have HX2 := hide (HX.out 2 k k rfl hk16 (by decide) (by decide) wr hBw)
        have HX3 := hide (fun wx (hx : Below w2.heap.size w2 wx) => HX.out 3 k k rfl hk16 (by decide) (by decide) wx hx)
        have HLj := hide hlj
        have Hk := hide hk
        clear hlj hk
        generalize Cn 2 (k : Int) = P2 at *
        generalize Cn 3 (k : Int) = P3 at *
        generalize hlsj : ls j = lj at *
        clear hlsj
        have q1 : decide ((P2 : Int) < 0) = false := by simp
        have q2 : decide ((P3 : Int) < 0) = false := by simp
        have q3 : decide ((R0 : Int) < (P3 : Int)) = false := by simp; omega
        have q4 : decide ((P2 : Int) < (P3 : Int)) = false := by simp; omega
        have q5 : decide ((lj : Int) < (P3 : Int)) = false := by simp; omega
        have q6 : decide ((P0 : Int) < (P2 : Int)) = false := by simp; omega
        go_wp2_with fail
        refine HX2.out.mono ?_
        rintro e w8 ⟨rfl, hb8⟩
        have hB8 := hBw.trans (hb8.mono hsw)
        have hz8 : w1.heap.size < wr.heap.size := by omega
        have u0 := keepc hb8 hz8 0 t0
        have u1 := keepc hb8 hz8 1 t1
        have u2 := keepc hb8 hz8 2 t2
        have u3 := keepc hb8 hz8 3 t3
        have u4 := keepc hb8 hz8 4 t4
        clear t0 t1 t2 t3 t4
        go_wp2_with fail
        refine (HX3.out _ hB8).mono ?_
        rintro e w9 ⟨rfl, hb9⟩
        have hs8 := hb8.size
        have hb79 : Below w7.heap.size w7 w9 := (hbw.trans (hb8.mono hbw.size)).trans (hb9.mono (by have := hbw.size; omega))
        clear u0 u1 u2 u3 u4
        by_cases hk0 : k = 0
        · have e0 : decide ((0 : Int) < (k : Int)) = false := by simp; omega
          go_wp2
          go_roundw
          case rel => exact ⟨j + 1, k + 4, by omega, by have := Hk.out; omega, by go_num, val_int (by rw [HLj.out]), hb79⟩
          case measure => simp [intOf]; omega
        · have e0 : decide ((0 : Int) < (k : Int)) = true := by simp; omega
          have hlt := r5 Htwo.out (by have := Hk.out; omega)
          have e1 : ((P2 : Int) == (P0 : Int)) = false := by simp; omega
          go_wp2
          go_roundw
          case rel => exact ⟨j + 1, k + 4, by omega, by have := Hk.out; omega, by go_num, val_int (by rw [HLj.out]), hb79⟩
          case measure => simp [intOf]; omega
      · have hkd : decide ((k : Int) ≤ 16) = false := by simp; omega
        have hlow : Below w.heap.size w wr := hlow2.trans (hBw.mono hlow2.size)
        go_wp2
        go_ret
        exact ⟨rfl, hlow⟩
theorem fewT_any (c b : Int) (w : World) (hc : -9223372036854775808 ≤ c ∧ c ≤ 9223372036854775807) (hb : -9223372036854775808 ≤ b ∧ b ≤ 9223372036854775807) : Calls Try.prog 9 #[.int .i64 c, .int .i64 b] w fun e w' => e = .returned (.bool true) ∧ Below w.heap.size w w' := by
  go_enter Try.func9, Try.ntmps9
  go_wp2_with fail
  refine (few_any c b _ hc.1 hb.1).mono ?_
  rintro e w2 ⟨rfl, hb⟩
  go_wp2
  go_ret
  exact ⟨rfl, hb⟩
end Go.Proofs.Ythhbpofcemoflab
