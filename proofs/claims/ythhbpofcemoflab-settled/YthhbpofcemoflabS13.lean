import Derived.Test.YthhbpofcemoflabGq
import Derived.Test.YthhbpofcemoflabGs
namespace Go.Proofs.Ythhbpofcemoflab
open Go.RowKit
set_option maxRecDepth 20000
theorem own_setc {w : World} {base : Nat} {e : TypeId} {g n cap a : Nat} {vs : List Value} {u : Value} (h : w.ownsRow base e 1 (.slice (some ⟨g, 0, none⟩) n cap) n vs) : (w.setCell ⟨g, a, none⟩ u).ownsRow base e 1 (.slice (some ⟨g, 0, none⟩) n cap) n (vs.set a u) := by
  have hl := h.1
  rcases h.2 with ⟨hc, _⟩ | ⟨g', cap', cur, hv, hb, hgg, h1, h2, h3, h4⟩
  · cases hc
  · injection hv with hv1 hv2 hv3
    injection hv1 with hv1
    injection hv1 with hv1
    subst hv1
    subst hv3
    refine ⟨by rw [List.length_set]; exact hl, Or.inr ⟨g, cap, cur.setIfInBounds a u, rfl, hb, blk_set hgg, h1, h2, by rw [Array.size_setIfInBounds]; exact h3, ?_⟩⟩
    rw [Array.toList_setIfInBounds, ← h4, List.take_set]
theorem own_frozen {w : World} {base : Nat} {e : TypeId} {g n cap : Nat} {vs : List Value} (h : w.ownsRow base e 1 (.slice (some ⟨g, 0, none⟩) n cap) n vs) (a : Nat) : w.frozen? ⟨g, a, none⟩ = false := by
  rcases h.2 with ⟨hc, _⟩ | ⟨g', cap', cur, hv, _, hgg, _⟩
  · cases hc
  · injection hv with hv1
    injection hv1 with hv1
    injection hv1 with hv1
    subst hv1
    exact blk_frozen hgg a
set_option maxRecDepth 20000 in
set_option maxHeartbeats 4000000 in
theorem back_any (c b : Int) (s : ByteArray) (w : World) (hl : -9223372036854775808 ≤ c) (hlb : -9223372036854775808 ≤ b) (hs : s.size ≤ 300) : Calls Try.prog 16 #[.int .i64 c, .int .i64 b, .string s] w fun e w' => e = .returned (.bool true) ∧ Below w.heap.size w w' := by
  go_enter Try.func16, Try.ntmps16
  go_wp2_with fail
  refine (codes_any c _ hl).mono ?_
  rintro e w1 ⟨t, ht, rfl, hb1⟩
  have hOk0 := Sh.cds_ok t ht
  have hPb0 := Sh.cds_pb t ht
  have hDf0 := Sh.cds_dfs t ht
  obtain ⟨kind, K, M, N, gd⟩ := t
  simp only at hOk0 hPb0 hDf0
  clear ht
  have HOk := hide hOk0
  have HPb := hide hPb0
  have HDf := hide hDf0
  clear hOk0 hPb0 hDf0
  go_wp2_with fail
  refine (best_ok kind K M N gd _ HOk.out).mono ?_
  rintro e w2 ⟨cb, rfl, hcb, hco, hb2⟩
  obtain ⟨hK, hM, h10, hR1, hR2, hKR, hMR, hPL⟩ := HOk.out.bounds
  have hsv := (hb2.block w1.heap.size (by simp)).trans (heap_alloc_new w1 _)
  have hsz2 := hb2.size
  simp only [World.size_alloc] at hsz2 hcb
  have s0 : w2.cell? ⟨w1.heap.size, 0, none⟩ = some (.int .i64 kind) := blk_cell hsv rfl
  have s1 : w2.cell? ⟨w1.heap.size, 1, none⟩ = some (.int .i64 K) := blk_cell hsv rfl
  have s2 : w2.cell? ⟨w1.heap.size, 2, none⟩ = some (.int .i64 M) := blk_cell hsv rfl
  have s3 : w2.cell? ⟨w1.heap.size, 3, none⟩ = some (.int .i64 N) := blk_cell hsv rfl
  have s4 : w2.cell? ⟨w1.heap.size, 4, none⟩ = some (.int .i64 gd) := blk_cell hsv rfl
  have hcbz := blk_lt hco
  have HD := hide (data_ok cb kind K M N gd s w2 HOk.out hs hcbz (blk_cell hco rfl) (blk_cell hco rfl) (blk_cell hco rfl) (blk_cell hco rfl) (blk_cell hco rfl))
  have HCS : Hid (Sh.CS w2 cb kind K M N gd 3 8 ((16 : Nat) : Int) 2) := Or.inl hco
  have hlow2 : Below w.heap.size w w2 := (hb1.trans (((Below.refl w1.heap.size w1).alloc (Nat.le_refl _) _).mono hb1.size)).trans (hb2.mono (by have := hb1.size; simp; omega))
  have hb1s := hb1.size
  clear hsv hco hb2
  go_wp2_with fail
  refine HD.out.mono ?_
  rintro e w3 ⟨v3, ps, X, rfl, hpl, hbX, hown3, hb3⟩
  have hs3 := hb3.size
  have HCS3 := hide (Sh.CS.below HCS.out hb3)
  have hsz17 : 1 + s.size % 17 ≤ 17 := by have := Nat.mod_lt s.size (show 0 < 17 by decide); omega
  generalize hsize : 1 + s.size % 17 = size at *
  have hsize1 : 1 ≤ size := by omega
  clear hsize
  have HW := hide (word_ok cb kind K M N gd 3 8 16 2 size v3 _ ps X w3 HOk.out (by decide) (by decide) (by decide) (by decide) hsize1 (by omega) HCS3.out hown3 hpl hcbz hbX)
  have t1 := keepc hb3 (by omega) 1 s1
  have t2 := keepc hb3 (by omega) 2 s2
  have Hlx := hide (own_dat hown3).len_each
  have HXl := hide (show X.length = K by rw [hown3.lens, hpl])
  have Hpl := hide hpl
  have HbX := hide hbX
  clear s0 s1 s2 s3 s4 hpl hbX hown3 HD
  go_wp2_with fail
  refine HW.out.mono ?_
  rintro e w4 ⟨v4, qs, rfl, hql, hown4, hcs4, hg4⟩
  have hs4 := hg4.size
  have hlow4 : Below w.heap.size w w4 := (hlow2.trans (hb3.mono hlow2.size)).trans ⟨hg4.os, hg4.tape, hg4.output, hg4.size, fun i hi => hg4.block i (by omega) (by intro e; injection e; omega)⟩
  have hall : (ps ++ qs).length = K + M := by rw [List.length_append, Hpl.out, hql]
  have x1 := (grown_cell (c := w1.heap.size) (j := 1) hg4 (by omega) (by omega)).trans t1
  have x2 := (grown_cell (c := w1.heap.size) (j := 2) hg4 (by omega) (by omega)).trans t2
  have HZl := hide (show (X ++ Sh.parB kind K M N gd size X).length = K + M by rw [List.length_append, HXl.out, Sh.parB_len])
  have Hown4 := hide hown4
  have HCS4 := hide hcs4
  have Hall := hide hall
  have hr4 := hown4.row
  rw [hall] at hr4
  obtain ⟨g4, cap4, hv4, hg4b, hg4z, hcap4, hcell4⟩ := own_form hr4 (by omega)
  subst hv4
  have HC4 := hide hcell4
  have HLo := hide (fun (wx : World) => (by
    have := losses_ok b (K + M) M wx hlb (by omega) (by omega)
    rw [Int.natCast_add] at this
    exact this))
  have hn1 : 1 ≤ Sh.R kind N * size := Nat.mul_pos hR1 hsize1
  have hn2 : Sh.R kind N * size ≤ 102 := by
    have : Sh.R kind N * size ≤ 6 * 17 := Nat.mul_le_mul hR2 hsz17
    omega
  clear hown4 hcs4 hall hr4 hcell4 t1 t2
  go_wp2_with fail
  refine (HLo.out _).mono ?_
  rintro e w5 ⟨v5, l, rfl, hl5, hnil5, hpw, hlt, hlM, hb5⟩
  have hs5 := hb5.size
  obtain ⟨q, hqE, hq20, hqb, hqM, hq1⟩ := Sh.pat_of (n := K + M) (M := M) (by omega) hpw hlt hlM
  obtain ⟨la, lc, hv5⟩ := own_slice hl5
  subst hv5
  have y2 := keepc hb5 (by omega) 2 x2
  have HPat := hide (fun (wx : World) (hx : Below w5.heap.size w5 wx) (c0 : wx.cell? ⟨cb, 0, none⟩ = some (.int .i64 kind)) (c1 : wx.cell? ⟨cb, 1, none⟩ = some (.int .i64 K)) (c2 : wx.cell? ⟨cb, 2, none⟩ = some (.int .i64 M)) (c3 : wx.cell? ⟨cb, 3, none⟩ = some (.int .i64 N)) (c4 : wx.cell? ⟨cb, 4, none⟩ = some (.int .i64 gd)) => patternOf_any cb kind K M N gd _ _ l q wx HOk.out (by have := hx.size; omega) c0 c1 c2 c3 c4 (own_below hl5 hx) hnil5 hlt hlM hqE)
  have HL5 := hide hl5
  have Hlt := hide hlt
  have Hqb := hide hqb
  have Hnil := hide (fun (wx : World) => World.ownsRow_nil wx w5.heap.size 33 1)
  obtain ⟨i0, hi, hz0, hz1, hz2⟩ := info_parts Try.infoSl
  have HSvl := hide (show (Sh.sv (Sh.R kind N * size) (ps ++ qs)).length = (K + M) * 1 by rw [Sh.sv_len, Hall.out, Nat.mul_one])
  have HSvo := hide (Sh.sv_one (Sh.R kind N * size) (ps ++ qs))
  clear hl5 hnil5 hpw hlt hqE hqb x1 x2
  have hlM' : ¬ (M < l.length) := by omega
  generalize hn : Sh.R kind N * size = n at *
  have Hn := hide hn
  clear hn
  go_wp2_with (at_builtin; refine appendX _ rfl (.tmp 52) (.tmp 53) 32 rfl w5.heap.size 33 i0 (.slice none 0 0) 1 24 Try.underlying32 hi hz0 hz1 hz2 rfl (by decide) _ _ _ rfl (Hnil.out _) ⟨g4, 0, none⟩ (K + M) cap4 (Sh.sv n (ps ++ qs)) rfl HSvl.out (fun j u hu => by rw [addr_add]; exact keepc hb5 hg4z j (HC4.out j u hu)) HSvo.out (by omega) (by unfold maxLen; omega) (by omega) (by omega) ?_; intro v6 w6 hown6 hb6 hg6 hf6; rw [Nat.zero_add, List.nil_append] at hown6; obtain ⟨g6, cap6, hv6, hg6b, hg6z, hcap6, hcell6⟩ := own_form hown6 (by omega); subst hv6; have hs6 := hb6.size; have HO6 := hide hown6; clear hown6 hcell6 hg6 hf6)
  have hcv := fun w => run_bytes_of_string (P := Try.prog) w 9 33 5 s Try.underlying9 Try.underlying33 Try.underlying5
  go_loopw [14] (fun i wr => ∃ (k : Nat) (vs : List Value), k ≤ l.length ∧ i = .int .i64 k ∧ wr.ownsRow w5.heap.size 33 1 (.slice (some ⟨g6, 0, none⟩) (K + M) cap6) (K + M) vs ∧ (∀ u ∈ vs, ∃ a m c, u = Value.slice a m c) ∧ (∀ j, j ∉ l.take k → vs[j]? = (Sh.sv n (ps ++ qs))[j]?) ∧ Below w5.heap.size w5 wr) (fun i _ => l.length - (intOf i).toNat)
  case atStart =>
    refine ⟨0, _, Nat.zero_le _, rfl, HO6.out, ?_, fun _ _ => rfl, hb6⟩
    intro u hu
    simp only [Sh.sv, List.mem_map] at hu
    obtain ⟨p, _, rfl⟩ := hu
    exact ⟨_, _, _, rfl⟩
  case round =>
    obtain ⟨k, vs, hk, rfl, hov, hsl, hkeep, hbw⟩ := hrel
    have hsw := hbw.size
    have hvl : vs.length = K + M := by have := hov.1; omega
    by_cases hkl : k < l.length
    · have hl5 := own_below HL5.out hbw
      obtain ⟨gl, cl, hvl5, _, hglz, _, hcl⟩ := own_form HL5.out (by omega)
      injection hvl5 with hla _ hlc
      subst hla
      subst hlc
      obtain ⟨a, ha⟩ : ∃ a, l[k]? = some a := ⟨_, List.getElem?_eq_getElem hkl⟩
      have hak := keepc hbw hglz k (hcl k _ (show (Sh.iv64 l)[k]? = some (.int .i64 (a : Int)) by unfold Sh.iv64; rw [List.getElem?_map, ha]; rfl))
      have haK := Hlt.out a (List.mem_of_getElem? ha)
      obtain ⟨u, hu⟩ : ∃ u, vs[a]? = some u := ⟨_, List.getElem?_eq_getElem (by omega)⟩
      have hcu := own_cells hov a u hu
      have hfz := own_frozen hov a
      have hg6r := (hov.lt g6 rfl).2
      have HOv := hide hov
      have HSl := hide hsl
      have HKp := hide hkeep
      have HA := hide ha
      clear hl5 hcl hu hov hsl hkeep ha
      go_wp2
      refine ⟨⟨k + 1, vs.set a (.slice (some ⟨wr.heap.size, 0, none⟩) s.size (grownCap wr s.size 0 5)), by omega, by go_num, (own_setc HOv.out).alloc _, ?_, ?_, ((hbw.setCell (by simp; omega) _).alloc (by simp [World.setCell]; omega) _).drew⟩, by simp only [intOf]; omega⟩
      · intro u hu
        rcases List.mem_or_eq_of_mem_set hu with hu | rfl
        · exact HSl.out u hu
        · exact ⟨_, _, _, rfl⟩
      · intro j hj
        rw [List.take_add_one, HA.out, Option.toList_some, List.mem_append, List.mem_singleton] at hj
        rw [List.getElem?_set_ne (fun e => hj (Or.inr e.symm))]
        exact HKp.out j (fun h => hj (Or.inl h))
    · have hkk : k = l.length := by omega
      rw [hkk, List.take_length] at hkeep
      have hb4r : Below w4.heap.size w4 wr := hb5.trans (hbw.mono hs5)
      have hO := Hown4.out.below hb4r
      have hcs := HCS4.out.below hb4r
      obtain ⟨p0, g0, o0, z0, v0, cnt, hblk⟩ := hcs.blk
      have hpat := HPat.out wr hbw (blk_cell hblk rfl) (blk_cell hblk rfl) (blk_cell hblk rfl) (blk_cell hblk rfl) (blk_cell hblk rfl)
      have hn0 := Hn.out
      subst hn0
      have hbrk : Sh.Brk wr w5.heap.size (.slice (some ⟨g6, 0, none⟩) (K + M) cap6) (Sh.R kind N * size) q vs (ps ++ qs) (X ++ Sh.parB kind K M N gd size X) := by
        refine ⟨by rw [hvl]; exact hov, by rw [Hall.out, hvl], by rw [HZl.out, hvl], hsl, ?_⟩
        intro j p x hj hp hx
        have hjl : j ∉ l := fun h => by rw [(Hqb.out j).2 h] at hj; cases hj
        exact ⟨by rw [hkeep j hjl]; exact Sh.sv_get hp, Sh.One.of (own_dat hO) hp hx⟩
      have HRec := hide (reconstruct_ok cb kind K M N gd 3 8 16 2 size q _ _ _ vs (ps ++ qs) X wr HOk.out HPb.out HDf.out hq20 hqM hq1 (by decide) (by decide) (by decide) hsize1 (by omega) hcs HXl.out HbX.out Hlx.out hbrk hvl (fun j p _ hp => own_ne_cb hO hcbz p (List.mem_of_getElem? hp)) hpat)
      have HOr := hide hO
      clear hov hsl hkeep hO hcs hblk hpat hbrk
      go_wp2_with fail
      refine HRec.out.mono ?_
      rintro e w7 ⟨v7, rs, rfl, hrl, hown7, hg7⟩
      have hs7 := hg7.size
      have HSm := hide (same_ok (K + M) (Sh.R kind N * size) v7 _ _ _ rs (ps ++ qs) _ w7 (by omega) (by omega) (own_dat hown7) (own_dat (HOr.out.grown hg7 hcbz)) hrl Hall.out)
      clear hown7
      go_wp2_with fail
      refine HSm.out.mono ?_
      rintro e w8 ⟨rfl, qd, rfl⟩
      have hlow7 : Below w.heap.size w w7 := (hlow4.trans (hb4r.mono (by omega))).trans ⟨hg7.os, hg7.tape, hg7.output, hg7.size, fun i hi => hg7.block i (by omega) (by intro e; injection e; omega)⟩
      go_wp2
      go_ret
      exact ⟨rfl, hlow7.trans ((below_drewN w7 qd).mono (by omega))⟩
theorem backT_any (c b : Int) (s : ByteArray) (w : World) (hc : -9223372036854775808 ≤ c ∧ c ≤ 9223372036854775807) (hb : -9223372036854775808 ≤ b ∧ b ≤ 9223372036854775807) (hs : s.size ≤ maxLen) : Calls Try.prog 4 #[.int .i64 c, .int .i64 b, .string s] w fun e w' => e = .returned (.bool true) ∧ Below w.heap.size w w' := by
  go_enter Try.func4, Try.ntmps4
  go_wp2_with fail
  refine (some_any s _ hs).mono ?_
  rintro e w1 ⟨t, rfl, ht, rfl⟩
  go_wp2_with fail
  refine (back_any c b t _ hc.1 hb.1 ht).mono ?_
  rintro e w2 ⟨rfl, hb⟩
  go_wp2
  go_ret
  exact ⟨rfl, hb⟩
end Go.Proofs.Ythhbpofcemoflab
