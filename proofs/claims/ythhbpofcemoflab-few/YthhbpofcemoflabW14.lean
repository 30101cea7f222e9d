import Derived.Test.YthhbpofcemoflabW13b
import Derived.Test.YthhbpofcemoflabGi
import Derived.Test.YthhbpofcemoflabGb
import Derived.Deep.RegionHeld3
import Derived.Deep.RegionLaw
namespace Go.Proofs.Ythhbpofcemoflab
open Go.RowKit
set_option maxRecDepth 20000
theorem Try.infoSl : (Try.prog.info? 33).map (fun i => (i.zero, i.size, i.bytes)) = some (some (.slice none 0 0), 1, 24) := by kernel_rfl
theorem Try.infoU8 : (Try.prog.info? 5).map (fun i => (i.zero, i.size, i.bytes)) = some (some (.int .u8 0), 1, 1) := by kernel_rfl
theorem slices_one (l : List (Nat × Nat × Nat)) (size : Nat) : ∀ u ∈ l.map (fun p => Value.slice (some ⟨p.1, p.2.1, none⟩) size p.2.2), u.oneCell' = true := by
  intro u hu
  simp only [List.mem_map] at hu
  obtain ⟨x, _, rfl⟩ := hu
  rfl

set_option maxHeartbeats 2000000 in
theorem run_any (G O Bz size blk : Nat) (vo vg : Value) (bo bg : Nat) (ops : List (Int × Int × Int)) (gp : List (Nat × Nat × Nat)) (D : List (List Int)) (w : World)
    (hG : 1 ≤ G) (hG' : G ≤ 48) (hO1 : 1 ≤ O) (hO : O ≤ 40) (hB : Bz ≤ 16) (hs1 : 1 ≤ size) (hs : size ≤ 48) (hb1 : 1 ≤ blk) (hb2 : blk ≤ 64)
    (hops : ∀ o ∈ ops, Sh.OpOk G (G + O + Bz) o) (hn1 : 1 ≤ ops.length) (hn : ops.length ≤ 2048)
    (ho : w.ownsRow bo 98 3 vo ops.length (Sh.opCells ops))
    (hg : w.ownsRow bg 33 1 vg G (gp.map fun p => Value.slice (some ⟨p.1, p.2.1, none⟩) size p.2.2)) (hgl : gp.length = G) (hD : D.length = G)
    (hlt : ∀ p ∈ gp, p.1 < w.heap.size) (hDl : ∀ (r : Nat) (x : List Int), D[r]? = some x → x.length = size)
    (hby : ∀ (r : Nat) (p : Nat × Nat × Nat) (x : List Int), gp[r]? = some p → D[r]? = some x → ∀ (i : Nat) (b : Int), x[i]? = some b → w.cell? ⟨p.1, p.2.1 + i, none⟩ = some (.int .u8 b)) :
    Calls Try.prog 53 #[.agg #[.int .i64 G, .int .i64 O, .int .i64 Bz, vo], vg, .int .i64 size, .int .i64 blk] w
      fun e w' => ∃ (v : Value) (bs : List Nat), e = .returned v ∧ w'.ownsRow w.heap.size 33 1 v O (bs.map fun b => Value.slice (some ⟨b, 0, none⟩) size size) ∧ bs.length = O ∧ bs.Nodup ∧
        (∀ (j b : Nat), bs[j]? = some b → w.heap.size ≤ b ∧ w'.heap[b]? = some (.cells ((Sh.regAt ops D G size size size 0 j).map (Value.int .u8)).toArray 5 (0, 0))) ∧ Below w.heap.size w w' := by
  obtain ⟨i0, hi, hz0, hz1, hz2⟩ := info_parts Try.infoSl
  obtain ⟨go, co, rfl, _, hgo⟩ := own_form3 ho hn1
  obtain ⟨gg, cg, rfl, _, hgg, hcg, hgcells⟩ := own_form hg hG
  obtain ⟨w0, hw0⟩ : ∃ w0 : World, w0 = w.alloc (.cells #[.int .i64 G, .int .i64 O, .int .i64 Bz, .slice (some ⟨go, 0, none⟩) ops.length co] 49) := ⟨_, rfl⟩
  have hlow0 : Below w.heap.size w w0 := by rw [hw0]; exact (Below.refl _ _).alloc (Nat.le_refl _) _
  have hsz0 : w0.heap.size = w.heap.size + 1 := by rw [hw0]; simp
  have hpb : w0.heap[w.heap.size]? = some (.cells #[.int .i64 G, .int .i64 O, .int .i64 Bz, .slice (some ⟨go, 0, none⟩) ops.length co] 49 (0, 0)) := by rw [hw0]; exact heap_alloc_new w _
  replace hg := own_below hg hlow0
  replace ho := own_below ho hlow0
  replace hby : ∀ (r : Nat) (p : Nat × Nat × Nat) (x : List Int), gp[r]? = some p → D[r]? = some x → ∀ (i : Nat) (b : Int), x[i]? = some b → w0.cell? ⟨p.1, p.2.1 + i, none⟩ = some (.int .u8 b) := fun r p x hp hx i b hb => (hlow0.cell (p := ⟨p.1, p.2.1 + i, none⟩) (hlt p (List.mem_of_getElem? hp))).trans (hby r p x hp hx i b hb)
  replace hlt : ∀ p ∈ gp, p.1 < w0.heap.size := fun p hp => by have := hlt p hp; omega
  replace hgo : go < w0.heap.size := by omega
  replace hgg : gg < w0.heap.size := by omega
  have HGC := hide (hg.cells (g := gg) rfl)
  have HGL : Hid ((gp.map fun p => Value.slice (some ⟨p.1, p.2.1, none⟩) size p.2.2).length = G * 1) := by show _ = _; simp [hgl]
  have HOps := hide (hops)
  have HBy := hide (hby)
  have HDl := hide (hDl)
  have HD := hide (hD)
  have Hlt := hide (hlt)
  have Hgl := hide (hgl)
  have HOwn := hide (ho)
  clear hgcells hops hby hDl hD hlt hgl hg ho
  generalize hL : ops.length = L at *
  have HL : Hid (ops.length = L) := hL
  clear hL
  generalize hgv : (gp.map fun p => Value.slice (some ⟨p.1, p.2.1, none⟩) size p.2.2) = gv at *
  have HGV := hide (hgv)
  clear hgv
  have hq0 : w0.cell? ⟨w.heap.size, 0, none⟩ = some (.int .i64 G) := blk_cell hpb rfl
  have hq1 : w0.cell? ⟨w.heap.size, 1, none⟩ = some (.int .i64 O) := blk_cell hpb rfl
  have hq2 : w0.cell? ⟨w.heap.size, 2, none⟩ = some (.int .i64 Bz) := blk_cell hpb rfl
  have hq3 : w0.cell? ⟨w.heap.size, 3, none⟩ = some (.slice (some ⟨go, 0, none⟩) L co) := blk_cell hpb rfl
  have hwz0 : w.heap.size < w0.heap.size := by omega
  clear hsz0
  have d1 : decide ((size : Int) < 0) = false := by simp
  have d2 : decide (48 < (size : Int)) = false := by simp; omega
  have d3 : decide ((O : Int) < 0) = false := by simp
  have d4 : decide (40 < (O : Int)) = false := by simp; omega
  have d5 : decide ((Bz : Int) < 0) = false := by simp
  have d6 : decide (16 < (Bz : Int)) = false := by simp; omega
  have d7 : decide ((blk : Int) < 1) = false := by simp; omega
  go_enter Try.func53, Try.ntmps53
  go_wp2_with fail
  refine (bounded_ok G O Bz _ L co _ hG' hO hB hn).mono ?_
  rintro e w1 ⟨rfl, rfl⟩
  rw [← hw0]
  clear hw0
  go_wp2_with (at_builtin; go_must (refine wpList_append_lies _ rfl (.tmp 40) (.tmp 41) 32 rfl (w0.heap.size + 2) 33 i0 (.slice none 0 0) 1 24 Try.underlying32 hi hz0 hz1 hz2 rfl (by decide) (.slice none 0 0) 0 [] rfl (World.ownsRow_nil _ _ _ _) ⟨gg, 0, none⟩ G cg gv rfl HGL.out (fun j u hu => cell_later (((Below.refl _ _).alloc (Nat.le_refl _) _).alloc (by simp) _) (HGC.out j u hu)) (by rw [← HGV.out]; exact slices_one _ _) (by omega) (by unfold maxLen; omega) (by omega) (by simp) (w0.heap.size + 2) (by simp) ?_); intro g cap w1 hown1 hgrow1 hat1 hlt1; go_must (have hm := (hgrow1.block (w0.heap.size + 1) (by simp) (by intro h; cases h)).trans (heap_new2 w0 _ _)); go_must (have hp := (hgrow1.block w0.heap.size (by simp; omega) (by intro h; cases h)).trans (heap_new1 w0 _ _)); have hm1 := blk_cell (j := 1) hm rfl; have hmf := blk_frozen hm 1; go_must (have hx := (hgrow1.block w.heap.size (by simp; omega) (by intro h; cases h)).trans ((Below.heap_alloc _ _ _ (by simp; omega)).trans ((Below.heap_alloc _ _ _ hwz0).trans hpb))); have hp0 := blk_cell (j := 0) hx rfl; have hp1 := blk_cell (j := 1) hx rfl; have hp2 := blk_cell (j := 2) hx rfl; have hp3 := blk_cell (j := 3) hx rfl; have hw1 := blk_lt hm)
  have hg0 : g = w0.heap.size + 2 := by
    rcases hat1 with h | h
    · cases h
    · exact h
  have hRS0 : Sh.RS w0 (w1.setCell ⟨w0.heap.size + 1, 1, none⟩ (.slice (some ⟨g, 0, none⟩) G cap)) g cap G size 49 100 33 5 #[.int .i64 G, .int .i64 O, .int .i64 Bz, .slice (some ⟨go, 0, none⟩) L co] gv [] [] := by
    refine ⟨?_, ?_, ?_, by intro j b x hb; simp at hb, rfl, by simp, ?_⟩
    · rw [Below.heap_setCell _ _ _ _ (by simp)]; exact hp
    · simpa using blk_set (j := 1) (u := .slice (some ⟨g, 0, none⟩) G cap) hm
    · have := ownsRow_setCell_below hown1 (a := ⟨w0.heap.size + 1, 1, none⟩) (by simp) (.slice (some ⟨g, 0, none⟩) G cap)
      simpa using this
    · refine (((((Below.refl w0.heap.size w0).alloc (Nat.le_refl _) _).alloc (by simp) _).grown hgrow1 (by simp; omega) ?_)).setCell (by simp) _
      intro k hk
      cases hk
  clear hm hp hx hm1 hmf hp0 hp1 hp2 hp3 hw1 hown1 hgrow1 hat1 hlt1
  have HRS0 := hide hRS0
  clear hRS0
  have hmk := run_make_row' (P := Try.prog) 33 5 (.int .u8 0) 1 Try.underlying33 Try.infoU8 rfl .i64 .i64 size (by omega) (by omega)
  go_loopw [49] (fun i' wr => ∃ (k gr cap : Nat) (bs : List Nat), k ≤ O + Bz ∧ i' = .int .i64 k ∧ bs.length = k ∧ Sh.RS w0 wr gr cap G size 49 100 33 5 #[.int .i64 G, .int .i64 O, .int .i64 Bz, .slice (some ⟨go, 0, none⟩) L co] gv bs (List.replicate k (List.replicate size 0))) (fun i _ => O + Bz - (intOf i).toNat)
  case atStart => exact ⟨0, g, cap, [], Nat.zero_le _, rfl, rfl, HRS0.out⟩
  case round =>
    clear HRS0 hg0
    obtain ⟨k, gr, cp, bs, hk, rfl, hbl, hrs⟩ := hrel
    by_cases hlt : k < O + Bz
    · have hm := hrs.mbox
      rw [hbl] at hm
      have hm1 := blk_cell (j := 1) hm rfl
      have hmf := blk_frozen hm 1
      have hmz := blk_lt hm
      have hreg := hrs.regs
      rw [hbl] at hreg
      have hwz : w0.heap.size < wr.heap.size := by omega
      have hgrl : w0.heap.size + 2 ≤ gr := (hreg.lt gr rfl).1
      have hgru : gr < wr.heap.size := (hreg.lt gr rfl).2
      have HRG := hide hreg
      have Hbl := hide hbl
      have Hm := hide hm
      clear hm hreg hbl
      go_wp2
      go_region_law ((refine step_append_lies _ (by rfl) (.tmp 52) (.tmp 55) 32 (by rfl) (w0.heap.size + 2) 33 i0 (.slice none 0 0) 1 24 Try.underlying32 hi hz0 hz1 hz2 (by rfl) (by decide) (.slice (some ⟨gr, 0, none⟩) (G + k) cp) (G + k) _ (by rfl) (by exact (HRG.out.alloc _).alloc _) ⟨wr.heap.size + 1, 0, none⟩ 1 1 [.slice (some ⟨wr.heap.size, 0, none⟩) size size] (by rfl) (by rfl) (by exact World.news_of_block (cs := #[.slice (some ⟨wr.heap.size, 0, none⟩) size size]) (t := 33) (fr := (0, 0)) (heap_new2 wr _ _)) (by intro u hu; simp at hu; subst hu; rfl) (by omega) (by unfold maxLen; omega) (by omega) (by simp; omega) (wr.heap.size + 2) (by simp) ?_; intro g2 cap2 w2 hown2 hgrow2 hat2 hlt2; have hm2 := (hgrow2.block (w0.heap.size + 1) (by simp; omega) (by intro h; injection h with h; simp at h; omega)).trans (((Below.heap_alloc _ _ _ (by simp; omega)).trans (Below.heap_alloc _ _ _ hmz)).trans Hm.out); have hm21 := blk_cell (j := 1) hm2 rfl; have hm2f := blk_frozen hm2 1))
      all_goals
        go_wp2
        go_roundw
        case rel =>
          refine ⟨k + 1, g2, cap2, bs ++ [wr.heap.size], by omega, by go_num, by simp [Hbl.out], ?_⟩
          have hr2 := hrs.made (g' := g2) (cap' := cap2) (w' := w2) (by decide) (.cells #[.slice (some ⟨wr.heap.size, 0, none⟩) size size] 33) (by rw [Hbl.out]; exact hown2) (by rw [← made_zero]; exact ⟨hgrow2.os, hgrow2.tape, hgrow2.output, hgrow2.size, hgrow2.block⟩) hgru
          rw [Hbl.out] at hr2
          rw [List.replicate_succ']
          exact hr2
        case measure => simp [intOf]; omega
    · have hkd : k = O + Bz := by omega
      have hrs1 : Sh.RS w0 wr gr cp G size 49 100 33 5 #[.int .i64 G, .int .i64 O, .int .i64 Bz, .slice (some ⟨go, 0, none⟩) L co] gv bs (Sh.xsAt ops D G size 0 0 0 (O + Bz)) := by rw [← Sh.xsAt_start HD.out, ← hkd]; exact hrs
      have HRS1 := hide hrs1
      have Hbl := hide hbl
      have HCO := hide (own_cells HOwn.out)
      clear hkd hrs hrs1 hbl hmk
      go_wp2
      go_loopw [10] (fun s' wr => ∃ s : Nat, s ≤ size ∧ s' = .int .i64 s ∧ Sh.RS w0 wr gr cp G size 49 100 33 5 #[.int .i64 G, .int .i64 O, .int .i64 Bz, .slice (some ⟨go, 0, none⟩) L co] gv bs (Sh.xsAt ops D G size s s 0 (O + Bz))) (fun i _ => size - (intOf i).toNat)
      case atStart => exact ⟨0, Nat.zero_le _, rfl, HRS1.out⟩
      case round =>
        clear HRS1
        obtain ⟨s, hss, rfl, hr⟩ := hrel
        have hp3 := (hr.low.cell (p := ⟨w.heap.size, 3, none⟩) hwz0).trans hq3
        have hp1 := (hr.low.cell (p := ⟨w.heap.size, 1, none⟩) hwz0).trans hq1
        by_cases hls : s < size
        · have d8 : decide (s < size) = true := by simp; omega
          by_cases hc : (size : Int) - s < blk
          · have hr0 : Sh.RS w0 wr gr cp G size 49 100 33 5 #[.int .i64 G, .int .i64 O, .int .i64 Bz, .slice (some ⟨go, 0, none⟩) L co] gv bs (Sh.xsAt ops D G size s size 0 (O + Bz)) := by rw [Sh.xsAt_any HD.out (f' := s)]; exact hr
            have HR0 := hide hr0
            clear hr hr0
            have d9 : decide ((size : Int) - (s : Int) < (blk : Int)) = true := by simp; omega
            go_wp2
            go_loopw [74] (fun i' wr => ∃ k : Nat, k ≤ L ∧ i' = .int .i64 k ∧ Sh.RS w0 wr gr cp G size 49 100 33 5 #[.int .i64 G, .int .i64 O, .int .i64 Bz, .slice (some ⟨go, 0, none⟩) L co] gv bs (Sh.xsAt ops D G size s size k (O + Bz))) (fun i _ => L - (intOf i).toNat)
            case atStart => exact ⟨0, Nat.zero_le _, rfl, HR0.out⟩
            case round =>
              clear HR0 hp3 hp1
              obtain ⟨q, hq, rfl, hr⟩ := hrel
              by_cases hlq : q < L
              · obtain ⟨o, hoq⟩ : ∃ o, ops[q]? = some o := ⟨_, List.getElem?_eq_getElem (by rw [HL.out]; exact hlq)⟩
                have hoc := Sh.opCells_get hoq
                have hq0 : wr.cell? ⟨go, q * 3, none⟩ = some (.int .i64 o.1) := (hr.low.cell (p := ⟨go, q * 3, none⟩) hgo).trans (HCO.out (q * 3) _ hoc.1)
                have hq1 : wr.cell? ⟨go, q * 3 + 1, none⟩ = some (.int .i64 o.2.1) := (hr.low.cell (p := ⟨go, q * 3 + 1, none⟩) hgo).trans (HCO.out (q * 3 + 1) _ hoc.2.1)
                have hq2 : wr.cell? ⟨go, q * 3 + 2, none⟩ = some (.int .i64 o.2.2) := (hr.low.cell (p := ⟨go, q * 3 + 2, none⟩) hgo).trans (HCO.out (q * 3 + 2) _ hoc.2.2)
                have Hoq := hide hoq
                clear hoc hoq
                have HDO := hide (fun (fI : Int) (hfI : fI = (size : Int)) => do_rs (o := o) (hr.alloc (.cells #[.int .i64 o.1, .int .i64 o.2.1, .int .i64 o.2.2] 98)) hG hs (by omega : s ≤ size) (by omega) hfI (by have := HOps.out; simpa [Nat.add_assoc] using this) Hoq.out HGV.out Hgl.out HD.out Hlt.out HDl.out HBy.out)
                go_wp2_with (go_at_call 64; refine (HDO.out _ (by omega)).mono ?_; rintro e w2 ⟨rfl, hr2⟩)
                go_roundw
                case rel => exact ⟨q + 1, by omega, by go_num, hr2⟩
                case measure => simp [intOf]; omega
              · have hqL : q = L := by omega
                subst hqL
                go_wp2
                go_roundw
                case rel => exact ⟨size, by omega, by go_num, by rw [← Sh.xsAt_next (s := s) HD.out (by omega), HL.out]; exact hr⟩
                case measure => simp [intOf]; omega
          · have hr0 : Sh.RS w0 wr gr cp G size 49 100 33 5 #[.int .i64 G, .int .i64 O, .int .i64 Bz, .slice (some ⟨go, 0, none⟩) L co] gv bs (Sh.xsAt ops D G size s (s + blk) 0 (O + Bz)) := by rw [Sh.xsAt_any HD.out (f' := s)]; exact hr
            have HR0 := hide hr0
            clear hr hr0
            have d9 : decide ((size : Int) - (s : Int) < (blk : Int)) = false := by simp; omega
            go_wp2
            go_loopw [74] (fun i' wr => ∃ k : Nat, k ≤ L ∧ i' = .int .i64 k ∧ Sh.RS w0 wr gr cp G size 49 100 33 5 #[.int .i64 G, .int .i64 O, .int .i64 Bz, .slice (some ⟨go, 0, none⟩) L co] gv bs (Sh.xsAt ops D G size s (s + blk) k (O + Bz))) (fun i _ => L - (intOf i).toNat)
            case atStart => exact ⟨0, Nat.zero_le _, rfl, HR0.out⟩
            case round =>
              clear HR0 hp3 hp1
              obtain ⟨q, hq, rfl, hr⟩ := hrel
              by_cases hlq : q < L
              · obtain ⟨o, hoq⟩ : ∃ o, ops[q]? = some o := ⟨_, List.getElem?_eq_getElem (by rw [HL.out]; exact hlq)⟩
                have hoc := Sh.opCells_get hoq
                have hq0 : wr.cell? ⟨go, q * 3, none⟩ = some (.int .i64 o.1) := (hr.low.cell (p := ⟨go, q * 3, none⟩) hgo).trans (HCO.out (q * 3) _ hoc.1)
                have hq1 : wr.cell? ⟨go, q * 3 + 1, none⟩ = some (.int .i64 o.2.1) := (hr.low.cell (p := ⟨go, q * 3 + 1, none⟩) hgo).trans (HCO.out (q * 3 + 1) _ hoc.2.1)
                have hq2 : wr.cell? ⟨go, q * 3 + 2, none⟩ = some (.int .i64 o.2.2) := (hr.low.cell (p := ⟨go, q * 3 + 2, none⟩) hgo).trans (HCO.out (q * 3 + 2) _ hoc.2.2)
                have Hoq := hide hoq
                clear hoc hoq
                have HDO := hide (fun (fI : Int) (hfI : fI = (((s + blk) : Nat) : Int)) => do_rs (o := o) (hr.alloc (.cells #[.int .i64 o.1, .int .i64 o.2.1, .int .i64 o.2.2] 98)) hG hs (by omega : s ≤ (s + blk)) (by omega) hfI (by have := HOps.out; simpa [Nat.add_assoc] using this) Hoq.out HGV.out Hgl.out HD.out Hlt.out HDl.out HBy.out)
                go_wp2_with (go_at_call 64; refine (HDO.out _ (by omega)).mono ?_; rintro e w2 ⟨rfl, hr2⟩)
                go_roundw
                case rel => exact ⟨q + 1, by omega, by go_num, hr2⟩
                case measure => simp [intOf]; omega
              · have hqL : q = L := by omega
                subst hqL
                go_wp2
                go_roundw
                case rel => exact ⟨(s + blk), by omega, by go_num, by rw [← Sh.xsAt_next (s := s) HD.out (by omega), HL.out]; exact hr⟩
                case measure => simp [intOf]; omega
        · have hsz : s = size := by omega
          subst hsz
          clear hp3
          rename World => wz
          have hpz := blk_lt hr.pbox
          have hpz0 : w.heap.size < wz.heap.size := by omega
          have HR := hide hr
          have hblen : bs.length = O + Bz := by rw [← hr.lens, Sh.xsAt_len]
          have hmb := hr.mbox
          rw [hblen] at hmb
          have Hmb := hide hmb
          have HBL := hide hblen
          have hgvl : gv.length = G := by have := HGL.out; omega
          have HGVL := hide hgvl
          have hmz := blk_lt hr.mbox
          have hgz := (hr.regs.lt gr rfl).2
          clear hr hblen hmb hgvl
          go_wp2
          go_loopw [14, 15, 91] (fun v _ i' wq => ∃ k : Nat, k ≤ O ∧ i' = .int .i64 k ∧ wq.ownsRow wz.heap.size 33 1 v k ((bs.take k).map (fun b => Value.slice (some ⟨b, 0, none⟩) s s)) ∧ Below wz.heap.size wz wq) (fun _ _ i _ => O - (intOf i).toNat)
          case atStart => exact ⟨0, Nat.zero_le _, rfl, own_empty rfl (Nat.le_refl _), (Below.refl _ _).alloc (Nat.le_refl _) _⟩
          case round =>
            obtain ⟨k, hk, rfl, hown, hbl⟩ := hrel
            have hsw := hbl.size
            by_cases hlk : k < O
            · have hkb : k < bs.length := by rw [HBL.out]; omega
              have hm1 : wr.cell? ⟨w0.heap.size + 1, 1, none⟩ = some (.slice (some ⟨gr, 0, none⟩) (G + (O + Bz)) cp) := (hbl.cell (p := ⟨w0.heap.size + 1, 1, none⟩) hmz).trans (blk_cell Hmb.out rfl)
              have hrk : wr.cell? ⟨gr, G + k, none⟩ = some (.slice (some ⟨bs[k], 0, none⟩) s s) := (hbl.cell (p := ⟨gr, G + k, none⟩) hgz).trans (HR.out.reg hG (G + k) _ (by rw [List.getElem?_append_right (by rw [HGVL.out]; omega), HGVL.out, List.getElem?_map, Nat.add_sub_cancel_left, List.getElem?_eq_getElem hkb]; rfl))
              have HS := hide (List.take_succ_eq_append_getElem hkb)
              generalize hbk : bs[k] = bk at *
              clear hbk
              go_wp2_with (at_builtin; refine append1x _ rfl (.tmp 94) (.tmp 103) 32 rfl wz.heap.size 33 i0 (.slice none 0 0) 1 24 Try.underlying32 hi hz0 hz1 hz2 rfl (by decide) (by decide) _ _ _ _ rfl hown rfl rfl (by simp; rfl) (by omega) (by omega) ?_; intro v' w3 hown3 hb3 hg3 hf3)
              go_roundw
              case rel => exact ⟨k + 1, by omega, by go_num, by rw [HS.out, List.map_append]; exact hown3, hbl.trans hb3⟩
              case measure => simp [intOf]; omega
            · have hkO : k = O := by omega
              subst hkO
              go_wp2
              go_ret
              refine ⟨_, bs.take k, rfl, own_mono hown (by omega), by rw [List.length_take, HBL.out]; omega, HR.out.nodup.sublist (List.take_sublist _ _), ?_, (hlow0.trans ((HR.out.low.trans (hbl.mono HR.out.low.size)).mono (by omega)))⟩
              intro j b hj
              rw [List.getElem?_take] at hj
              split at hj
              · next hjk =>
                obtain ⟨h1, h2⟩ := HR.out.outs j b _ hj (Sh.xsAt_get (by omega))
                exact ⟨by omega, (hbl.block b (blk_lt h2)).trans h2⟩
              · cases hj
end Go.Proofs.Ythhbpofcemoflab
