import Derived.Test.YthhbpofcemoflabQ3
import Derived.Test.YthhbpofcemoflabGi
import Derived.Test.YthhbpofcemoflabQ7
namespace Go.Proofs.Ythhbpofcemoflab
open Go.RowKit
set_option maxRecDepth 20000
theorem Sh.xr_take {ops : List (Int × Int × Int)} {k : Nat} {o : Int × Int × Int} (h : ops[k]? = some o) : Sh.xr (ops.take (k + 1)) = Sh.xr (ops.take k) + if o.1 = 2 then 1 else 0 := by
  obtain ⟨h1, h2⟩ := List.getElem?_eq_some_iff.1 h
  rw [List.take_succ_eq_append_getElem h1, h2, Sh.xr_append]
  congr 1
  unfold Sh.xr
  by_cases c : o.1 = 2
  · rw [if_pos c, List.filter_cons_of_pos (by simp [c])]; rfl
  · rw [if_neg c, List.filter_cons_of_neg (by simp [c])]; rfl
theorem Sh.xr_le (ops : List (Int × Int × Int)) : Sh.xr ops ≤ ops.length := List.length_filter_le _ _

set_option maxHeartbeats 1000000 in
theorem xorsP_ok (G O B : Int) (vo : Value) (base : Nat) (ops : List (Int × Int × Int)) (w : World) (hp : 1 ≤ ops.length) (hl : ops.length ≤ 2048) (hv : w.ownsRow base 98 3 vo ops.length (Sh.opCells ops)) :
    Calls Try.prog 65 #[.agg #[.int .i64 G, .int .i64 O, .int .i64 B, vo]] w fun e w' => e = .returned (.int .i64 (Sh.xr ops : Int)) ∧ Below w.heap.size w w' := by
  obtain ⟨g, cap, rfl, _, hgw⟩ := own_form3 hv hp
  have HC := hide (fun (k : Nat) (o : Int × Int × Int) (ho : ops[k]? = some o) => (⟨own_cells hv _ _ (Sh.opCells_get ho).1, own_cells hv _ _ (Sh.opCells_get ho).2.1, own_cells hv _ _ (Sh.opCells_get ho).2.2⟩ : w.cell? ⟨g, k * 3, none⟩ = some (.int .i64 o.1) ∧ w.cell? ⟨g, k * 3 + 1, none⟩ = some (.int .i64 o.2.1) ∧ w.cell? ⟨g, k * 3 + 2, none⟩ = some (.int .i64 o.2.2)))
  have HT := hide (fun (k : Nat) (o : Int × Int × Int) (ho : ops[k]? = some o) => Sh.xr_take ho)
  have HLe := hide (fun k => (Nat.le_trans (Sh.xr_le (ops.take k)) (by rw [List.length_take]; omega) : Sh.xr (ops.take k) ≤ 2048))
  have HAll : Hid (Sh.xr (ops.take ops.length) = Sh.xr ops) := by show _ = _; rw [List.take_length]
  rw [← HAll.out]
  clear hv HAll
  generalize hL : ops.length = L at *
  have HL := hide hL
  clear hL
  obtain ⟨X, hX⟩ : ∃ X : Nat → Nat, X = fun k => Sh.xr (ops.take k) := ⟨_, rfl⟩
  have hXk : ∀ k, Sh.xr (ops.take k) = X k := fun k => by rw [hX]
  have HT2 : Hid (∀ (k : Nat) (o : Int × Int × Int), ops[k]? = some o → X (k + 1) = X k + if o.1 = 2 then 1 else 0) := fun k o ho => by rw [← hXk, ← hXk]; exact HT.out k o ho
  have HLe2 : Hid (∀ k, X k ≤ 2048) := fun k => by rw [← hXk]; exact HLe.out k
  have HX0 : Hid (X 0 = 0) := by show _ = _; rw [← hXk]; rfl
  rw [hXk]
  clear hXk hX HT HLe
  obtain ⟨W0, hW0⟩ : ∃ W0 : World, W0 = w.alloc (.cells #[.int .i64 G, .int .i64 O, .int .i64 B, .slice (some ⟨g, 0, none⟩) L cap] 49) := ⟨_, rfl⟩
  have hlow0 : Below w.heap.size w W0 := by rw [hW0]; exact (Below.refl _ _).alloc (Nat.le_refl _) _
  have hnew : W0.heap[w.heap.size]? = some (.cells #[.int .i64 G, .int .i64 O, .int .i64 B, .slice (some ⟨g, 0, none⟩) L cap] 49 (0, 0)) := by rw [hW0]; exact heap_alloc_new w _
  have c3 : W0.cell? ⟨w.heap.size, 3, none⟩ = some (.slice (some ⟨g, 0, none⟩) L cap) := blk_cell (j := 3) hnew rfl
  have HW0 := hide hW0
  have Hlow0 := hide hlow0
  have hz0 := blk_lt hnew
  clear hnew hW0 hlow0
  go_enter Try.func65, Try.ntmps65
  go_wp2_with fail
  rw [← HW0.out]
  go_wp2
  go_loopw [3, 5, 9] (fun c _ i wr => ∃ k : Nat, k ≤ L ∧ i = .int .i64 k ∧ c = .int .i64 (X k : Int) ∧ Below w.heap.size w wr) (fun _ _ i _ => L - (intOf i).toNat)
  case atStart => exact ⟨0, Nat.zero_le _, rfl, val_int (by rw [HX0.out]; rfl), Hlow0.out⟩
  case round =>
    obtain ⟨k, hk, rfl, rfl, hlow⟩ := hrel
    by_cases hlt : k < L
    · obtain ⟨o, ho⟩ : ∃ o, ops[k]? = some o := ⟨_, List.getElem?_eq_getElem (by rw [HL.out]; exact hlt)⟩
      obtain ⟨d0, d1, d2⟩ := HC.out k o ho
      have e0 := keepc hlow hgw _ d0
      have e1 := keepc hlow hgw _ d1
      have e2 := keepc hlow hgw _ d2
      have hst := HT2.out k o ho
      have hle := HLe2.out k
      have hsz := hlow.size
      have hgz : g < wr.heap.size := by omega
      have Hst := hide hst
      clear d0 d1 d2 ho hst
      by_cases h2 : o.1 = 2
      · have hb : (o.1 == 2) = true := beq_iff_eq.2 h2
        have He : Hid (X (k + 1) = X k + 1) := by show _ = _; rw [Hst.out, if_pos h2]
        clear h2
        go_wp2
        go_roundw
        case rel => exact ⟨k + 1, by omega, by go_num, val_int (by rw [He.out]; omega), hlow.alloc hsz _⟩
        case measure => simp [intOf]; omega
      · have hb : (o.1 == 2) = false := beq_eq_false_iff_ne.2 h2
        have He : Hid (X (k + 1) = X k) := by show _ = _; rw [Hst.out, if_neg h2]; rfl
        clear h2
        go_wp2
        go_roundw
        case rel => exact ⟨k + 1, by omega, by go_num, val_int (by rw [He.out]), hlow.alloc hsz _⟩
        case measure => simp [intOf]; omega
    · have hkd : k = L := by omega
      subst hkd
      go_wp2
      go_ret
      exact ⟨rfl, hlow⟩
end Go.Proofs.Ythhbpofcemoflab
namespace Go.Proofs.Ythhbpofcemoflab
open Go.RowKit
set_option maxRecDepth 20000
/-- the better of two programs -/
def Sh.bst (G : Nat) (S : List Nat) (R : Nat) : Nat × List (Int × Int × Int) := if Sh.xr (Sh.parO G S R) < Sh.xr (Sh.dif G S) then ((Sh.parN G S R).1, Sh.parO G S R) else (0, Sh.dif G S)

set_option maxHeartbeats 2000000 in
theorem best2_ok (G : Nat) (v : Value) (base : Nat) (S : List Nat) (scr : Int) (w : World) (hG1 : 1 ≤ G) (hG : G ≤ 48) (hL1 : 1 ≤ S.length) (hL2 : S.length ≤ 40) (hS : ∀ s ∈ S, s < 2 ^ G) (hv : w.ownsRow base 94 1 v S.length (Sh.nvl S)) :
    Calls Try.prog 69 #[.int .i64 G, v, .int .i64 scr] w fun e w' => ∃ vo, e = .returned (.agg #[.int .i64 G, .int .i64 S.length, .int .i64 ((Sh.bst G S (Sh.rnd scr)).1 : Int), vo]) ∧
      w'.ownsRow w.heap.size 98 3 vo (Sh.bst G S (Sh.rnd scr)).2.length (Sh.opCells (Sh.bst G S (Sh.rnd scr)).2) ∧ Below w.heap.size w w' := by
  have HD := hide (fun (wx : World) (hx : Below w.heap.size w wx) => dif_ok G v base S wx hG1 hG hL1 hL2 hS (own_below hv hx))
  have HP := hide (fun (wx : World) (hx : Below w.heap.size w wx) => pairs_ok G v base S scr wx hG1 hG hL1 hL2 hS (own_below hv hx))
  have hgd := (Sh.dif_good hG1 hG hS hL1 hL2).1
  have hgp := (Sh.par_good hG1 hG hS hL1 hL2 (Sh.rnd scr) (Sh.rnd_le scr)).1
  have HB : Hid (Sh.bst G S (Sh.rnd scr) = if Sh.xr (Sh.parO G S (Sh.rnd scr)) < Sh.xr (Sh.dif G S) then ((Sh.parN G S (Sh.rnd scr)).1, Sh.parO G S (Sh.rnd scr)) else (0, Sh.dif G S)) := rfl
  have hd1 := hgd.pos
  have hd2 := hgd.len
  have hq1 := hgp.pos
  have hq2 := hgp.len
  obtain ⟨va, vc, hva⟩ := own_sl hv
  subst hva
  clear hgd hgp hv hS
  generalize Sh.bst G S (Sh.rnd scr) = bs at *
  generalize Sh.dif G S = d at *
  generalize Sh.parO G S (Sh.rnd scr) = q at *
  generalize (Sh.parN G S (Sh.rnd scr)).1 = bz at *
  generalize S.length = L at *
  have HX := hide (fun (wx : World) (G O B : Int) (vo : Value) (base : Nat) (ops : List (Int × Int × Int)) => xorsP_ok G O B vo base ops wx)
  obtain ⟨X, hX⟩ : ∃ X : List (Int × Int × Int) → Nat, X = Sh.xr := ⟨_, rfl⟩
  rw [← hX] at HX HB
  clear hX
  go_enter Try.func69, Try.ntmps69
  go_wp2_with fail
  refine (HD.out _ ((Below.refl _ _).alloc (Nat.le_refl _) _)).mono ?_
  rintro e w1 ⟨v1, rfl, hown1, hb1⟩
  have hl1 : Below w.heap.size w w1 := ((Below.refl _ _).alloc (Nat.le_refl _) _).trans (hb1.mono (by simp))
  have hr1 := (hb1.block w.heap.size (by simp)).trans (heap_alloc_new w _)
  have hs1 := hb1.size
  simp only [World.size_alloc] at hs1 hown1
  obtain ⟨g1, cap1, rfl, hgb1, hgw1⟩ := own_form3 hown1 hd1
  clear hb1 HD
  go_wp2_with fail
  refine (HP.out _ (hl1.alloc hl1.size _)).mono ?_
  rintro e w2 ⟨v2, rfl, hown2, hb2⟩
  have hn1 := (hb2.block w1.heap.size (by simp)).trans (heap_alloc_new w1 _)
  have hl12 : Below w1.heap.size w1 w2 := ((Below.refl _ _).alloc (Nat.le_refl _) _).trans (hb2.mono (by simp))
  have hl2 : Below w.heap.size w w2 := hl1.trans (hl12.mono hl1.size)
  have hr2 := (hl12.block w.heap.size (by omega)).trans hr1
  have hown1' := own_below hown1 hl12
  have hs2 := hb2.size
  simp only [World.size_alloc] at hs2 hown2
  obtain ⟨g2, cap2, rfl, hgb2, hgw2⟩ := own_form3 hown2 hq1
  obtain ⟨W, hW⟩ : ∃ W : World, W = w2.alloc (.cells #[.int .i64 G, .int .i64 L, .int .i64 (bz : Int), .slice (some ⟨g2, 0, none⟩) q.length cap2] 49) := ⟨_, rfl⟩
  have hlW : Below w2.heap.size w2 W := by rw [hW]; exact (Below.refl _ _).alloc (Nat.le_refl _) _
  have hn2 : W.heap[w2.heap.size]? = some (.cells #[.int .i64 G, .int .i64 L, .int .i64 (bz : Int), .slice (some ⟨g2, 0, none⟩) q.length cap2] 49 (0, 0)) := by rw [hW]; exact heap_alloc_new w2 _
  have hn1' := (hlW.block _ (blk_lt hn1)).trans hn1
  have hrW := (hlW.block _ (by omega)).trans hr2
  have hoq := own_below hown2 hlW
  have hod := own_below hown1' hlW
  have hlow : Below w.heap.size w W := hl2.trans (hlW.mono hl2.size)
  have HXd := hide (fun (wx : World) (hx : Below W.heap.size W wx) => HX.out wx G L 0 _ _ d hd1 hd2 (own_below hod hx))
  have HXq := hide (fun (wx : World) (hx : Below W.heap.size W wx) => HX.out wx G L bz _ _ q hq1 hq2 (own_below hoq hx))
  have hnb : Nonempty (BW W) := ⟨⟨W, Below.refl _ _⟩⟩
  have zd := blk_lt hn1'
  have zq := blk_lt hn2
  have b0 : ∀ s : BW W, s.out.cell? ⟨w1.heap.size, 0, none⟩ = some (.int .i64 G) := fun s => keepc s.low zd 0 (blk_cell hn1' rfl)
  have b1 : ∀ s : BW W, s.out.cell? ⟨w1.heap.size, 1, none⟩ = some (.int .i64 L) := fun s => keepc s.low zd 1 (blk_cell hn1' rfl)
  have b2 : ∀ s : BW W, s.out.cell? ⟨w1.heap.size, 2, none⟩ = some (.int .i64 0) := fun s => keepc s.low zd 2 (blk_cell hn1' rfl)
  have b3 : ∀ s : BW W, s.out.cell? ⟨w1.heap.size, 3, none⟩ = some (.slice (some ⟨g1, 0, none⟩) d.length cap1) := fun s => keepc s.low zd 3 (blk_cell hn1' rfl)
  have e0 : ∀ s : BW W, s.out.cell? ⟨w2.heap.size, 0, none⟩ = some (.int .i64 G) := fun s => keepc s.low zq 0 (blk_cell hn2 rfl)
  have e1 : ∀ s : BW W, s.out.cell? ⟨w2.heap.size, 1, none⟩ = some (.int .i64 L) := fun s => keepc s.low zq 1 (blk_cell hn2 rfl)
  have e2 : ∀ s : BW W, s.out.cell? ⟨w2.heap.size, 2, none⟩ = some (.int .i64 (bz : Int)) := fun s => keepc s.low zq 2 (blk_cell hn2 rfl)
  have e3 : ∀ s : BW W, s.out.cell? ⟨w2.heap.size, 3, none⟩ = some (.slice (some ⟨g2, 0, none⟩) q.length cap2) := fun s => keepc s.low zq 3 (blk_cell hn2 rfl)
  have Hn1 := hide hn1'
  have Hn2 := hide hn2
  have HrW := hide hrW
  have Hod := hide hod
  have Hoq := hide hoq
  have HW := hide hW
  clear hn1 hn1' hn2 hr1 hr2 hrW hod hoq hown1 hown1' hown2 hW hb2 hl1 hl2 hl12 HP hlW
  go_wp2
  rw [← HW.out]
  refine wp_region_low_lit (by kernel_rfl) (by kernel_rfl) ?_
  go_big_quiet_step (fail)
  go_big_quiet_step ((refine (HXq.out _ (BW.low _)).mono ?_; rintro e w3 ⟨rfl, hb3⟩; exact ⟨rfl, ⟨w3, (BW.low _).trans (hb3.mono (BW.low _).size)⟩, rfl⟩))
  go_big_quiet_step (fail)
  go_big_quiet_step ((refine (HXd.out _ (BW.low _)).mono ?_; rintro e w3 ⟨rfl, hb3⟩; exact ⟨rfl, ⟨w3, (BW.low _).trans (hb3.mono (BW.low _).size)⟩, rfl⟩))
  go_big_quiet_step (fail)
  refine wpQuiet_nil ?_
  rintro w3 ⟨s3, rfl⟩
  have hl3 := s3.low
  generalize s3.out = w3 at *
  have hn1 := (hl3.block _ (blk_lt Hn1.out)).trans Hn1.out
  have hn2 := (hl3.block _ (blk_lt Hn2.out)).trans Hn2.out
  have hr := (hl3.block _ (blk_lt HrW.out)).trans HrW.out
  have hod := own_below Hod.out hl3
  have hoq := own_below Hoq.out hl3
  have hlow3 : Below w.heap.size w w3 := hlow.trans (hl3.mono hlow.size)
  have r0 := blk_cell (j := 0) hr rfl
  have r1 := blk_cell (j := 1) hr rfl
  have r2 := blk_cell (j := 2) hr rfl
  have r3 := blk_cell (j := 3) hr rfl
  have rf := blk_frozen hr
  have rz := blk_lt hr
  clear b0 b1 b2 b3 e0 e1 e2 e3 hr
  by_cases hlt : X q < X d
  · have hd : decide ((X q : Int) < (X d : Int)) = true := by simp; omega
    have HB2 : Hid (bs = (bz, q)) := by show _ = _; rw [HB.out, if_pos hlt]
    have t0 : w3.cell? ⟨w2.heap.size, 0, none⟩ = some (.int .i64 G) := blk_cell (j := 0) hn2 rfl
    have t1 : w3.cell? ⟨w2.heap.size, 1, none⟩ = some (.int .i64 L) := blk_cell (j := 1) hn2 rfl
    have t2 : w3.cell? ⟨w2.heap.size, 2, none⟩ = some (.int .i64 (bz : Int)) := blk_cell (j := 2) hn2 rfl
    have t3 : w3.cell? ⟨w2.heap.size, 3, none⟩ = some (.slice (some ⟨g2, 0, none⟩) q.length cap2) := blk_cell (j := 3) hn2 rfl
    have tz := blk_lt hn2
    clear hn2
    go_wp2
    refine bodyPost_ret (v := .agg #[.int .i64 G, .int .i64 L, .int .i64 (bz : Int), .slice (some ⟨g2, 0, none⟩) q.length cap2]) (by simp [results, Try.results69, go_sem, r0, r1, r2, r3]) rfl ⟨_, by rw [HB2.out], ?_, ?_⟩
    · rw [HB2.out]
      exact own_mono (ownsRow_setCell_below (ownsRow_setCell_below (ownsRow_setCell_below (ownsRow_setCell_below hoq (by simp; omega) _) (by simp; omega) _) (by simp; omega) _) (by simp; omega) _) (by omega)
    · exact (((hlow3.setCell (by simp) _).setCell (by simp) _).setCell (by simp) _).setCell (by simp) _
  · have hd : decide ((X q : Int) < (X d : Int)) = false := by simp; omega
    have HB2 : Hid (bs = (0, d)) := by show _ = _; rw [HB.out, if_neg hlt]
    have t0 : w3.cell? ⟨w1.heap.size, 0, none⟩ = some (.int .i64 G) := blk_cell (j := 0) hn1 rfl
    have t1 : w3.cell? ⟨w1.heap.size, 1, none⟩ = some (.int .i64 L) := blk_cell (j := 1) hn1 rfl
    have t2 : w3.cell? ⟨w1.heap.size, 2, none⟩ = some (.int .i64 0) := blk_cell (j := 2) hn1 rfl
    have t3 : w3.cell? ⟨w1.heap.size, 3, none⟩ = some (.slice (some ⟨g1, 0, none⟩) d.length cap1) := blk_cell (j := 3) hn1 rfl
    have tz := blk_lt hn1
    clear hn1
    go_wp2
    refine bodyPost_ret (v := .agg #[.int .i64 G, .int .i64 L, .int .i64 0, .slice (some ⟨g1, 0, none⟩) d.length cap1]) (by simp [results, Try.results69, go_sem, r0, r1, r2, r3]) rfl ⟨_, by rw [HB2.out]; rfl, ?_, ?_⟩
    · rw [HB2.out]
      exact own_mono (ownsRow_setCell_below (ownsRow_setCell_below (ownsRow_setCell_below (ownsRow_setCell_below hod (by simp) _) (by simp) _) (by simp) _) (by simp) _) (by omega)
    · exact (((hlow3.setCell (by simp) _).setCell (by simp) _).setCell (by simp) _).setCell (by simp) _
end Go.Proofs.Ythhbpofcemoflab
