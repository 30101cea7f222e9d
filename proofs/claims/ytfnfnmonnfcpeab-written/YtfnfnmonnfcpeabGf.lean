import Derived.Test.YtfnfnmonnfcpeabGe
import Derived.BigQuiet
namespace Go.Proofs.Ytfnfnmonnfcpeab
open Go.RowKit
set_option maxRecDepth 20000
/-- the program to what is lost -/
def Sh.lsums (kind : Int) (K M : Nat) (N gd : Int) (q : Nat) : List Int := (Sh.lost kind K M N gd q).map Int.ofNat
def Sh.lprog (kind : Int) (K M : Nat) (N gd : Int) (q : Nat) : List (Int × Int × Int) := Sh.plain (K * Sh.R kind N) (Sh.lsums kind K M N gd q)
theorem Sh.lsums_len (kind : Int) (K M : Nat) (N gd : Int) (q : Nat) : (Sh.lsums kind K M N gd q).length = (Sh.lo q (K + M)).length * Sh.R kind N := by unfold Sh.lsums; rw [List.length_map, Sh.lost_len]
theorem Sh.nv_lsums (kind : Int) (K M : Nat) (N gd : Int) (q : Nat) : Sh.nv64 (Sh.lost kind K M N gd q) = (Sh.lsums kind K M N gd q).map (Value.int .u64) := by
  unfold Sh.nv64 Sh.lsums
  rw [List.map_map]
  rfl
set_option maxHeartbeats 1000000 in
theorem programOf_q (cb : Nat) (kind : Int) (K M : Nat) (N gd : Int) (q : Nat) (w : World) (h : Sh.Ok kind K M N gd) (hP : Sh.Pb kind K M N gd) (hq : q < 2 ^ 20) (hq0 : q ≠ 0) (hlo1 : 1 ≤ (Sh.lo q (K + M)).length) (hlo : (Sh.lo q (K + M)).length ≤ M) (hcb : cb < w.heap.size)
    (c0 : w.cell? ⟨cb, 0, none⟩ = some (.int .i64 kind)) (c1 : w.cell? ⟨cb, 1, none⟩ = some (.int .i64 K)) (c2 : w.cell? ⟨cb, 2, none⟩ = some (.int .i64 M)) (c3 : w.cell? ⟨cb, 3, none⟩ = some (.int .i64 N)) (c4 : w.cell? ⟨cb, 4, none⟩ = some (.int .i64 gd)) :
    Calls Try.prog 51 #[.pointer (some ⟨cb, 0, none⟩), .int .i64 q] w fun e w' => ∃ vo, e = .returned (.agg #[.int .i64 ((K * Sh.R kind N : Nat) : Int), .int .i64 (((Sh.lo q (K + M)).length * Sh.R kind N : Nat) : Int), .int .i64 0, vo]) ∧
      w'.ownsRow w.heap.size 91 3 vo (Sh.lprog kind K M N gd q).length (Sh.opCells (Sh.lprog kind K M N gd q)) ∧ Below w.heap.size w w' := by
  obtain ⟨hK, hM, h10, hR1, hR2, hKR, hMR, hPL⟩ := h.bounds
  have HP := hide (fun w => parity_ok kind K M N gd w h)
  have HRw := hide (fun w => rows_ok kind K M N gd w h)
  have hMR1 : 1 ≤ (Sh.lo q (K + M)).length * Sh.R kind N := Nat.mul_pos hlo1 hR1
  have hMR2 : (Sh.lo q (K + M)).length * Sh.R kind N ≤ 40 := Nat.le_trans (Nat.mul_le_mul_right _ hlo) hMR
  have hSL := Sh.lsums_len kind K M N gd q
  have HLo := hide (fun w => (by
    have := lost_ok kind K M N gd q w h hP hq hlo
    rw [Sh.nv_lsums, Sh.lost_len] at this
    exact this : Calls Try.prog 58 #[.agg #[.int .i64 kind, .int .i64 K, .int .i64 M, .int .i64 N, .int .i64 gd], .int .i64 q] w fun e w' => ∃ v, e = .returned v ∧ w'.ownsRow w.heap.size 89 1 v ((Sh.lo q (K + M)).length * Sh.R kind N) ((Sh.lsums kind K M N gd q).map (Value.int .u64)) ∧ Below w.heap.size w w'))
  have HPl := hide (fun (v : Value) (base : Nat) (w : World) (hv : w.ownsRow base 89 1 v ((Sh.lo q (K + M)).length * Sh.R kind N) ((Sh.lsums kind K M N gd q).map (Value.int .u64))) => (by
    have := plain_any (K * Sh.R kind N) v base (Sh.lsums kind K M N gd q) w hKR (by rw [hSL]; exact hMR1) (by rw [hSL]; exact hMR2) (by rw [hSL]; exact hv)
    rw [hSL] at this
    exact this : Calls Try.prog 46 #[.int .i64 ((K * Sh.R kind N : Nat) : Int), v] w fun e w' => ∃ vo, e = .returned (.agg #[.int .i64 ((K * Sh.R kind N : Nat) : Int), .int .i64 (((Sh.lo q (K + M)).length * Sh.R kind N : Nat) : Int), .int .i64 0, vo]) ∧
      w'.ownsRow w.heap.size 91 3 vo (Sh.lprog kind K M N gd q).length (Sh.opCells (Sh.lprog kind K M N gd q)) ∧ Below w.heap.size w w'))
  have hpp : 1 ≤ (Sh.lprog kind K M N gd q).length := Sh.plain_pos _ _ (by rw [hSL]; exact hMR1)
  have HPP := hide hpp
  clear h hPL hpp hP hSL
  generalize hPr : Sh.lprog kind K M N gd q = pr at *
  generalize hPa : Sh.lsums kind K M N gd q = ls at *
  generalize Sh.parity kind K M N gd = pa at *
  generalize hR : Sh.R kind N = R at *
  generalize (Sh.lo q (K + M)).length = cc at *
  clear hPr hPa hR
  have hcast : ((K * R : Nat) : Int) = (K : Int) * (R : Int) := Int.natCast_mul _ _
  rw [hcast] at HPl ⊢
  clear hcast
  have hKI : 0 ≤ (K : Int) * (R : Int) ∧ (K : Int) * (R : Int) ≤ 48 := by
    have := Int.natCast_mul K R
    omega
  have hq1 : ((q : Int) == 0) = false := by simp; exact hq0
  have hq2 : ¬ ((q : Int) = 0) := by omega
  go_enter Try.func51, Try.ntmps51
  go_wp2_with fail
  refine (HP.out _).mono ?_
  rintro e w1 ⟨v1, rfl, hown1, hb1⟩
  have hs1 := hb1.size
  have hB1 := ((Below.refl w.heap.size w).alloc (Nat.le_refl _) _).trans (hb1.mono (by simp))
  have ea0 := keepc hB1 hcb 0 c0
  have ea1 := keepc hB1 hcb 1 c1
  have ea2 := keepc hB1 hcb 2 c2
  have ea3 := keepc hB1 hcb 3 c3
  have ea4 := keepc hB1 hcb 4 c4
  clear hown1
  go_wp2_with fail
  refine (HLo.out _).mono ?_
  rintro e w2 ⟨v2, rfl, hown2, hb2⟩
  have hs2 := hb2.size
  have hB2 := hB1.trans (hb2.mono hB1.size)
  have eb0 := keepc hB2 hcb 0 c0
  have eb1 := keepc hB2 hcb 1 c1
  have eb2 := keepc hB2 hcb 2 c2
  have eb3 := keepc hB2 hcb 3 c3
  have eb4 := keepc hB2 hcb 4 c4
  clear ea0 ea1 ea2 ea3 ea4
  go_wp2_with fail
  refine (HRw.out _).mono ?_
  rintro e w3 ⟨rfl, hb3⟩
  have hs3 := hb3.size
  have hB3 := hB2.trans (hb3.mono hB2.size)
  have ec1 := keepc hB3 hcb 1 c1
  clear eb0 eb1 eb2 eb3 eb4
  go_wp2_with (go_at_call 46; refine (HPl.out _ _ _ (own_below hown2 hb3)).mono ?_; rintro e w4 ⟨v4, rfl, hown4, hb4⟩; obtain ⟨g4, cap4, hv4, hgb4, hgw4⟩ := own_form3 hown4 HPP.out; rw [hv4]; have hr0 := hb4.block w.heap.size (by simp at hs1; omega); have hr1 := hb3.block w.heap.size (by simp at hs1; omega); have hr2 := hb2.block w.heap.size (by simp at hs1; omega); have hr3 := hb1.block w.heap.size (by simp); have hr := hr0.trans (hr1.trans (hr2.trans (hr3.trans (heap_alloc_new w _)))); have q0 := blk_cell (j := 0) hr rfl; have q1 := blk_cell (j := 1) hr rfl; have q2 := blk_cell (j := 2) hr rfl; have q3 := blk_cell (j := 3) hr rfl; have qf := blk_frozen hr; have Hr := hide hr; clear hr hr0 hr1 hr2 hr3)
  have hs1' : w.heap.size + 1 ≤ w1.heap.size := by simp at hs1; omega
  refine bodyPost_ret (v := .agg #[.int .i64 ((K : Int) * (R : Int)), .int .i64 ((cc * R : Nat) : Int), .int .i64 0, .slice (some ⟨g4, 0, none⟩) pr.length cap4]) (by simp [results, Try.results51, go_sem, q0, q1, q2, q3]) rfl ⟨_, rfl, ?_, ?_⟩
  · rw [hv4] at hown4
    exact own_mono (ownsRow_setCell_below (ownsRow_setCell_below (ownsRow_setCell_below (ownsRow_setCell_below hown4 (by simp; omega) _) (by simp; omega) _) (by simp; omega) _) (by simp; omega) _) (by omega)
  · exact ((((hB3.trans (hb4.mono hB3.size)).setCell (by simp) _).setCell (by simp) _).setCell (by simp) _).setCell (by simp) _
end Go.Proofs.Ytfnfnmonnfcpeab
namespace Go.Proofs.Ytfnfnmonnfcpeab
open Go.RowKit
set_option maxRecDepth 20000
set_option maxHeartbeats 2000000 in
theorem want_more (cb : Nat) (q : Int) (hq : q ≠ 0) (kind : Int) (K M : Nat) (N gd lev scr blk cac g0 o0 z0 : Int) (v0 : Value) (G O : Int) (pr : List (Int × Int × Int)) (w : World) (hcac : 2 ≤ cac) (hc4 : cac ≤ 4) (hpp : 1 ≤ pr.length)
    (hb : w.heap[cb]? = some (.cells (Sh.coder kind K M N gd lev scr blk cac 0 g0 o0 z0 v0 1) 54 (0, 0)))
    (hpo : ∀ (wx : World), cb < wx.heap.size → wx.heap[cb]? = w.heap[cb]? → Calls Try.prog 51 #[.pointer (some ⟨cb, 0, none⟩), .int .i64 q] wx fun e w' => ∃ vo, e = .returned (.agg #[.int .i64 G, .int .i64 O, .int .i64 0, vo]) ∧
      w'.ownsRow wx.heap.size 91 3 vo pr.length (Sh.opCells pr) ∧ Below wx.heap.size wx w') :
    Calls Try.prog 39 #[.pointer (some ⟨cb, 0, none⟩), .int .i64 q] w fun e w' => ∃ vo, e = .returned (.agg #[.int .i64 G, .int .i64 O, .int .i64 0, vo]) ∧
      w'.ownsRow w.heap.size 91 3 vo pr.length (Sh.opCells pr) ∧
      w'.heap[cb]? = some (.cells ((((((( Sh.coder kind K M N gd lev scr blk cac 0 g0 o0 z0 v0 1).setIfInBounds 14 (.int .i64 q)).setIfInBounds 15 (.int .i64 G)).setIfInBounds 16 (.int .i64 O)).setIfInBounds 17 (.int .i64 0)).setIfInBounds 18 vo).setIfInBounds 29 (.int .i64 2)) 54 (0, 0)) ∧ w.grownBy w' (some cb) := by
  have hcb := blk_lt hb
  have HPP := hide hpp
  have HPO := hide hpo
  clear hpp hpo
  have c29 : w.cell? ⟨cb, 29, none⟩ = some (.int .i64 1) := blk_cell (j := 29) hb rfl
  have c9 : w.cell? ⟨cb, 9, none⟩ = some (.int .i64 0) := blk_cell (j := 9) hb rfl
  have hq1 : ((0 : Int) == q) = false := by simp; omega
  have hq2 : ¬ ((0 : Int) = q) := by omega
  have HB := hide hb
  clear hb
  go_enter Try.func39, Try.ntmps39
  go_wp2
  go_loop [5] (fun i => i = .int .i64 0 ∨ i = .int .i64 1) (fun i => 1 - (intOf i).toNat)
  case atStart => exact Or.inl rfl
  case round =>
    rcases hrel with rfl | rfl
    · go_wp2
      go_round
      case rel => exact Or.inr rfl
      case measure => decide
    · go_wp2_with (go_at_call 51; refine (HPO.out _ (by simp; omega) (Below.heap_alloc _ _ _ hcb)).mono ?_; rintro e w1 ⟨v1, rfl, hown1, hb1⟩; obtain ⟨g1, cap1, hv1, hgb1, hgw1⟩ := own_form3 hown1 HPP.out; rw [hv1]; have hcw := (hb1.block cb (by simp; omega)).trans ((Below.heap_alloc _ _ _ hcb).trans HB.out); have hcz := blk_lt hcw; have d29 : w1.cell? ⟨cb, 29, none⟩ = some (.int .i64 1) := blk_cell (j := 29) hcw rfl; have d8 : w1.cell? ⟨cb, 8, none⟩ = some (.int .i64 cac) := blk_cell (j := 8) hcw rfl; have d14 : w1.cell? ⟨cb, 14, none⟩ = some (.int .i64 0) := blk_cell (j := 14) hcw rfl; have d15 : w1.cell? ⟨cb, 15, none⟩ = some (.int .i64 0) := blk_cell (j := 15) hcw rfl; have d16 : w1.cell? ⟨cb, 16, none⟩ = some (.int .i64 0) := blk_cell (j := 16) hcw rfl; have d17 : w1.cell? ⟨cb, 17, none⟩ = some (.int .i64 0) := blk_cell (j := 17) hcw rfl; have d18 : w1.cell? ⟨cb, 18, none⟩ = some (.slice none 0 0) := blk_cell (j := 18) hcw rfl; have dfz := blk_frozen hcw; have hrw := (hb1.block w.heap.size (by simp)).trans (heap_alloc_new w _); have r0 := blk_cell (j := 0) hrw rfl; have r1 := blk_cell (j := 1) hrw rfl; have r2 := blk_cell (j := 2) hrw rfl; have r3 := blk_cell (j := 3) hrw rfl; have rfz := blk_frozen hrw; have hrz := blk_lt hrw)
      have dcac : decide (1 < cac) = true := by simp; omega
      go_quiet (fail)
      go_wp2
      go_region
      all_goals go_wp2
      have hs1 : w.heap.size + 1 ≤ w1.heap.size := by have := hb1.size; simp at this; omega
      rw [hv1] at hown1
      simp only [World.size_alloc] at hown1
      have hne0 : cb ≠ w.heap.size := by omega
      generalize hWf : World.setCell _ _ _ = Wf
      have fow : Wf.ownsRow w.heap.size 91 3 (.slice (some ⟨g1, 0, none⟩) pr.length cap1) pr.length (Sh.opCells pr) := by
        rw [← hWf]
        refine own_mono (base := w.heap.size + 1) ?_ (by omega)
        iterate 4 refine ownsRow_setCell_below ?_ (Nat.lt_succ_self _) _
        iterate 6 refine ownsRow_setCell_below ?_ (Nat.lt_succ_of_lt hcb) _
        exact hown1.alloc _
      have fres : Wf.heap[w.heap.size]? = some (.cells #[.int .i64 G, .int .i64 O, .int .i64 0, .slice (some ⟨g1, 0, none⟩) pr.length cap1] 49 (0, 0)) := by
        rw [← hWf]
        refine (blk_set (j := 3) (blk_set (j := 2) (blk_set (j := 1) (blk_set (j := 0) (c := #[.int .i64 0, .int .i64 0, .int .i64 0, .slice none 0 0]) (t := 49) (f := (0, 0)) ?_)))).trans ?_
        · iterate 6 rw [Below.heap_setCell _ _ _ _ hne0.symm]
          exact (Below.heap_alloc _ _ _ (by omega)).trans hrw
        · simp
      have fcb : Wf.heap[cb]? = some (.cells ((((((( Sh.coder kind K M N gd lev scr blk cac 0 g0 o0 z0 v0 1).setIfInBounds 14 (.int .i64 q)).setIfInBounds 15 (.int .i64 G)).setIfInBounds 16 (.int .i64 O)).setIfInBounds 17 (.int .i64 0)).setIfInBounds 18 (.slice (some ⟨g1, 0, none⟩) pr.length cap1)).setIfInBounds 29 (.int .i64 2)) 54 (0, 0)) := by
        rw [← hWf]
        iterate 4 rw [Below.heap_setCell _ _ _ _ hne0]
        refine (blk_set (j := 29) (blk_set (j := 18) (blk_set (j := 17) (blk_set (j := 16) (blk_set (j := 15) (blk_set (j := 14) (c := Sh.coder kind K M N gd lev scr blk cac 0 g0 o0 z0 v0 1) (t := 54) (f := (0, 0)) ?_))))))
        exact (Below.heap_alloc _ _ _ hcz).trans hcw
      have fgr : w.grownBy Wf (some cb) := by
        rw [← hWf]
        iterate 4 refine grown_set_new ?_ (Nat.le_refl _) _
        iterate 6 refine grown_set ?_ _
        exact grown_drewN (grown_alloc (grown_below (grown_alloc (grown_refl w _) _) hb1) _) _
      have q0 : Wf.cell? ⟨w.heap.size, 0, none⟩ = some (.int .i64 G) := blk_cell fres rfl
      have q1 : Wf.cell? ⟨w.heap.size, 1, none⟩ = some (.int .i64 O) := blk_cell fres rfl
      have q2 : Wf.cell? ⟨w.heap.size, 2, none⟩ = some (.int .i64 0) := blk_cell fres rfl
      have q3 : Wf.cell? ⟨w.heap.size, 3, none⟩ = some (.slice (some ⟨g1, 0, none⟩) pr.length cap1) := blk_cell fres rfl
      clear hWf
      exact bodyPost_ret (v := .agg #[.int .i64 G, .int .i64 O, .int .i64 0, .slice (some ⟨g1, 0, none⟩) pr.length cap1]) (by simp [results, Try.results39, go_sem, q0, q1, q2, q3]) rfl ⟨_, rfl, fow, fcb, fgr⟩

set_option maxHeartbeats 2000000 in
theorem want_full (cb : Nat) (q : Int) (hq : q ≠ 0) (kind : Int) (K M : Nat) (N gd lev scr blk cac g0 o0 z0 : Int) (v0 : Value) (G O : Int) (pr : List (Int × Int × Int)) (w : World) (hcac : cac ≤ 1) (hpp : 1 ≤ pr.length)
    (hb : w.heap[cb]? = some (.cells (Sh.coder kind K M N gd lev scr blk cac 0 g0 o0 z0 v0 1) 54 (0, 0)))
    (hpo : ∀ (wx : World), cb < wx.heap.size → wx.heap[cb]? = w.heap[cb]? → Calls Try.prog 51 #[.pointer (some ⟨cb, 0, none⟩), .int .i64 q] wx fun e w' => ∃ vo, e = .returned (.agg #[.int .i64 G, .int .i64 O, .int .i64 0, vo]) ∧
      w'.ownsRow wx.heap.size 91 3 vo pr.length (Sh.opCells pr) ∧ Below wx.heap.size wx w') :
    Calls Try.prog 39 #[.pointer (some ⟨cb, 0, none⟩), .int .i64 q] w fun e w' => ∃ vo, e = .returned (.agg #[.int .i64 G, .int .i64 O, .int .i64 0, vo]) ∧
      w'.ownsRow w.heap.size 91 3 vo pr.length (Sh.opCells pr) ∧ Below w.heap.size w w' := by
  have hcb := blk_lt hb
  have HPP := hide hpp
  have HPO := hide hpo
  clear hpp hpo
  have c29 : w.cell? ⟨cb, 29, none⟩ = some (.int .i64 1) := blk_cell (j := 29) hb rfl
  have c9 : w.cell? ⟨cb, 9, none⟩ = some (.int .i64 0) := blk_cell (j := 9) hb rfl
  have hq1 : ((0 : Int) == q) = false := by simp; omega
  have hq2 : ¬ ((0 : Int) = q) := by omega
  have HB := hide hb
  clear hb
  go_enter Try.func39, Try.ntmps39
  go_wp2
  go_loop [5] (fun i => i = .int .i64 0 ∨ i = .int .i64 1) (fun i => 1 - (intOf i).toNat)
  case atStart => exact Or.inl rfl
  case round =>
    rcases hrel with rfl | rfl
    · go_wp2
      go_round
      case rel => exact Or.inr rfl
      case measure => decide
    · go_wp2_with (go_at_call 51; refine (HPO.out _ (by simp; omega) (Below.heap_alloc _ _ _ hcb)).mono ?_; rintro e w1 ⟨v1, rfl, hown1, hb1⟩; obtain ⟨g1, cap1, hv1, hgb1, hgw1⟩ := own_form3 hown1 HPP.out; rw [hv1]; have hcw := (hb1.block cb (by simp; omega)).trans ((Below.heap_alloc _ _ _ hcb).trans HB.out); have d29 : w1.cell? ⟨cb, 29, none⟩ = some (.int .i64 1) := blk_cell (j := 29) hcw rfl; have d8 : w1.cell? ⟨cb, 8, none⟩ = some (.int .i64 cac) := blk_cell (j := 8) hcw rfl; have hrw := (hb1.block w.heap.size (by simp)).trans (heap_alloc_new w _); have r0 := blk_cell (j := 0) hrw rfl; have r1 := blk_cell (j := 1) hrw rfl; have r2 := blk_cell (j := 2) hrw rfl; have r3 := blk_cell (j := 3) hrw rfl; have rfz := blk_frozen hrw; have hrz := blk_lt hrw; have hcz := blk_lt hcw; clear hcw)
      have dcac : decide (1 < cac) = false := by simp; omega
      go_quiet (fail)
      go_wp2
      have hs1 : w.heap.size + 1 ≤ w1.heap.size := by have := hb1.size; simp at this; omega
      rw [hv1] at hown1
      simp only [World.size_alloc] at hown1
      have hB : Below w.heap.size w w1 := ((Below.refl _ _).alloc (Nat.le_refl _) _).trans (hb1.mono (by simp))
      have hD : ∀ (wx : World) (n : Nat), Below w.heap.size wx (wx.drewN n) := fun wx n => ⟨rfl, rfl, rfl, Nat.le_refl _, fun _ _ => rfl⟩
      generalize hWf : World.setCell _ _ _ = Wf
      have fow : Wf.ownsRow w.heap.size 91 3 (.slice (some ⟨g1, 0, none⟩) pr.length cap1) pr.length (Sh.opCells pr) := by
        rw [← hWf]
        refine own_mono (base := w.heap.size + 1) ?_ (by omega)
        iterate 4 refine ownsRow_setCell_below ?_ (Nat.lt_succ_self _) _
        exact hown1.alloc _
      have fres : Wf.heap[w.heap.size]? = some (.cells #[.int .i64 G, .int .i64 O, .int .i64 0, .slice (some ⟨g1, 0, none⟩) pr.length cap1] 49 (0, 0)) := by
        rw [← hWf]
        refine (blk_set (j := 3) (blk_set (j := 2) (blk_set (j := 1) (blk_set (j := 0) (c := #[.int .i64 0, .int .i64 0, .int .i64 0, .slice none 0 0]) (t := 49) (f := (0, 0)) ?_)))).trans ?_
        · exact (Below.heap_alloc _ _ _ (by omega)).trans hrw
        · simp
      have fbel : Below w.heap.size w Wf := by
        rw [← hWf]
        exact (((((hB.alloc (by omega) _).trans (hD _ _)).setCell (by simp) _).setCell (by simp) _).setCell (by simp) _).setCell (by simp) _
      have q0 : Wf.cell? ⟨w.heap.size, 0, none⟩ = some (.int .i64 G) := blk_cell fres rfl
      have q1 : Wf.cell? ⟨w.heap.size, 1, none⟩ = some (.int .i64 O) := blk_cell fres rfl
      have q2 : Wf.cell? ⟨w.heap.size, 2, none⟩ = some (.int .i64 0) := blk_cell fres rfl
      have q3 : Wf.cell? ⟨w.heap.size, 3, none⟩ = some (.slice (some ⟨g1, 0, none⟩) pr.length cap1) := blk_cell fres rfl
      clear hWf
      exact bodyPost_ret (v := .agg #[.int .i64 G, .int .i64 O, .int .i64 0, .slice (some ⟨g1, 0, none⟩) pr.length cap1]) (by simp [results, Try.results39, go_sem, q0, q1, q2, q3]) rfl ⟨_, rfl, fow, fbel⟩

end Go.Proofs.Ytfnfnmonnfcpeab
namespace Go.Proofs.Ytfnfnmonnfcpeab
open Go.RowKit
set_option maxRecDepth 20000
/-- the coder, of which only its code and block are known -/
def Sh.CC (w : World) (cb : Nat) (kind : Int) (K M : Nat) (N gd blk : Int) : Prop :=
  ∃ C : Array Value, w.heap[cb]? = some (.cells C 54 (0, 0)) ∧ C[0]? = some (.int .i64 kind) ∧ C[1]? = some (.int .i64 K) ∧ C[2]? = some (.int .i64 M) ∧ C[3]? = some (.int .i64 N) ∧ C[4]? = some (.int .i64 gd) ∧ C[7]? = some (.int .i64 blk)
theorem Sh.CC.below {w w' : World} {cb : Nat} {kind : Int} {K M : Nat} {N gd blk : Int} (h : Sh.CC w cb kind K M N gd blk) (hb : Below w.heap.size w w') : Sh.CC w' cb kind K M N gd blk := by
  obtain ⟨C, h1, h2⟩ := h
  exact ⟨C, (hb.block cb (blk_lt h1)).trans h1, h2⟩
set_option maxHeartbeats 1000000 in
theorem wantq_any (cb : Nat) (kind : Int) (K M : Nat) (N gd lev scr blk cac : Int) (q : Nat) (w : World) (h : Sh.Ok kind K M N gd) (hP : Sh.Pb kind K M N gd) (hq : q < 2 ^ 20) (hq0 : q ≠ 0) (hlo1 : 1 ≤ (Sh.lo q (K + M)).length) (hlo : (Sh.lo q (K + M)).length ≤ M) (hc4 : cac ≤ 4) (hc : Sh.CS w cb kind K M N gd lev scr blk cac) :
    Calls Try.prog 39 #[.pointer (some ⟨cb, 0, none⟩), .int .i64 q] w fun e w' => ∃ go co : Nat, e = .returned (.agg #[.int .i64 ((K * Sh.R kind N : Nat) : Int), .int .i64 (((Sh.lo q (K + M)).length * Sh.R kind N : Nat) : Int), .int .i64 0, .slice (some ⟨go, 0, none⟩) (Sh.lprog kind K M N gd q).length co]) ∧
      w'.ownsRow 0 91 3 (.slice (some ⟨go, 0, none⟩) (Sh.lprog kind K M N gd q).length co) (Sh.lprog kind K M N gd q).length (Sh.opCells (Sh.lprog kind K M N gd q)) ∧ Sh.CC w' cb kind K M N gd blk ∧ w.grownBy w' (some cb) := by
  obtain ⟨hK, hM, h10, hR1, hR2, hKR, hMR, hPL⟩ := h.bounds
  have hpp : 1 ≤ (Sh.lprog kind K M N gd q).length := Sh.plain_pos _ _ (by rw [Sh.lsums_len]; exact Nat.mul_pos hlo1 hR1)
  have hpo : ∀ (p0 g0 o0 z0 : Int) (v0 : Value) (cnt : Int), w.heap[cb]? = some (.cells (Sh.coder kind K M N gd lev scr blk cac p0 g0 o0 z0 v0 cnt) 54 (0, 0)) → ∀ (wx : World), cb < wx.heap.size → wx.heap[cb]? = w.heap[cb]? → _ := fun p0 g0 o0 z0 v0 cnt hb wx hx hbx => programOf_q cb kind K M N gd q wx h hP hq hq0 hlo1 hlo hx (blk_cell (hbx.trans hb) rfl) (blk_cell (hbx.trans hb) rfl) (blk_cell (hbx.trans hb) rfl) (blk_cell (hbx.trans hb) rfl) (blk_cell (hbx.trans hb) rfl)
  rcases hc with hc | ⟨go, co, hc, ho⟩
  · by_cases h1 : 1 ≤ cac
    · refine (want_add cb q kind K M N gd lev scr blk cac _ _ (Sh.lprog kind K M N gd q) w h1 hc4 hpp hc (hpo _ _ _ _ _ _ hc)).mono ?_
      rintro e w' ⟨vo, rfl, a1, a2, a3⟩
      obtain ⟨g, c, rfl, _, _⟩ := own_form3 a1 hpp
      exact ⟨g, c, rfl, own_mono a1 (Nat.zero_le _), ⟨_, a2, rfl, rfl, rfl, rfl, rfl, rfl⟩, a3⟩
    · refine (want_none cb q kind K M N gd lev scr blk cac _ _ (Sh.lprog kind K M N gd q) w (by omega) hpp hc (hpo _ _ _ _ _ _ hc)).mono ?_
      rintro e w' ⟨vo, rfl, a1, a2⟩
      obtain ⟨g, c, rfl, _, _⟩ := own_form3 a1 hpp
      exact ⟨g, c, rfl, own_mono a1 (Nat.zero_le _), ⟨_, (a2.block cb (blk_lt hc)).trans hc, rfl, rfl, rfl, rfl, rfl, rfl⟩, grown_of a2 _⟩
  · by_cases h2 : 2 ≤ cac
    · refine (want_more cb q (by omega) kind K M N gd lev scr blk cac _ _ _ _ _ _ (Sh.lprog kind K M N gd q) w h2 hc4 hpp hc (hpo _ _ _ _ _ _ hc)).mono ?_
      rintro e w' ⟨vo, rfl, a1, a2, a3⟩
      obtain ⟨g, c, rfl, _, _⟩ := own_form3 a1 hpp
      exact ⟨g, c, rfl, own_mono a1 (Nat.zero_le _), ⟨_, a2, by simp [Sh.coder], by simp [Sh.coder], by simp [Sh.coder], by simp [Sh.coder], by simp [Sh.coder], by simp [Sh.coder]⟩, a3⟩
    · refine (want_full cb q (by omega) kind K M N gd lev scr blk cac _ _ _ _ _ _ (Sh.lprog kind K M N gd q) w (by omega) hpp hc (hpo _ _ _ _ _ _ hc)).mono ?_
      rintro e w' ⟨vo, rfl, a1, a2⟩
      obtain ⟨g, c, rfl, _, _⟩ := own_form3 a1 hpp
      exact ⟨g, c, rfl, own_mono a1 (Nat.zero_le _), ⟨_, (a2.block cb (blk_lt hc)).trans hc, rfl, rfl, rfl, rfl, rfl, rfl⟩, grown_of a2 _⟩
set_option maxHeartbeats 1000000 in
theorem madeq_ok (cb : Nat) (kind : Int) (K M : Nat) (N gd lev scr : Int) (blk : Nat) (cac : Int) (q size : Nat) (v : Value) (base : Nat) (ps : List (Nat × Nat × Nat)) (X : List (List Int)) (w : World) (h : Sh.Ok kind K M N gd) (hP : Sh.Pb kind K M N gd) (hq : q < 2 ^ 20) (hq0 : q ≠ 0) (hlo1 : 1 ≤ (Sh.lo q (K + M)).length) (hlo : (Sh.lo q (K + M)).length ≤ M) (hc4 : cac ≤ 4) (hbk : 1 ≤ blk) (hbk' : blk ≤ 64)
    (hs1 : 1 ≤ size) (hs2 : size ≤ 48) (hc : Sh.CS w cb kind K M N gd lev scr blk cac) (hd : Sh.Dat w base 33 v (Sh.R kind N * size) ps X) (hpl : ps.length = K) (hne : ∀ p ∈ ps, p.1 ≠ cb) :
    Calls Try.prog 23 #[.pointer (some ⟨cb, 0, none⟩), .int .i64 q, v] w fun e w' => ∃ (v' : Value) (qs : List (Nat × Nat × Nat)), e = .returned v' ∧ qs.length = (Sh.lo q (K + M)).length ∧
      Sh.Own w' w.heap.size 33 5 v' (Sh.R kind N * size) qs (Sh.parG (Sh.R kind N) K (Sh.lo q (K + M)).length size (Sh.lsums kind K M N gd q) X) ∧ w.grownBy w' (some cb) := by
  obtain ⟨hK, hM, h10, hR1, hR2, hKR, hMR, hPL⟩ := h.bounds
  have HW := hide (wantq_any cb kind K M N gd lev scr blk cac q w h hP hq hq0 hlo1 hlo hc4 hc)
  obtain ⟨p0, g0, o0, z0, v0, cnt, hblk⟩ := hc.blk
  have HRun := hide (fun (go co : Nat) (wx : World) (hd : Sh.Dat wx base 33 v (Sh.R kind N * size) ps X) (hc : Sh.CC wx cb kind K M N gd blk) (ho : wx.ownsRow 0 91 3 (.slice (some ⟨go, 0, none⟩) (Sh.lprog kind K M N gd q).length co) (Sh.lprog kind K M N gd q).length (Sh.opCells (Sh.lprog kind K M N gd q))) => (by
    obtain ⟨C, hb, e0, e1, e2, e3, e4, e7⟩ := hc
    exact run_ok cb kind K M N gd blk K (Sh.lo q (K + M)).length size (Sh.lsums kind K M N gd q) v base 0 go co ps X wx h hbk hbk' hK (by omega) hKR hlo1 (by omega) (Nat.le_trans (Nat.mul_le_mul_right _ hlo) hMR) (Sh.lsums_len kind K M N gd q) hs1 hs2 (blk_lt hb) (blk_cell hb e0) (blk_cell hb e1) (blk_cell hb e2) (blk_cell hb e3) (blk_cell hb e4) (blk_cell hb e7) ho hd hpl : Calls Try.prog 40 #[.pointer (some ⟨cb, 0, none⟩), .agg #[.int .i64 ((K * Sh.R kind N : Nat) : Int), .int .i64 (((Sh.lo q (K + M)).length * Sh.R kind N : Nat) : Int), .int .i64 0, .slice (some ⟨go, 0, none⟩) (Sh.lprog kind K M N gd q).length co], v] wx fun e w' => ∃ (v' : Value) (qs : List (Nat × Nat × Nat)), e = .returned v' ∧ qs.length = (Sh.lo q (K + M)).length ∧
      Sh.Own w' wx.heap.size 33 5 v' (Sh.R kind N * size) qs (Sh.parG (Sh.R kind N) K (Sh.lo q (K + M)).length size (Sh.lsums kind K M N gd q) X) ∧ Below wx.heap.size wx w'))
  have Hblk := hide hblk
  have HD := hide hd
  have HNE := hide hne
  clear hblk hc hd hne hpl h
  generalize Sh.parG (Sh.R kind N) K (Sh.lo q (K + M)).length size (Sh.lsums kind K M N gd q) X = PX at *
  generalize Sh.lprog kind K M N gd q = pr at *
  generalize hGn : K * Sh.R kind N = Gn at *
  generalize hOn : (Sh.lo q (K + M)).length * Sh.R kind N = On at *
  generalize (Sh.lo q (K + M)).length = cc at *
  go_enter Try.func23, Try.ntmps23
  go_wp2_with fail
  refine HW.out.mono ?_
  rintro e w2 ⟨go, co, rfl, ho2, hc2, hg2⟩
  have HD2 := hide (HD.out.grown hg2 Hblk.out (by decide) HNE.out)
  have HR2 := hide (fun (wx : World) (hx : Below w2.heap.size w2 wx) => HRun.out go co wx (HD2.out.below hx) (hc2.below hx) (own_below ho2 hx))
  have HG2 := hide hg2
  clear ho2 hc2 hg2
  go_wp2_with fail
  refine (HR2.out _ (by first | exact Below.refl _ _ | exact (Below.refl _ _).alloc (Nat.le_refl _) _)).mono ?_
  rintro e w3 ⟨v3, qs, rfl, hql, hown, hb3⟩
  go_wp2
  go_ret
  have hb23 : Below w2.heap.size w2 w3 := by first | exact hb3 | exact ((Below.refl _ _).alloc (Nat.le_refl _) _).trans (hb3.mono (by simp))
  exact ⟨v3, qs, rfl, hql, hown.mono (by have := HG2.out.size; simp; omega), grown_below HG2.out hb23⟩
end Go.Proofs.Ytfnfnmonnfcpeab
