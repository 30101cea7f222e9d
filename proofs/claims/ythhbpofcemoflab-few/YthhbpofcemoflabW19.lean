import Derived.Test.YthhbpofcemoflabW18
namespace Go.Proofs.Ythhbpofcemoflab
open Go.RowKit
set_option maxRecDepth 20000

set_option maxHeartbeats 2000000 in
theorem want_add (cb : Nat) (q : Int) (kind : Int) (K M : Nat) (N gd lev scr blk cac : Int) (G O Z : Int) (pr : List (Int × Int × Int)) (w : World) (hcac : 1 ≤ cac) (hc4 : cac ≤ 4) (hpp : 1 ≤ pr.length)
    (hb : w.heap[cb]? = some (.cells (Sh.coder kind K M N gd lev scr blk cac 0 0 0 0 (.slice none 0 0) 0) 54 (0, 0)))
    (hpo : ∀ (wx : World), cb < wx.heap.size → wx.heap[cb]? = w.heap[cb]? → Calls Try.prog 57 #[.pointer (some ⟨cb, 0, none⟩), .int .i64 q] wx fun e w' => ∃ vo, e = .returned (.agg #[.int .i64 G, .int .i64 O, .int .i64 Z, vo]) ∧
      w'.ownsRow wx.heap.size 98 3 vo pr.length (Sh.opCells pr) ∧ Below wx.heap.size wx w') :
    Calls Try.prog 43 #[.pointer (some ⟨cb, 0, none⟩), .int .i64 q] w fun e w' => ∃ vo, e = .returned (.agg #[.int .i64 G, .int .i64 O, .int .i64 Z, vo]) ∧
      w'.ownsRow w.heap.size 98 3 vo pr.length (Sh.opCells pr) ∧
      w'.heap[cb]? = some (.cells (Sh.coder kind K M N gd lev scr blk cac q G O Z vo 1) 54 (0, 0)) ∧ w.grownBy w' (some cb) := by
  have hcb := blk_lt hb
  have HPP := hide hpp
  have HPO := hide hpo
  clear hpp hpo
  have c29 : w.cell? ⟨cb, 29, none⟩ = some (.int .i64 0) := blk_cell (j := 29) hb rfl
  have HB := hide hb
  clear hb
  go_enter Try.func43, Try.ntmps43
  go_wp2
  go_loop [5] (fun i => i = .int .i64 0) (fun _ => 0)
  case atStart => exact rfl
  case round =>
    subst hrel
    go_wp2_with (go_at_call 57; refine (HPO.out _ (by simp; omega) (Below.heap_alloc _ _ _ hcb)).mono ?_; rintro e w1 ⟨v1, rfl, hown1, hb1⟩; obtain ⟨g1, cap1, hv1, hgb1, hgw1⟩ := own_form3 hown1 HPP.out; rw [hv1]; have hcw := (hb1.block cb (by simp; omega)).trans ((Below.heap_alloc _ _ _ hcb).trans HB.out); have hcz := blk_lt hcw; have d29 : w1.cell? ⟨cb, 29, none⟩ = some (.int .i64 0) := blk_cell (j := 29) hcw rfl; have d8 : w1.cell? ⟨cb, 8, none⟩ = some (.int .i64 cac) := blk_cell (j := 8) hcw rfl; have d9 : w1.cell? ⟨cb, 9, none⟩ = some (.int .i64 0) := blk_cell (j := 9) hcw rfl; have d10 : w1.cell? ⟨cb, 10, none⟩ = some (.int .i64 0) := blk_cell (j := 10) hcw rfl; have d11 : w1.cell? ⟨cb, 11, none⟩ = some (.int .i64 0) := blk_cell (j := 11) hcw rfl; have d12 : w1.cell? ⟨cb, 12, none⟩ = some (.int .i64 0) := blk_cell (j := 12) hcw rfl; have d13 : w1.cell? ⟨cb, 13, none⟩ = some (.slice none 0 0) := blk_cell (j := 13) hcw rfl; have dfz := blk_frozen hcw; have hrw := (hb1.block w.heap.size (by simp)).trans (heap_alloc_new w _); have r0 := blk_cell (j := 0) hrw rfl; have r1 := blk_cell (j := 1) hrw rfl; have r2 := blk_cell (j := 2) hrw rfl; have r3 := blk_cell (j := 3) hrw rfl; have rfz := blk_frozen hrw; have hrz := blk_lt hrw)
    have dcac : decide (0 < cac) = true := by simp; omega
    go_quiet (fail)
    go_wp2
    go_region
    all_goals go_wp2
    have hs1 : w.heap.size + 1 ≤ w1.heap.size := by have := hb1.size; simp at this; omega
    rw [hv1] at hown1
    simp only [World.size_alloc] at hown1
    have hne0 : cb ≠ w.heap.size := by omega
    generalize hWf : World.setCell _ _ _ = Wf
    have fow : Wf.ownsRow w.heap.size 98 3 (.slice (some ⟨g1, 0, none⟩) pr.length cap1) pr.length (Sh.opCells pr) := by
      rw [← hWf]
      refine own_mono (base := w.heap.size + 1) ?_ (by omega)
      iterate 4 refine ownsRow_setCell_below ?_ (Nat.lt_succ_self _) _
      iterate 6 refine ownsRow_setCell_below ?_ (Nat.lt_succ_of_lt hcb) _
      exact hown1.alloc _
    have fres : Wf.heap[w.heap.size]? = some (.cells #[.int .i64 G, .int .i64 O, .int .i64 Z, .slice (some ⟨g1, 0, none⟩) pr.length cap1] 49 (0, 0)) := by
      rw [← hWf]
      refine (blk_set (j := 3) (blk_set (j := 2) (blk_set (j := 1) (blk_set (j := 0) (c := #[.int .i64 0, .int .i64 0, .int .i64 0, .slice none 0 0]) (t := 49) (f := (0, 0)) ?_)))).trans ?_
      · iterate 6 rw [Below.heap_setCell _ _ _ _ hne0.symm]
        exact (Below.heap_alloc _ _ _ (by omega)).trans hrw
      · simp
    have fcb : Wf.heap[cb]? = some (.cells (Sh.coder kind K M N gd lev scr blk cac q G O Z (.slice (some ⟨g1, 0, none⟩) pr.length cap1) 1) 54 (0, 0)) := by
      rw [← hWf]
      iterate 4 rw [Below.heap_setCell _ _ _ _ hne0]
      refine (blk_set (j := 29) (blk_set (j := 13) (blk_set (j := 12) (blk_set (j := 11) (blk_set (j := 10) (blk_set (j := 9) (c := Sh.coder kind K M N gd lev scr blk cac 0 0 0 0 (.slice none 0 0) 0) (t := 54) (f := (0, 0)) ?_)))))).trans ?_
      · exact (Below.heap_alloc _ _ _ hcz).trans hcw
      · simp [Sh.coder]
    have fgr : w.grownBy Wf (some cb) := by
      rw [← hWf]
      iterate 4 refine grown_set_new ?_ (Nat.le_refl _) _
      iterate 6 refine grown_set ?_ _
      exact grown_drewN (grown_alloc (grown_below (grown_alloc (grown_refl w _) _) hb1) _) _
    have q0 : Wf.cell? ⟨w.heap.size, 0, none⟩ = some (.int .i64 G) := blk_cell fres rfl
    have q1 : Wf.cell? ⟨w.heap.size, 1, none⟩ = some (.int .i64 O) := blk_cell fres rfl
    have q2 : Wf.cell? ⟨w.heap.size, 2, none⟩ = some (.int .i64 Z) := blk_cell fres rfl
    have q3 : Wf.cell? ⟨w.heap.size, 3, none⟩ = some (.slice (some ⟨g1, 0, none⟩) pr.length cap1) := blk_cell fres rfl
    clear hWf
    exact bodyPost_ret (v := .agg #[.int .i64 G, .int .i64 O, .int .i64 Z, .slice (some ⟨g1, 0, none⟩) pr.length cap1]) (by simp [results, Try.results43, go_sem, q0, q1, q2, q3]) rfl ⟨_, rfl, fow, fcb, fgr⟩

set_option maxHeartbeats 2000000 in
theorem want_none (cb : Nat) (q : Int) (kind : Int) (K M : Nat) (N gd lev scr blk cac : Int) (G O Z : Int) (pr : List (Int × Int × Int)) (w : World) (hcac : cac ≤ 0) (hpp : 1 ≤ pr.length)
    (hb : w.heap[cb]? = some (.cells (Sh.coder kind K M N gd lev scr blk cac 0 0 0 0 (.slice none 0 0) 0) 54 (0, 0)))
    (hpo : ∀ (wx : World), cb < wx.heap.size → wx.heap[cb]? = w.heap[cb]? → Calls Try.prog 57 #[.pointer (some ⟨cb, 0, none⟩), .int .i64 q] wx fun e w' => ∃ vo, e = .returned (.agg #[.int .i64 G, .int .i64 O, .int .i64 Z, vo]) ∧
      w'.ownsRow wx.heap.size 98 3 vo pr.length (Sh.opCells pr) ∧ Below wx.heap.size wx w') :
    Calls Try.prog 43 #[.pointer (some ⟨cb, 0, none⟩), .int .i64 q] w fun e w' => ∃ vo, e = .returned (.agg #[.int .i64 G, .int .i64 O, .int .i64 Z, vo]) ∧
      w'.ownsRow w.heap.size 98 3 vo pr.length (Sh.opCells pr) ∧ Below w.heap.size w w' := by
  have hcb := blk_lt hb
  have HPP := hide hpp
  have HPO := hide hpo
  clear hpp hpo
  have c29 : w.cell? ⟨cb, 29, none⟩ = some (.int .i64 0) := blk_cell (j := 29) hb rfl
  have HB := hide hb
  clear hb
  go_enter Try.func43, Try.ntmps43
  go_wp2
  go_loop [5] (fun i => i = .int .i64 0) (fun _ => 0)
  case atStart => exact rfl
  case round =>
    subst hrel
    go_wp2_with (go_at_call 57; refine (HPO.out _ (by simp; omega) (Below.heap_alloc _ _ _ hcb)).mono ?_; rintro e w1 ⟨v1, rfl, hown1, hb1⟩; obtain ⟨g1, cap1, hv1, hgb1, hgw1⟩ := own_form3 hown1 HPP.out; rw [hv1]; have hcw := (hb1.block cb (by simp; omega)).trans ((Below.heap_alloc _ _ _ hcb).trans HB.out); have d29 : w1.cell? ⟨cb, 29, none⟩ = some (.int .i64 0) := blk_cell (j := 29) hcw rfl; have d8 : w1.cell? ⟨cb, 8, none⟩ = some (.int .i64 cac) := blk_cell (j := 8) hcw rfl; have hrw := (hb1.block w.heap.size (by simp)).trans (heap_alloc_new w _); have r0 := blk_cell (j := 0) hrw rfl; have r1 := blk_cell (j := 1) hrw rfl; have r2 := blk_cell (j := 2) hrw rfl; have r3 := blk_cell (j := 3) hrw rfl; have rfz := blk_frozen hrw; have hrz := blk_lt hrw; have hcz := blk_lt hcw; clear hcw)
    have dcac : decide (0 < cac) = false := by simp; omega
    go_quiet (fail)
    go_wp2
    have hs1 : w.heap.size + 1 ≤ w1.heap.size := by have := hb1.size; simp at this; omega
    rw [hv1] at hown1
    simp only [World.size_alloc] at hown1
    have hB : Below w.heap.size w w1 := ((Below.refl _ _).alloc (Nat.le_refl _) _).trans (hb1.mono (by simp))
    have hD : ∀ (wx : World) (n : Nat), Below w.heap.size wx (wx.drewN n) := fun wx n => ⟨rfl, rfl, rfl, Nat.le_refl _, fun _ _ => rfl⟩
    generalize hWf : World.setCell _ _ _ = Wf
    have fow : Wf.ownsRow w.heap.size 98 3 (.slice (some ⟨g1, 0, none⟩) pr.length cap1) pr.length (Sh.opCells pr) := by
      rw [← hWf]
      refine own_mono (base := w.heap.size + 1) ?_ (by omega)
      iterate 4 refine ownsRow_setCell_below ?_ (Nat.lt_succ_self _) _
      exact hown1.alloc _
    have fres : Wf.heap[w.heap.size]? = some (.cells #[.int .i64 G, .int .i64 O, .int .i64 Z, .slice (some ⟨g1, 0, none⟩) pr.length cap1] 49 (0, 0)) := by
      rw [← hWf]
      refine (blk_set (j := 3) (blk_set (j := 2) (blk_set (j := 1) (blk_set (j := 0) (c := #[.int .i64 0, .int .i64 0, .int .i64 0, .slice none 0 0]) (t := 49) (f := (0, 0)) ?_)))).trans ?_
      · exact (Below.heap_alloc _ _ _ (by omega)).trans hrw
      · simp
    have fbel : Below w.heap.size w Wf := by
      rw [← hWf]
      exact (((((hB.alloc (by omega) _).trans (hD _ _)).setCell (by simp) _).setCell (by simp) _).setCell (by simp) _).setCell (by simp) _
    have q0 : Wf.cell? ⟨w.heap.size, 0, none⟩ = some (.int .i64 G) := blk_cell fres rfl
    have q1 : Wf.cell? ⟨w.heap.size, 1, none⟩ = some (.int .i64 O) := blk_cell fres rfl
    have q2 : Wf.cell? ⟨w.heap.size, 2, none⟩ = some (.int .i64 Z) := blk_cell fres rfl
    have q3 : Wf.cell? ⟨w.heap.size, 3, none⟩ = some (.slice (some ⟨g1, 0, none⟩) pr.length cap1) := blk_cell fres rfl
    clear hWf
    exact bodyPost_ret (v := .agg #[.int .i64 G, .int .i64 O, .int .i64 Z, .slice (some ⟨g1, 0, none⟩) pr.length cap1]) (by simp [results, Try.results43, go_sem, q0, q1, q2, q3]) rfl ⟨_, rfl, fow, fbel⟩

theorem want_new (cb : Nat) (kind : Int) (K M : Nat) (N gd lev scr blk cac : Int) (w : World) (h : Sh.Ok kind K M N gd) (hcac : 1 ≤ cac) (hc4 : cac ≤ 4)
    (hb : w.heap[cb]? = some (.cells (Sh.coder kind K M N gd lev scr blk cac 0 0 0 0 (.slice none 0 0) 0) 54 (0, 0))) :
    Calls Try.prog 43 #[.pointer (some ⟨cb, 0, none⟩), .int .i64 0] w fun e w' => ∃ vo, e = .returned (.agg #[.int .i64 ((K * Sh.R kind N : Nat) : Int), .int .i64 ((M * Sh.R kind N : Nat) : Int), .int .i64 (Sh.prz kind K M N gd lev scr : Int), vo]) ∧
      w'.ownsRow w.heap.size 98 3 vo (Sh.prog kind K M N gd lev scr).length (Sh.opCells (Sh.prog kind K M N gd lev scr)) ∧
      w'.heap[cb]? = some (.cells (Sh.coder kind K M N gd lev scr blk cac 0 ((K * Sh.R kind N : Nat) : Int) ((M * Sh.R kind N : Nat) : Int) (Sh.prz kind K M N gd lev scr : Int) vo 1) 54 (0, 0)) ∧ w.grownBy w' (some cb) := by
  have hpp : 1 ≤ (Sh.prog kind K M N gd lev scr).length := (Sh.prog_good h lev scr).pos
  exact want_add cb 0 kind K M N gd lev scr blk cac _ _ _ (Sh.prog kind K M N gd lev scr) w hcac hc4 hpp hb (fun wx hx hbx => programOf_ok cb kind K M N gd lev scr wx h hx (blk_cell (hbx.trans hb) rfl) (blk_cell (hbx.trans hb) rfl) (blk_cell (hbx.trans hb) rfl) (blk_cell (hbx.trans hb) rfl) (blk_cell (hbx.trans hb) rfl) (blk_cell (hbx.trans hb) rfl) (blk_cell (hbx.trans hb) rfl))

end Go.Proofs.Ythhbpofcemoflab
