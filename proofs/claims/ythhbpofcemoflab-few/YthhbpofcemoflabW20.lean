import Derived.Test.YthhbpofcemoflabW19
namespace Go.Proofs.Ythhbpofcemoflab
open Go.RowKit
set_option maxRecDepth 20000

set_option maxHeartbeats 1000000 in
theorem want_kept (cb : Nat) (kind K M N gd lev scr blk cac g0 o0 z0 : Int) (go L co : Nat) (w : World)
    (hb : w.heap[cb]? = some (.cells (Sh.coder kind K M N gd lev scr blk cac 0 g0 o0 z0 (.slice (some ⟨go, 0, none⟩) L co) 1) 54 (0, 0))) :
    Calls Try.prog 43 #[.pointer (some ⟨cb, 0, none⟩), .int .i64 0] w fun e w' => e = .returned (.agg #[.int .i64 g0, .int .i64 o0, .int .i64 z0, .slice (some ⟨go, 0, none⟩) L co]) ∧ Below w.heap.size w w' := by
  have hcb := blk_lt hb
  have c29 : w.cell? ⟨cb, 29, none⟩ = some (.int .i64 1) := blk_cell (j := 29) hb rfl
  have c9 : w.cell? ⟨cb, 9, none⟩ = some (.int .i64 0) := blk_cell (j := 9) hb rfl
  have c10 : w.cell? ⟨cb, 10, none⟩ = some (.int .i64 g0) := blk_cell (j := 10) hb rfl
  have c11 : w.cell? ⟨cb, 11, none⟩ = some (.int .i64 o0) := blk_cell (j := 11) hb rfl
  have c12 : w.cell? ⟨cb, 12, none⟩ = some (.int .i64 z0) := blk_cell (j := 12) hb rfl
  have c13 : w.cell? ⟨cb, 13, none⟩ = some (.slice (some ⟨go, 0, none⟩) L co) := blk_cell (j := 13) hb rfl
  clear hb
  go_enter Try.func43, Try.ntmps43
  go_wp2
  go_loop [5] (fun i => i = .int .i64 0) (fun _ => 0)
  case atStart => exact rfl
  case round =>
    subst hrel
    go_wp2
    refine bodyPost_ret (v := .agg #[.int .i64 g0, .int .i64 o0, .int .i64 z0, .slice (some ⟨go, 0, none⟩) L co]) (by simp [results, Try.results43, go_sem]) rfl ⟨rfl, ?_⟩
    first | exact (Below.refl _ _).alloc (Nat.le_refl _) _ | exact (((((Below.refl _ _).alloc (Nat.le_refl _) _).setCell (by simp) _).setCell (by simp) _).setCell (by simp) _).setCell (by simp) _

set_option maxHeartbeats 400000 in
theorem crows_ok (cb : Nat) (kind : Int) (K M : Nat) (N gd : Int) (w : World) (h : Sh.Ok kind K M N gd)
    (c0 : w.cell? ⟨cb, 0, none⟩ = some (.int .i64 kind)) (c1 : w.cell? ⟨cb, 1, none⟩ = some (.int .i64 K)) (c2 : w.cell? ⟨cb, 2, none⟩ = some (.int .i64 M)) (c3 : w.cell? ⟨cb, 3, none⟩ = some (.int .i64 N)) (c4 : w.cell? ⟨cb, 4, none⟩ = some (.int .i64 gd)) :
    Calls Try.prog 13 #[.pointer (some ⟨cb, 0, none⟩)] w fun e w' => e = .returned (.int .i64 (Sh.R kind N)) ∧ Below w.heap.size w w' := by
  have HR := hide (fun w => rows_ok kind K M N gd w h)
  clear h
  generalize hR : Sh.R kind N = R at *
  clear hR
  go_enter Try.func13, Try.ntmps13
  go_wp2_with (go_at_call 23; refine (HR.out _).mono ?_; rintro e w1 ⟨rfl, hb1⟩)
  go_ret
  exact ⟨rfl, hb1⟩

set_option maxHeartbeats 400000 in
theorem set_ok (lev scr blk cac : Int) (w : World) (h1 : 0 ≤ lev) (h2 : lev ≤ 3) (h3 : 0 ≤ scr) (h4 : scr ≤ 16) (h5 : 1 ≤ blk) (h6 : blk ≤ 64) (h7 : 0 ≤ cac) (h8 : cac ≤ 4) :
    Calls Try.prog 27 #[.agg #[.int .i64 lev, .int .i64 scr, .int .i64 blk, .int .i64 cac]] w fun e w' => e = .returned (.bool true) ∧ Below w.heap.size w w' := by
  have d1 : decide (cac ≤ 4) = true := by simp; omega
  go_enter Try.func27, Try.ntmps27
  go_wp2
  go_ret
  exact ⟨rfl, (Below.refl _ _).alloc (Nat.le_refl _) _⟩

set_option maxHeartbeats 1000000 in
theorem new_ok (kind : Int) (K M : Nat) (N gd lev scr blk cac : Int) (w : World) (h : Sh.Ok kind K M N gd) (h1 : 0 ≤ lev) (h2 : lev ≤ 3) (h3 : 0 ≤ scr) (h4 : scr ≤ 16) (h5 : 1 ≤ blk) (h6 : blk ≤ 64) (h7 : 0 ≤ cac) (h8 : cac ≤ 4) :
    Calls Try.prog 15 #[.agg #[.int .i64 kind, .int .i64 K, .int .i64 M, .int .i64 N, .int .i64 gd], .agg #[.int .i64 lev, .int .i64 scr, .int .i64 blk, .int .i64 cac]] w
      fun e w' => ∃ cb, e = .returned (.tuple #[.pointer (some ⟨cb, 0, none⟩), .int .i64 0]) ∧ w.heap.size ≤ cb ∧ w'.heap[cb]? = some (.cells (Sh.coder kind K M N gd lev scr blk cac 0 0 0 0 (.slice none 0 0) 0) 54 (0, 0)) ∧ Below w.heap.size w w' := by
  have HE := hide (fun w => ex_ok kind K M N gd w h)
  have HS := hide (fun w => set_ok lev scr blk cac w h1 h2 h3 h4 h5 h6 h7 h8)
  clear h
  go_enter Try.func15, Try.ntmps15
  go_wp2_with (first | (go_at_call 26; refine (HE.out _).mono ?_; rintro e w1 ⟨rfl, hb1⟩; have p0 := box_cell2 hb1 (by simp <;> omega) 0 rfl; have p1 := box_cell2 hb1 (by simp <;> omega) 1 rfl; have p2 := box_cell2 hb1 (by simp <;> omega) 2 rfl; have p3 := box_cell2 hb1 (by simp <;> omega) 3 rfl; have p4 := box_cell2 hb1 (by simp <;> omega) 4 rfl; have q0 := box_cell2b hb1 (by simp <;> omega) 0 rfl; have q1 := box_cell2b hb1 (by simp <;> omega) 1 rfl; have q2 := box_cell2b hb1 (by simp <;> omega) 2 rfl; have q3 := box_cell2b hb1 (by simp <;> omega) 3 rfl; have hs1 := box_size2 hb1) | (go_at_call 27; refine (HS.out _).mono ?_; rintro e w2 ⟨rfl, hb2⟩; have hb12 := hb1.trans (hb2.mono hb1.size); have p0 := box_cell2 hb12 (by simp <;> omega) 0 rfl; have p1 := box_cell2 hb12 (by simp <;> omega) 1 rfl; have p2 := box_cell2 hb12 (by simp <;> omega) 2 rfl; have p3 := box_cell2 hb12 (by simp <;> omega) 3 rfl; have p4 := box_cell2 hb12 (by simp <;> omega) 4 rfl; have q0 := box_cell2b hb12 (by simp <;> omega) 0 rfl; have q1 := box_cell2b hb12 (by simp <;> omega) 1 rfl; have q2 := box_cell2b hb12 (by simp <;> omega) 2 rfl; have q3 := box_cell2b hb12 (by simp <;> omega) 3 rfl; have hs2 := hb2.size))
  go_ret2
  refine ⟨w2.heap.size, rfl, by omega, ?_, ?_⟩
  · exact heap_alloc_new w2 _
  · exact ((((Below.refl _ _).alloc (Nat.le_refl _) _).alloc (by simp) _).trans (hb12.mono (by simp; omega))).alloc (by omega) _

set_option maxHeartbeats 400000 in
theorem best_ok (kind : Int) (K M : Nat) (N gd : Int) (w : World) (h : Sh.Ok kind K M N gd) :
    Calls Try.prog 12 #[.agg #[.int .i64 kind, .int .i64 K, .int .i64 M, .int .i64 N, .int .i64 gd]] w
      fun e w' => ∃ cb, e = .returned (.pointer (some ⟨cb, 0, none⟩)) ∧ w.heap.size ≤ cb ∧ w'.heap[cb]? = some (.cells (Sh.coder kind K M N gd 3 8 16 2 0 0 0 0 (.slice none 0 0) 0) 54 (0, 0)) ∧ Below w.heap.size w w' := by
  have HN := hide (fun w => new_ok kind K M N gd 3 8 16 2 w h (by decide) (by decide) (by decide) (by decide) (by decide) (by decide) (by decide) (by decide))
  clear h
  go_enter Try.func12, Try.ntmps12
  go_wp2_with (go_at_call 15; refine (HN.out _).mono ?_; rintro e w1 ⟨cb, rfl, hcb, hco, hb1⟩)
  go_ret
  exact ⟨cb, rfl, by simp at hcb; omega, hco, ((Below.refl _ _).alloc (Nat.le_refl _) _).trans (hb1.mono (by simp))⟩
end Go.Proofs.Ythhbpofcemoflab
