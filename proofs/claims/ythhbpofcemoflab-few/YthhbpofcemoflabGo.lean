import Derived.Test.YthhbpofcemoflabS4
import Derived.Test.YthhbpofcemoflabW18
import Derived.BigQuiet
namespace Go.Proofs.Ythhbpofcemoflab
open Go.RowKit
set_option maxRecDepth 20000
/-- the program to what is lost -/
def Sh.lsums (kind : Int) (K M : Nat) (N gd : Int) (q : Nat) : List Int := (Sh.lost kind K M N gd q).map Int.ofNat
def Sh.lprog (kind : Int) (K M : Nat) (N gd lev scr : Int) (q : Nat) : List (Int × Int × Int) := (Sh.opt lev scr (K * Sh.R kind N) (Sh.lost kind K M N gd q)).2
def Sh.lprz (kind : Int) (K M : Nat) (N gd lev scr : Int) (q : Nat) : Nat := (Sh.opt lev scr (K * Sh.R kind N) (Sh.lost kind K M N gd q)).1
theorem Sh.lsums_len (kind : Int) (K M : Nat) (N gd : Int) (q : Nat) : (Sh.lsums kind K M N gd q).length = (Sh.lo q (K + M)).length * Sh.R kind N := by unfold Sh.lsums; rw [List.length_map, Sh.lost_len]
theorem Sh.red_lt2 {ks : List (Nat × Nat)} {n : Nat} (hk : ∀ k ∈ ks, k.2 < 2 ^ n) {e : Nat × Nat} (he : e.2 < 2 ^ n) : (Sh.red ks e).2 < 2 ^ n := by
  unfold Sh.red
  induction ks generalizing e with
  | nil => exact he
  | cons k ks ih =>
    rw [List.foldl_cons]
    refine ih (fun k h => hk k (by simp [h])) ?_
    unfold Sh.stepR
    split
    · exact he
    · exact Nat.xor_lt_two_pow he (hk k (by simp))
theorem Sh.kn_lt2 {row : Nat → Nat} {n : Nat} (l : List Nat) (hl : l.length ≤ n) : ∀ k ∈ Sh.kn row l, k.2 < 2 ^ n := by
  have key : ∀ t, t ≤ l.length → ∀ k ∈ Sh.kn row (l.take t), k.2 < 2 ^ n := by
    intro t ht
    induction t with
    | zero => intro k hk; simp [Sh.kn] at hk
    | succ t ih =>
      have hx : t < l.length := by omega
      rw [List.take_add_one, List.getElem?_eq_getElem hx, Option.toList_some, Sh.kn_snoc]
      have hlt : (l.take t).length = t := by rw [List.length_take]; omega
      rw [hlt]
      intro k hk
      unfold Sh.addE at hk
      split at hk
      · exact ih (by omega) k hk
      · rw [List.mem_append, List.mem_singleton] at hk
        rcases hk with hk | rfl
        · exact ih (by omega) k hk
        · exact Sh.red_lt2 (ih (by omega)) (Nat.pow_lt_pow_right (by decide) (by omega))
  have := key l.length (Nat.le_refl _)
  rw [List.take_length] at this
  exact this
theorem Sh.ls_lt2 {row : Nat → Nat} {R q n : Nat} {ks : List (Nat × Nat)} (hk : ∀ k ∈ ks, k.2 < 2 ^ n) : ∀ i, ∀ s ∈ Sh.ls row R q ks i, s < 2 ^ n := by
  intro i
  induction i with
  | zero => intro s hs; simp [Sh.ls] at hs
  | succ i ih =>
    intro s hs
    simp only [Sh.ls] at hs
    split at hs
    · rw [List.mem_append, List.mem_singleton] at hs
      rcases hs with hs | rfl
      · exact ih s hs
      · exact Sh.red_lt2 hk (Nat.pow_pos (by decide))
    · exact ih s hs
theorem Sh.lost_lt (kind : Int) (K M : Nat) (N gd : Int) (q : Nat) : ∀ s ∈ Sh.lost kind K M N gd q, s < 2 ^ (K * Sh.R kind N) :=
  Sh.ls_lt2 (Sh.kn_lt2 _ (Sh.gi_len _ _ _ _).1) _
theorem Sh.lprog_good {kind : Int} {K M : Nat} {N gd : Int} (h : Sh.Ok kind K M N gd) (lev scr : Int) (q : Nat) (hlo1 : 1 ≤ (Sh.lo q (K + M)).length) (hlo : (Sh.lo q (K + M)).length ≤ M) : Sh.Good (K * Sh.R kind N) (Sh.lost kind K M N gd q) (Sh.lprz kind K M N gd lev scr q) (Sh.lprog kind K M N gd lev scr q) := by
  obtain ⟨hK, hM, h10, hR1, hR2, hKR, hMR, hPL⟩ := h.bounds
  exact Sh.opt_good lev scr (Nat.mul_pos hK hR1) hKR (Sh.lost_lt kind K M N gd q) (by rw [Sh.lost_len]; exact Nat.mul_pos hlo1 hR1) (by rw [Sh.lost_len]; exact Nat.le_trans (Nat.mul_le_mul_right _ hlo) hMR)
theorem programOf_q (cb : Nat) (kind : Int) (K M : Nat) (N gd lev scr : Int) (q : Nat) (w : World) (h : Sh.Ok kind K M N gd) (hP : Sh.Pb kind K M N gd) (hq : q < 2 ^ 20) (hq0 : q ≠ 0) (hlo1 : 1 ≤ (Sh.lo q (K + M)).length) (hlo : (Sh.lo q (K + M)).length ≤ M) (hcb : cb < w.heap.size)
    (c0 : w.cell? ⟨cb, 0, none⟩ = some (.int .i64 kind)) (c1 : w.cell? ⟨cb, 1, none⟩ = some (.int .i64 K)) (c2 : w.cell? ⟨cb, 2, none⟩ = some (.int .i64 M)) (c3 : w.cell? ⟨cb, 3, none⟩ = some (.int .i64 N)) (c4 : w.cell? ⟨cb, 4, none⟩ = some (.int .i64 gd)) (c5 : w.cell? ⟨cb, 5, none⟩ = some (.int .i64 lev)) (c6 : w.cell? ⟨cb, 6, none⟩ = some (.int .i64 scr)) :
    Calls Try.prog 57 #[.pointer (some ⟨cb, 0, none⟩), .int .i64 q] w fun e w' => ∃ vo, e = .returned (.agg #[.int .i64 ((K * Sh.R kind N : Nat) : Int), .int .i64 (((Sh.lo q (K + M)).length * Sh.R kind N : Nat) : Int), .int .i64 (Sh.lprz kind K M N gd lev scr q : Int), vo]) ∧
      w'.ownsRow w.heap.size 98 3 vo (Sh.lprog kind K M N gd lev scr q).length (Sh.opCells (Sh.lprog kind K M N gd lev scr q)) ∧ Below w.heap.size w w' := by
  obtain ⟨hK, hM, h10, hR1, hR2, hKR, hMR, hPL⟩ := h.bounds
  have hl := Sh.lost_len kind K M N gd q
  have := programOf_gen cb kind K M N gd lev scr q (Sh.lost kind K M N gd q) w h hcb c0 c1 c2 c3 c4 c5 c6 (by rw [hl]; exact Nat.mul_pos hlo1 hR1) (by rw [hl]; exact Nat.le_trans (Nat.mul_le_mul_right _ hlo) hMR) (Sh.lost_lt kind K M N gd q)
    (fun h0 => absurd h0 (by omega)) (fun _ w => lost_ok kind K M N gd q w h hP hq hlo)
  rw [hl] at this
  exact this
end Go.Proofs.Ythhbpofcemoflab
namespace Go.Proofs.Ythhbpofcemoflab
open Go.RowKit
set_option maxRecDepth 20000
set_option maxHeartbeats 2000000 in
theorem want_more (cb : Nat) (q : Int) (hq : q ≠ 0) (kind : Int) (K M : Nat) (N gd lev scr blk cac g0 o0 z0 : Int) (v0 : Value) (G O Z : Int) (pr : List (Int × Int × Int)) (w : World) (hcac : 2 ≤ cac) (hc4 : cac ≤ 4) (hpp : 1 ≤ pr.length)
    (hb : w.heap[cb]? = some (.cells (Sh.coder kind K M N gd lev scr blk cac 0 g0 o0 z0 v0 1) 54 (0, 0)))
    (hpo : ∀ (wx : World), cb < wx.heap.size → wx.heap[cb]? = w.heap[cb]? → Calls Try.prog 57 #[.pointer (some ⟨cb, 0, none⟩), .int .i64 q] wx fun e w' => ∃ vo, e = .returned (.agg #[.int .i64 G, .int .i64 O, .int .i64 Z, vo]) ∧
      w'.ownsRow wx.heap.size 98 3 vo pr.length (Sh.opCells pr) ∧ Below wx.heap.size wx w') :
    Calls Try.prog 43 #[.pointer (some ⟨cb, 0, none⟩), .int .i64 q] w fun e w' => ∃ vo, e = .returned (.agg #[.int .i64 G, .int .i64 O, .int .i64 Z, vo]) ∧
      w'.ownsRow w.heap.size 98 3 vo pr.length (Sh.opCells pr) ∧
      w'.heap[cb]? = some (.cells ((((((( Sh.coder kind K M N gd lev scr blk cac 0 g0 o0 z0 v0 1).setIfInBounds 14 (.int .i64 q)).setIfInBounds 15 (.int .i64 G)).setIfInBounds 16 (.int .i64 O)).setIfInBounds 17 (.int .i64 Z)).setIfInBounds 18 vo).setIfInBounds 29 (.int .i64 2)) 54 (0, 0)) ∧ w.grownBy w' (some cb) := by
  have hcb := blk_lt hb
  have HPP := hide hpp
  have HPO := hide hpo
  clear hpp hpo
  have c29 : w.cell? ⟨cb, 29, none⟩ = some (.int .i64 1) := blk_cell (j := 29) hb rfl
  have c9 : w.cell? ⟨cb, 9, none⟩ = some (.int .i64 0) := blk_cell (j := 9) hb rfl
  have hq1 : ((0 : Int) == q) = false := by simp; omega
  have hq2 : ¬ ((0 : Int) = q) := by omega
  have HB := hide hb
  clear hb
  go_enter Try.func43, Try.ntmps43
  go_wp2
  go_loop [5] (fun i => i = .int .i64 0 ∨ i = .int .i64 1) (fun i => 1 - (intOf i).toNat)
  case atStart => exact Or.inl rfl
  case round =>
    rcases hrel with rfl | rfl
    · go_wp2
      go_round
      case rel => exact Or.inr rfl
      case measure => decide
    · go_wp2_with (go_at_call 57; refine (HPO.out _ (by simp; omega) (Below.heap_alloc _ _ _ hcb)).mono ?_; rintro e w1 ⟨v1, rfl, hown1, hb1⟩; obtain ⟨g1, cap1, hv1, hgb1, hgw1⟩ := own_form3 hown1 HPP.out; rw [hv1]; have hcw := (hb1.block cb (by simp; omega)).trans ((Below.heap_alloc _ _ _ hcb).trans HB.out); have hcz := blk_lt hcw; have d29 : w1.cell? ⟨cb, 29, none⟩ = some (.int .i64 1) := blk_cell (j := 29) hcw rfl; have d8 : w1.cell? ⟨cb, 8, none⟩ = some (.int .i64 cac) := blk_cell (j := 8) hcw rfl; have d14 : w1.cell? ⟨cb, 14, none⟩ = some (.int .i64 0) := blk_cell (j := 14) hcw rfl; have d15 : w1.cell? ⟨cb, 15, none⟩ = some (.int .i64 0) := blk_cell (j := 15) hcw rfl; have d16 : w1.cell? ⟨cb, 16, none⟩ = some (.int .i64 0) := blk_cell (j := 16) hcw rfl; have d17 : w1.cell? ⟨cb, 17, none⟩ = some (.int .i64 0) := blk_cell (j := 17) hcw rfl; have d18 : w1.cell? ⟨cb, 18, none⟩ = some (.slice none 0 0) := blk_cell (j := 18) hcw rfl; have dfz := blk_frozen hcw; have hrw := (hb1.block w.heap.size (by simp)).trans (heap_alloc_new w _); have r0 := blk_cell (j := 0) hrw rfl; have r1 := blk_cell (j := 1) hrw rfl; have r2 := blk_cell (j := 2) hrw rfl; have r3 := blk_cell (j := 3) hrw rfl; have rfz := blk_frozen hrw; have hrz := blk_lt hrw)
      have dcac : decide (1 < cac) = true := by simp; omega
      go_quiet (fail)
      go_wp2
      go_region
      all_goals go_wp2
      have hs1 : w.heap.size + 1 ≤ w1.heap.size := by have := hb1.size; simp at this; omega
      rw [hv1] at hown1
      simp only [World.size_alloc] at hown1
      have hne0 : cb ≠ w.heap.size := by omega
      generalize hWf : World.setCell _ _ _ = Wf
      have fow : Wf.ownsRow w.heap.size 98 3 (.slice (some ⟨g1, 0, none⟩) pr.length cap1) pr.length (Sh.opCells pr) := by
        rw [← hWf]
        refine own_mono (base := w.heap.size + 1) ?_ (by omega)
        iterate 4 refine ownsRow_setCell_below ?_ (Nat.lt_succ_self _) _
        iterate 6 refine ownsRow_setCell_below ?_ (Nat.lt_succ_of_lt hcb) _
        exact hown1.alloc _
      have fres : Wf.heap[w.heap.size]? = some (.cells #[.int .i64 G, .int .i64 O, .int .i64 Z, .slice (some ⟨g1, 0, none⟩) pr.length cap1] 49 (0, 0)) := by
        rw [← hWf]
        refine (blk_set (j := 3) (blk_set (j := 2) (blk_set (j := 1) (blk_set (j := 0) (c := #[.int .i64 0, .int .i64 0, .int .i64 0, .slice none 0 0]) (t := 49) (f := (0, 0)) ?_)))).trans ?_
        · iterate 6 rw [Below.heap_setCell _ _ _ _ hne0.symm]
          exact (Below.heap_alloc _ _ _ (by omega)).trans hrw
        · simp
      have fcb : Wf.heap[cb]? = some (.cells ((((((( Sh.coder kind K M N gd lev scr blk cac 0 g0 o0 z0 v0 1).setIfInBounds 14 (.int .i64 q)).setIfInBounds 15 (.int .i64 G)).setIfInBounds 16 (.int .i64 O)).setIfInBounds 17 (.int .i64 Z)).setIfInBounds 18 (.slice (some ⟨g1, 0, none⟩) pr.length cap1)).setIfInBounds 29 (.int .i64 2)) 54 (0, 0)) := by
        rw [← hWf]
        iterate 4 rw [Below.heap_setCell _ _ _ _ hne0]
        refine (blk_set (j := 29) (blk_set (j := 18) (blk_set (j := 17) (blk_set (j := 16) (blk_set (j := 15) (blk_set (j := 14) (c := Sh.coder kind K M N gd lev scr blk cac 0 g0 o0 z0 v0 1) (t := 54) (f := (0, 0)) ?_))))))
        exact (Below.heap_alloc _ _ _ hcz).trans hcw
      have fgr : w.grownBy Wf (some cb) := by
        rw [← hWf]
        iterate 4 refine grown_set_new ?_ (Nat.le_refl _) _
        iterate 6 refine grown_set ?_ _
        exact grown_drewN (grown_alloc (grown_below (grown_alloc (grown_refl w _) _) hb1) _) _
      have q0 : Wf.cell? ⟨w.heap.size, 0, none⟩ = some (.int .i64 G) := blk_cell fres rfl
      have q1 : Wf.cell? ⟨w.heap.size, 1, none⟩ = some (.int .i64 O) := blk_cell fres rfl
      have q2 : Wf.cell? ⟨w.heap.size, 2, none⟩ = some (.int .i64 Z) := blk_cell fres rfl
      have q3 : Wf.cell? ⟨w.heap.size, 3, none⟩ = some (.slice (some ⟨g1, 0, none⟩) pr.length cap1) := blk_cell fres rfl
      clear hWf
      exact bodyPost_ret (v := .agg #[.int .i64 G, .int .i64 O, .int .i64 Z, .slice (some ⟨g1, 0, none⟩) pr.length cap1]) (by simp [results, Try.results43, go_sem, q0, q1, q2, q3]) rfl ⟨_, rfl, fow, fcb, fgr⟩

set_option maxHeartbeats 2000000 in
theorem want_full (cb : Nat) (q : Int) (hq : q ≠ 0) (kind : Int) (K M : Nat) (N gd lev scr blk cac g0 o0 z0 : Int) (v0 : Value) (G O Z : Int) (pr : List (Int × Int × Int)) (w : World) (hcac : cac ≤ 1) (hpp : 1 ≤ pr.length)
    (hb : w.heap[cb]? = some (.cells (Sh.coder kind K M N gd lev scr blk cac 0 g0 o0 z0 v0 1) 54 (0, 0)))
    (hpo : ∀ (wx : World), cb < wx.heap.size → wx.heap[cb]? = w.heap[cb]? → Calls Try.prog 57 #[.pointer (some ⟨cb, 0, none⟩), .int .i64 q] wx fun e w' => ∃ vo, e = .returned (.agg #[.int .i64 G, .int .i64 O, .int .i64 Z, vo]) ∧
      w'.ownsRow wx.heap.size 98 3 vo pr.length (Sh.opCells pr) ∧ Below wx.heap.size wx w') :
    Calls Try.prog 43 #[.pointer (some ⟨cb, 0, none⟩), .int .i64 q] w fun e w' => ∃ vo, e = .returned (.agg #[.int .i64 G, .int .i64 O, .int .i64 Z, vo]) ∧
      w'.ownsRow w.heap.size 98 3 vo pr.length (Sh.opCells pr) ∧ Below w.heap.size w w' := by
  have hcb := blk_lt hb
  have HPP := hide hpp
  have HPO := hide hpo
  clear hpp hpo
  have c29 : w.cell? ⟨cb, 29, none⟩ = some (.int .i64 1) := blk_cell (j := 29) hb rfl
  have c9 : w.cell? ⟨cb, 9, none⟩ = some (.int .i64 0) := blk_cell (j := 9) hb rfl
  have hq1 : ((0 : Int) == q) = false := by simp; omega
  have hq2 : ¬ ((0 : Int) = q) := by omega
  have HB := hide hb
  clear hb
  go_enter Try.func43, Try.ntmps43
  go_wp2
  go_loop [5] (fun i => i = .int .i64 0 ∨ i = .int .i64 1) (fun i => 1 - (intOf i).toNat)
  case atStart => exact Or.inl rfl
  case round =>
    rcases hrel with rfl | rfl
    · go_wp2
      go_round
      case rel => exact Or.inr rfl
      case measure => decide
    · go_wp2_with (go_at_call 57; refine (HPO.out _ (by simp; omega) (Below.heap_alloc _ _ _ hcb)).mono ?_; rintro e w1 ⟨v1, rfl, hown1, hb1⟩; obtain ⟨g1, cap1, hv1, hgb1, hgw1⟩ := own_form3 hown1 HPP.out; rw [hv1]; have hcw := (hb1.block cb (by simp; omega)).trans ((Below.heap_alloc _ _ _ hcb).trans HB.out); have d29 : w1.cell? ⟨cb, 29, none⟩ = some (.int .i64 1) := blk_cell (j := 29) hcw rfl; have d8 : w1.cell? ⟨cb, 8, none⟩ = some (.int .i64 cac) := blk_cell (j := 8) hcw rfl; have hrw := (hb1.block w.heap.size (by simp)).trans (heap_alloc_new w _); have r0 := blk_cell (j := 0) hrw rfl; have r1 := blk_cell (j := 1) hrw rfl; have r2 := blk_cell (j := 2) hrw rfl; have r3 := blk_cell (j := 3) hrw rfl; have rfz := blk_frozen hrw; have hrz := blk_lt hrw; have hcz := blk_lt hcw; clear hcw)
      have dcac : decide (1 < cac) = false := by simp; omega
      go_quiet (fail)
      go_wp2
      have hs1 : w.heap.size + 1 ≤ w1.heap.size := by have := hb1.size; simp at this; omega
      rw [hv1] at hown1
      simp only [World.size_alloc] at hown1
      have hB : Below w.heap.size w w1 := ((Below.refl _ _).alloc (Nat.le_refl _) _).trans (hb1.mono (by simp))
      have hD : ∀ (wx : World) (n : Nat), Below w.heap.size wx (wx.drewN n) := fun wx n => ⟨rfl, rfl, rfl, Nat.le_refl _, fun _ _ => rfl⟩
      generalize hWf : World.setCell _ _ _ = Wf
      have fow : Wf.ownsRow w.heap.size 98 3 (.slice (some ⟨g1, 0, none⟩) pr.length cap1) pr.length (Sh.opCells pr) := by
        rw [← hWf]
        refine own_mono (base := w.heap.size + 1) ?_ (by omega)
        iterate 4 refine ownsRow_setCell_below ?_ (Nat.lt_succ_self _) _
        exact hown1.alloc _
      have fres : Wf.heap[w.heap.size]? = some (.cells #[.int .i64 G, .int .i64 O, .int .i64 Z, .slice (some ⟨g1, 0, none⟩) pr.length cap1] 49 (0, 0)) := by
        rw [← hWf]
        refine (blk_set (j := 3) (blk_set (j := 2) (blk_set (j := 1) (blk_set (j := 0) (c := #[.int .i64 0, .int .i64 0, .int .i64 0, .slice none 0 0]) (t := 49) (f := (0, 0)) ?_)))).trans ?_
        · exact (Below.heap_alloc _ _ _ (by omega)).trans hrw
        · simp
      have fbel : Below w.heap.size w Wf := by
        rw [← hWf]
        exact (((((hB.alloc (by omega) _).trans (hD _ _)).setCell (by simp) _).setCell (by simp) _).setCell (by simp) _).setCell (by simp) _
      have q0 : Wf.cell? ⟨w.heap.size, 0, none⟩ = some (.int .i64 G) := blk_cell fres rfl
      have q1 : Wf.cell? ⟨w.heap.size, 1, none⟩ = some (.int .i64 O) := blk_cell fres rfl
      have q2 : Wf.cell? ⟨w.heap.size, 2, none⟩ = some (.int .i64 Z) := blk_cell fres rfl
      have q3 : Wf.cell? ⟨w.heap.size, 3, none⟩ = some (.slice (some ⟨g1, 0, none⟩) pr.length cap1) := blk_cell fres rfl
      clear hWf
      exact bodyPost_ret (v := .agg #[.int .i64 G, .int .i64 O, .int .i64 Z, .slice (some ⟨g1, 0, none⟩) pr.length cap1]) (by simp [results, Try.results43, go_sem, q0, q1, q2, q3]) rfl ⟨_, rfl, fow, fbel⟩

end Go.Proofs.Ythhbpofcemoflab
