import Derived.Test.YthhbpofcemoflabW12
import Derived.Test.YthhbpofcemoflabGb
import Derived.BigQuiet
import Derived.Deep.QuietTactic
namespace Go.Proofs.Ythhbpofcemoflab
open Go.RowKit
set_option maxRecDepth 20000

set_option maxHeartbeats 2000000 in
theorem do_0 (t f G n cap gr mb bt rf rof cf ct size start fin : Nat) (xs fs : List Int) (w : World)
  (h1 : G ≤ t) (h2 : t < n) (h3 : f < n) (hs : size ≤ 48) (hfin : fin ≤ size) (hst : start ≤ fin)
  (hmb : mb < w.heap.size) (hgr : gr < w.heap.size) (hrf : rf < w.heap.size) (hne : rf ≠ bt)
  (m0 : w.cell? ⟨mb, 0, none⟩ = some (.int .i64 G)) (m1 : w.cell? ⟨mb, 1, none⟩ = some (.slice (some ⟨gr, 0, none⟩) n cap))
  (rt : w.cell? ⟨gr, t, none⟩ = some (.slice (some ⟨bt, 0, none⟩) size ct))
  (rfr : w.cell? ⟨gr, f, none⟩ = some (.slice (some ⟨rf, rof, none⟩) size cf))
  (hx : xs.length = size) (hf : fs.length = size) (hb : w.heap[bt]? = some (.cells (xs.map (Value.int .u8)).toArray 5 (0, 0)))
  (hfs : ∀ (i : Nat) (x : Int), fs[i]? = some x → w.cell? ⟨rf, rof + i, none⟩ = some (.int .u8 x)) :
    Calls Try.prog 64 #[.pointer (some ⟨mb, 0, none⟩), .agg #[.int .i64 0, .int .i64 t, .int .i64 f], .int .i64 start, .int .i64 fin] w
      fun e w' => e = .returned (.tuple #[]) ∧ w'.heap[bt]? = some (.cells ((Sh.upd 0 xs fs start fin).map (Value.int .u8)).toArray 5 (0, 0)) ∧ w.grownBy w' (some bt) := by
  have hbt := blk_lt hb
  have HF : Hid (∀ (i : Nat) (x : Int), fs[i]? = some x → w.cell? ⟨rf, rof + i, none⟩ = some (.int .u8 x)) := hfs
  have Hx : Hid (xs.length = size) := hx
  have Hf : Hid (fs.length = size) := hf
  have Hb : Hid (w.heap[bt]? = some (.cells (xs.map (Value.int .u8)).toArray 5 (0, 0))) := hb
  clear hfs hx hf hb
  have d1 : decide (t < G) = false := by simp; omega
  have d2 : decide (n ≤ t) = false := by simp; omega
  have d3 : decide ((f : Int) < 0) = false := by simp
  have d4 : decide (n ≤ f) = false := by simp; omega
  go_enter Try.func64, Try.ntmps64
  go_wp2
  go_quiet (fail)
  go_wp2
  go_quiet (fail)
  go_wp2
  go_quiet (fail)
  go_wp2
  clear m0 m1 rt rfr
  go_loopw [10, 79, 84, 93] (fun i _ _ _ wr => ∃ k : Nat, start ≤ k ∧ k ≤ fin ∧ i = .int .i64 k ∧ wr.heap[bt]? = some (.cells ((Sh.upd 0 xs fs start k).map (Value.int .u8)).toArray 5 (0, 0)) ∧ (w.alloc (.cells #[.int .i64 0, .int .i64 t, .int .i64 f] 98)).grownBy wr (some bt)) (fun i _ _ _ _ => fin - (intOf i).toNat)
  case atStart => exact ⟨start, Nat.le_refl _, hst, rfl, by rw [Sh.upd_self]; exact (Below.heap_alloc _ _ _ hbt).trans Hb.out, grown_drewN (grown_drewN (grown_drewN (grown_refl _ _) _) _) _⟩
  case round =>
    obtain ⟨k, hk0, hk, rfl, hbk, hgb⟩ := hrel
    have hcb : ∀ j, wr.cell? ⟨w.heap.size, j, none⟩ = #[Value.int .i64 0, Value.int .i64 t, Value.int .i64 f][j]? := fun j => (grown_cell hgb (by simp) (by omega)).trans (cell_of_row _ _ j _ _ (0, 0) (heap_alloc_new w _))
    have hc0 := hcb 0
    clear hcb
    have hsz : w.heap.size < wr.heap.size := by have := hgb.size; simp at this; omega
    by_cases hlt : k < fin
    · have hkx : k < xs.length := by rw [Hx.out]; omega
      have hkf : k < fs.length := by rw [Hf.out]; omega
      have HU : Hid _ := Sh.upd_step (kind := 0) hk0 (List.getElem?_eq_getElem hkx) (List.getElem?_eq_getElem hkf)
      have hcx := blk_cell (u := .int .u8 xs[k]) (j := k) hbk (by simp [Sh.upd_at (List.getElem?_eq_getElem hkx)])
      have hcf : wr.cell? ⟨rf, rof + k, none⟩ = some (.int .u8 fs[k]) := ((grown_cell hgb (by simp; omega) hne).trans (World.cell?_of_block (Below.heap_alloc _ _ _ hrf))).trans (HF.out k _ (List.getElem?_eq_getElem hkf))
      have hfz := blk_frozen hbk k
      have Hbk : Hid _ := hbk
      clear hbk
      generalize hx0 : xs[k] = x0 at *
      generalize hf0 : fs[k] = f0 at *
      clear hx0 hf0
      go_wp2
      go_roundw
      case rel => exact ⟨k + 1, by omega, by omega, by go_num, by rw [← HU.out]; exact blk_set Hbk.out, grown_set hgb _⟩
      case measure => simp [intOf]; omega
    · have hkd : k = fin := by omega
      subst hkd
      go_wp2
      go_end0
      exact ⟨rfl, hbk, hgb.os, hgb.tape, hgb.output, by have := hgb.size; simp at this; omega, fun i hi hne => (hgb.block i (by simp; omega) hne).trans (Below.heap_alloc _ _ _ hi)⟩

set_option maxHeartbeats 2000000 in
theorem do_1 (t f G n cap gr mb bt rf rof cf ct size start fin : Nat) (xs fs : List Int) (w : World)
  (h1 : G ≤ t) (h2 : t < n) (h3 : f < n) (hs : size ≤ 48) (hfin : fin ≤ size) (hst : start ≤ fin)
  (hmb : mb < w.heap.size) (hgr : gr < w.heap.size) (hrf : rf < w.heap.size) (hne : rf ≠ bt)
  (m0 : w.cell? ⟨mb, 0, none⟩ = some (.int .i64 G)) (m1 : w.cell? ⟨mb, 1, none⟩ = some (.slice (some ⟨gr, 0, none⟩) n cap))
  (rt : w.cell? ⟨gr, t, none⟩ = some (.slice (some ⟨bt, 0, none⟩) size ct))
  (rfr : w.cell? ⟨gr, f, none⟩ = some (.slice (some ⟨rf, rof, none⟩) size cf))
  (hx : xs.length = size) (hf : fs.length = size) (hb : w.heap[bt]? = some (.cells (xs.map (Value.int .u8)).toArray 5 (0, 0)))
  (hfs : ∀ (i : Nat) (x : Int), fs[i]? = some x → w.cell? ⟨rf, rof + i, none⟩ = some (.int .u8 x)) :
    Calls Try.prog 64 #[.pointer (some ⟨mb, 0, none⟩), .agg #[.int .i64 1, .int .i64 t, .int .i64 f], .int .i64 start, .int .i64 fin] w
      fun e w' => e = .returned (.tuple #[]) ∧ w'.heap[bt]? = some (.cells ((Sh.upd 1 xs fs start fin).map (Value.int .u8)).toArray 5 (0, 0)) ∧ w.grownBy w' (some bt) := by
  have hbt := blk_lt hb
  have HF : Hid (∀ (i : Nat) (x : Int), fs[i]? = some x → w.cell? ⟨rf, rof + i, none⟩ = some (.int .u8 x)) := hfs
  have Hx : Hid (xs.length = size) := hx
  have Hf : Hid (fs.length = size) := hf
  have Hb : Hid (w.heap[bt]? = some (.cells (xs.map (Value.int .u8)).toArray 5 (0, 0))) := hb
  clear hfs hx hf hb
  have d1 : decide (t < G) = false := by simp; omega
  have d2 : decide (n ≤ t) = false := by simp; omega
  have d3 : decide ((f : Int) < 0) = false := by simp
  have d4 : decide (n ≤ f) = false := by simp; omega
  go_enter Try.func64, Try.ntmps64
  go_wp2
  go_quiet (fail)
  go_wp2
  go_quiet (fail)
  go_wp2
  go_quiet (fail)
  go_wp2
  clear m0 m1 rt rfr
  go_loopw [10, 79, 84, 93] (fun i _ _ _ wr => ∃ k : Nat, start ≤ k ∧ k ≤ fin ∧ i = .int .i64 k ∧ wr.heap[bt]? = some (.cells ((Sh.upd 1 xs fs start k).map (Value.int .u8)).toArray 5 (0, 0)) ∧ (w.alloc (.cells #[.int .i64 1, .int .i64 t, .int .i64 f] 98)).grownBy wr (some bt)) (fun i _ _ _ _ => fin - (intOf i).toNat)
  case atStart => exact ⟨start, Nat.le_refl _, hst, rfl, by rw [Sh.upd_self]; exact (Below.heap_alloc _ _ _ hbt).trans Hb.out, grown_drewN (grown_drewN (grown_drewN (grown_refl _ _) _) _) _⟩
  case round =>
    obtain ⟨k, hk0, hk, rfl, hbk, hgb⟩ := hrel
    have hcb : ∀ j, wr.cell? ⟨w.heap.size, j, none⟩ = #[Value.int .i64 1, Value.int .i64 t, Value.int .i64 f][j]? := fun j => (grown_cell hgb (by simp) (by omega)).trans (cell_of_row _ _ j _ _ (0, 0) (heap_alloc_new w _))
    have hc0 := hcb 0
    clear hcb
    have hsz : w.heap.size < wr.heap.size := by have := hgb.size; simp at this; omega
    by_cases hlt : k < fin
    · have hkx : k < xs.length := by rw [Hx.out]; omega
      have hkf : k < fs.length := by rw [Hf.out]; omega
      have HU : Hid _ := Sh.upd_step (kind := 1) hk0 (List.getElem?_eq_getElem hkx) (List.getElem?_eq_getElem hkf)
      have hcx := blk_cell (u := .int .u8 xs[k]) (j := k) hbk (by simp [Sh.upd_at (List.getElem?_eq_getElem hkx)])
      have hcf : wr.cell? ⟨rf, rof + k, none⟩ = some (.int .u8 fs[k]) := ((grown_cell hgb (by simp; omega) hne).trans (World.cell?_of_block (Below.heap_alloc _ _ _ hrf))).trans (HF.out k _ (List.getElem?_eq_getElem hkf))
      have hfz := blk_frozen hbk k
      have Hbk : Hid _ := hbk
      clear hbk
      generalize hx0 : xs[k] = x0 at *
      generalize hf0 : fs[k] = f0 at *
      clear hx0 hf0
      go_wp2
      go_roundw
      case rel => exact ⟨k + 1, by omega, by omega, by go_num, by rw [← HU.out]; exact blk_set Hbk.out, grown_set hgb _⟩
      case measure => simp [intOf]; omega
    · have hkd : k = fin := by omega
      subst hkd
      go_wp2
      go_end0
      exact ⟨rfl, hbk, hgb.os, hgb.tape, hgb.output, by have := hgb.size; simp at this; omega, fun i hi hne => (hgb.block i (by simp; omega) hne).trans (Below.heap_alloc _ _ _ hi)⟩

set_option maxHeartbeats 2000000 in
theorem do_2 (t f G n cap gr mb bt rf rof cf ct size start fin : Nat) (xs fs : List Int) (w : World)
  (h1 : G ≤ t) (h2 : t < n) (h3 : f < n) (hs : size ≤ 48) (hfin : fin ≤ size) (hst : start ≤ fin)
  (hmb : mb < w.heap.size) (hgr : gr < w.heap.size) (hrf : rf < w.heap.size) (hne : rf ≠ bt)
  (m0 : w.cell? ⟨mb, 0, none⟩ = some (.int .i64 G)) (m1 : w.cell? ⟨mb, 1, none⟩ = some (.slice (some ⟨gr, 0, none⟩) n cap))
  (rt : w.cell? ⟨gr, t, none⟩ = some (.slice (some ⟨bt, 0, none⟩) size ct))
  (rfr : w.cell? ⟨gr, f, none⟩ = some (.slice (some ⟨rf, rof, none⟩) size cf))
  (hx : xs.length = size) (hf : fs.length = size) (hb : w.heap[bt]? = some (.cells (xs.map (Value.int .u8)).toArray 5 (0, 0)))
  (hfs : ∀ (i : Nat) (x : Int), fs[i]? = some x → w.cell? ⟨rf, rof + i, none⟩ = some (.int .u8 x)) :
    Calls Try.prog 64 #[.pointer (some ⟨mb, 0, none⟩), .agg #[.int .i64 2, .int .i64 t, .int .i64 f], .int .i64 start, .int .i64 fin] w
      fun e w' => e = .returned (.tuple #[]) ∧ w'.heap[bt]? = some (.cells ((Sh.upd 2 xs fs start fin).map (Value.int .u8)).toArray 5 (0, 0)) ∧ w.grownBy w' (some bt) := by
  have hbt := blk_lt hb
  have HF : Hid (∀ (i : Nat) (x : Int), fs[i]? = some x → w.cell? ⟨rf, rof + i, none⟩ = some (.int .u8 x)) := hfs
  have Hx : Hid (xs.length = size) := hx
  have Hf : Hid (fs.length = size) := hf
  have Hb : Hid (w.heap[bt]? = some (.cells (xs.map (Value.int .u8)).toArray 5 (0, 0))) := hb
  clear hfs hx hf hb
  have d1 : decide (t < G) = false := by simp; omega
  have d2 : decide (n ≤ t) = false := by simp; omega
  have d3 : decide ((f : Int) < 0) = false := by simp
  have d4 : decide (n ≤ f) = false := by simp; omega
  go_enter Try.func64, Try.ntmps64
  go_wp2
  go_quiet (fail)
  go_wp2
  go_quiet (fail)
  go_wp2
  go_quiet (fail)
  go_wp2
  clear m0 m1 rt rfr
  go_loopw [10, 79, 84, 93] (fun i _ _ _ wr => ∃ k : Nat, start ≤ k ∧ k ≤ fin ∧ i = .int .i64 k ∧ wr.heap[bt]? = some (.cells ((Sh.upd 2 xs fs start k).map (Value.int .u8)).toArray 5 (0, 0)) ∧ (w.alloc (.cells #[.int .i64 2, .int .i64 t, .int .i64 f] 98)).grownBy wr (some bt)) (fun i _ _ _ _ => fin - (intOf i).toNat)
  case atStart => exact ⟨start, Nat.le_refl _, hst, rfl, by rw [Sh.upd_self]; exact (Below.heap_alloc _ _ _ hbt).trans Hb.out, grown_drewN (grown_drewN (grown_drewN (grown_refl _ _) _) _) _⟩
  case round =>
    obtain ⟨k, hk0, hk, rfl, hbk, hgb⟩ := hrel
    have hcb : ∀ j, wr.cell? ⟨w.heap.size, j, none⟩ = #[Value.int .i64 2, Value.int .i64 t, Value.int .i64 f][j]? := fun j => (grown_cell hgb (by simp) (by omega)).trans (cell_of_row _ _ j _ _ (0, 0) (heap_alloc_new w _))
    have hc0 := hcb 0
    clear hcb
    have hsz : w.heap.size < wr.heap.size := by have := hgb.size; simp at this; omega
    by_cases hlt : k < fin
    · have hkx : k < xs.length := by rw [Hx.out]; omega
      have hkf : k < fs.length := by rw [Hf.out]; omega
      have HU : Hid _ := Sh.upd_step (kind := 2) hk0 (List.getElem?_eq_getElem hkx) (List.getElem?_eq_getElem hkf)
      have hcx := blk_cell (u := .int .u8 xs[k]) (j := k) hbk (by simp [Sh.upd_at (List.getElem?_eq_getElem hkx)])
      have hcf : wr.cell? ⟨rf, rof + k, none⟩ = some (.int .u8 fs[k]) := ((grown_cell hgb (by simp; omega) hne).trans (World.cell?_of_block (Below.heap_alloc _ _ _ hrf))).trans (HF.out k _ (List.getElem?_eq_getElem hkf))
      have hfz := blk_frozen hbk k
      have Hbk : Hid _ := hbk
      clear hbk
      generalize hx0 : xs[k] = x0 at *
      generalize hf0 : fs[k] = f0 at *
      clear hx0 hf0
      go_wp2
      go_region
      go_wp2
      go_roundw
      case rel => exact ⟨k + 1, by omega, by omega, by go_num, by rw [← HU.out]; exact blk_set Hbk.out, grown_drewN (grown_set hgb _) 1⟩
      case measure => simp [intOf]; omega
    · have hkd : k = fin := by omega
      subst hkd
      go_wp2
      go_end0
      exact ⟨rfl, hbk, hgb.os, hgb.tape, hgb.output, by have := hgb.size; simp at this; omega, fun i hi hne => (hgb.block i (by simp; omega) hne).trans (Below.heap_alloc _ _ _ hi)⟩

theorem do_any (kind : Int) (hkd : kind = 0 ∨ kind = 1 ∨ kind = 2) (t f G n cap gr mb bt rf rof cf ct size start fin : Nat) (xs fs : List Int) (w : World)
  (h1 : G ≤ t) (h2 : t < n) (h3 : f < n) (hs : size ≤ 48) (hfin : fin ≤ size) (hst : start ≤ fin)
  (hmb : mb < w.heap.size) (hgr : gr < w.heap.size) (hrf : rf < w.heap.size) (hne : rf ≠ bt)
  (m0 : w.cell? ⟨mb, 0, none⟩ = some (.int .i64 G)) (m1 : w.cell? ⟨mb, 1, none⟩ = some (.slice (some ⟨gr, 0, none⟩) n cap))
  (rt : w.cell? ⟨gr, t, none⟩ = some (.slice (some ⟨bt, 0, none⟩) size ct))
  (rfr : w.cell? ⟨gr, f, none⟩ = some (.slice (some ⟨rf, rof, none⟩) size cf))
  (hx : xs.length = size) (hf : fs.length = size) (hb : w.heap[bt]? = some (.cells (xs.map (Value.int .u8)).toArray 5 (0, 0)))
  (hfs : ∀ (i : Nat) (x : Int), fs[i]? = some x → w.cell? ⟨rf, rof + i, none⟩ = some (.int .u8 x)) :
    Calls Try.prog 64 #[.pointer (some ⟨mb, 0, none⟩), .agg #[.int .i64 kind, .int .i64 t, .int .i64 f], .int .i64 start, .int .i64 fin] w
      fun e w' => e = .returned (.tuple #[]) ∧ w'.heap[bt]? = some (.cells ((Sh.upd kind xs fs start fin).map (Value.int .u8)).toArray 5 (0, 0)) ∧ w.grownBy w' (some bt) := by
  rcases hkd with rfl | rfl | rfl
  · exact do_0 t f G n cap gr mb bt rf rof cf ct size start fin xs fs w h1 h2 h3 hs hfin hst hmb hgr hrf hne m0 m1 rt rfr hx hf hb hfs
  · exact do_1 t f G n cap gr mb bt rf rof cf ct size start fin xs fs w h1 h2 h3 hs hfin hst hmb hgr hrf hne m0 m1 rt rfr hx hf hb hfs
  · exact do_2 t f G n cap gr mb bt rf rof cf ct size start fin xs fs w h1 h2 h3 hs hfin hst hmb hgr hrf hne m0 m1 rt rfr hx hf hb hfs

end Go.Proofs.Ythhbpofcemoflab
