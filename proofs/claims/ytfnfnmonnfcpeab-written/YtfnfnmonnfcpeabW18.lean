import Derived.Test.YtfnfnmonnfcpeabW17
import Derived.Test.YtfnfnmonnfcpeabPure9
namespace Go.Proofs.Ytfnfnmonnfcpeab
open Go.RowKit
set_option maxRecDepth 20000

theorem Sh.Ok.bounds {kind : Int} {K M : Nat} {N gd : Int} (h : Sh.Ok kind K M N gd) : 1 ≤ K ∧ 1 ≤ M ∧ M + K ≤ 10 ∧ 1 ≤ Sh.R kind N ∧ Sh.R kind N ≤ 6 ∧ K * Sh.R kind N ≤ 48 ∧ M * Sh.R kind N ≤ 40 ∧ (Sh.parity kind K M N gd).length = M * Sh.R kind N := by
  rcases h.tab with ⟨h0, d, hd, h'⟩ | ⟨h0, n1, hn, h'⟩
  · obtain ⟨_, _, h1, h4, hK, hM, h10, hp, _⟩ := h'
    rw [Sh.parity, if_pos h0, Sh.R, if_pos h0, hd, Int.toNat_natCast]
    have a : K * d ≤ 9 * 4 := Nat.mul_le_mul (by omega) h4
    have b : M * d ≤ 9 * 4 := Nat.mul_le_mul (by omega) h4
    exact ⟨hK, hM, h10, h1, by omega, by omega, by omega, Sh.cpar_len _ _ _ _ _ _⟩
  · obtain ⟨_, hK, h10, hN, hk⟩ := h'
    have hR : (N - 1).toNat = n1 := by omega
    rw [Sh.parity, if_neg h0, Sh.R, if_neg h0, hR]
    have a : K * n1 ≤ 7 * 6 := Nat.mul_le_mul (by omega) (by omega)
    have b : M * n1 ≤ 3 * 6 := Nat.mul_le_mul (by omega) (by omega)
    exact ⟨hK, by omega, h10, by omega, by omega, by omega, by omega, Sh.tpar_len kind n1 K M (by split <;> omega)⟩

theorem keepc {w w1 : World} {cb : Nat} (hb : Below w.heap.size w w1) (hcb : cb < w.heap.size) (j : Nat) {v : Value} (h : w.cell? ⟨cb, j, none⟩ = some v) : w1.cell? ⟨cb, j, none⟩ = some v := (hb.cell (p := ⟨cb, j, none⟩) hcb).trans h

def Sh.prog (kind : Int) (K M : Nat) (N gd : Int) : List (Int × Int × Int) := Sh.plain (K * Sh.R kind N) (Sh.parity kind K M N gd)

set_option maxHeartbeats 1000000 in
theorem programOf_ok (cb : Nat) (kind : Int) (K M : Nat) (N gd : Int) (w : World) (h : Sh.Ok kind K M N gd) (hcb : cb < w.heap.size)
    (c0 : w.cell? ⟨cb, 0, none⟩ = some (.int .i64 kind)) (c1 : w.cell? ⟨cb, 1, none⟩ = some (.int .i64 K)) (c2 : w.cell? ⟨cb, 2, none⟩ = some (.int .i64 M)) (c3 : w.cell? ⟨cb, 3, none⟩ = some (.int .i64 N)) (c4 : w.cell? ⟨cb, 4, none⟩ = some (.int .i64 gd)) :
    Calls Try.prog 51 #[.pointer (some ⟨cb, 0, none⟩), .int .i64 0] w fun e w' => ∃ vo, e = .returned (.agg #[.int .i64 ((K * Sh.R kind N : Nat) : Int), .int .i64 ((M * Sh.R kind N : Nat) : Int), .int .i64 0, vo]) ∧
      w'.ownsRow w.heap.size 91 3 vo (Sh.prog kind K M N gd).length (Sh.opCells (Sh.prog kind K M N gd)) ∧ Below w.heap.size w w' := by
  obtain ⟨hK, hM, h10, hR1, hR2, hKR, hMR, hPL⟩ := h.bounds
  have HP := hide (fun w => parity_ok kind K M N gd w h)
  have HRw := hide (fun w => rows_ok kind K M N gd w h)
  have hMR1 : 1 ≤ M * Sh.R kind N := Nat.mul_pos hM hR1
  have HPl := hide (fun (v : Value) (base : Nat) (w : World) (hv : w.ownsRow base 89 1 v (M * Sh.R kind N) ((Sh.parity kind K M N gd).map (Value.int .u64))) => (by
    have := plain_any (K * Sh.R kind N) v base (Sh.parity kind K M N gd) w hKR (by rw [hPL]; exact hMR1) (by rw [hPL]; exact hMR) (by rw [hPL]; exact hv)
    rw [hPL] at this
    exact this : Calls Try.prog 46 #[.int .i64 ((K * Sh.R kind N : Nat) : Int), v] w fun e w' => ∃ vo, e = .returned (.agg #[.int .i64 ((K * Sh.R kind N : Nat) : Int), .int .i64 ((M * Sh.R kind N : Nat) : Int), .int .i64 0, vo]) ∧
      w'.ownsRow w.heap.size 91 3 vo (Sh.prog kind K M N gd).length (Sh.opCells (Sh.prog kind K M N gd)) ∧ Below w.heap.size w w'))
  have hpp : 1 ≤ (Sh.prog kind K M N gd).length := Sh.plain_pos _ _ (by rw [hPL]; exact hMR1)
  have HPP := hide hpp
  clear h hPL hpp
  generalize hPr : Sh.prog kind K M N gd = pr at *
  generalize hPa : Sh.parity kind K M N gd = pa at *
  generalize hR : Sh.R kind N = R at *
  clear hPr hPa hR
  have hcast : ((K * R : Nat) : Int) = (K : Int) * (R : Int) := Int.natCast_mul _ _
  rw [hcast] at HPl ⊢
  clear hcast
  have hKI : 0 ≤ (K : Int) * (R : Int) ∧ (K : Int) * (R : Int) ≤ 48 := by
    have := Int.natCast_mul K R
    omega
  go_enter Try.func51, Try.ntmps51
  go_wp2_with (first | (go_at_call 54; refine (HP.out _).mono ?_; rintro e w1 ⟨v1, rfl, hown1, hb1⟩; have hs1 := hb1.size; have hB1 := ((Below.refl w.heap.size w).alloc (Nat.le_refl _) _).trans (hb1.mono (by simp)); have ea0 := keepc hB1 hcb 0 c0; have ea1 := keepc hB1 hcb 1 c1; have ea2 := keepc hB1 hcb 2 c2; have ea3 := keepc hB1 hcb 3 c3; have ea4 := keepc hB1 hcb 4 c4) | (go_at_call 21; refine (HRw.out _).mono ?_; rintro e w2 ⟨rfl, hb2⟩; have hs2 := hb2.size; have hB2 := hB1.trans (hb2.mono hB1.size); have eb0 := keepc hB2 hcb 0 c0; have eb1 := keepc hB2 hcb 1 c1; have eb2 := keepc hB2 hcb 2 c2; have eb3 := keepc hB2 hcb 3 c3; have eb4 := keepc hB2 hcb 4 c4) | (go_at_call 46; refine (HPl.out _ _ _ (own_below hown1 hb2)).mono ?_; rintro e w3 ⟨v3, rfl, hown3, hb3⟩; obtain ⟨g3, cap3, hv3, hgb3, hgw3⟩ := own_form3 hown3 HPP.out; rw [hv3]; have hr0 := hb3.block w.heap.size (by simp at hs1; omega); have hr1 := hb2.block w.heap.size (by simp at hs1; omega); have hr2 := hb1.block w.heap.size (by simp); have hr := hr0.trans (hr1.trans (hr2.trans (heap_alloc_new w _))); have q0 := blk_cell (j := 0) hr rfl; have q1 := blk_cell (j := 1) hr rfl; have q2 := blk_cell (j := 2) hr rfl; have q3 := blk_cell (j := 3) hr rfl; have qf := blk_frozen hr; have Hr := hide hr; clear hr hr0 hr1 hr2))
  have hs1' : w.heap.size + 1 ≤ w1.heap.size := by simp at hs1; omega
  refine bodyPost_ret (v := .agg #[.int .i64 ((K : Int) * (R : Int)), .int .i64 ((M * R : Nat) : Int), .int .i64 0, .slice (some ⟨g3, 0, none⟩) pr.length cap3]) (by simp [results, Try.results51, go_sem, q0, q1, q2, q3]) rfl ⟨_, rfl, ?_, ?_⟩
  · rw [hv3] at hown3
    exact own_mono (ownsRow_setCell_below (ownsRow_setCell_below (ownsRow_setCell_below (ownsRow_setCell_below hown3 (by simp; omega) _) (by simp; omega) _) (by simp; omega) _) (by simp; omega) _) (by omega)
  · exact ((((hB2.trans (hb3.mono hB2.size)).setCell (by simp) _).setCell (by simp) _).setCell (by simp) _).setCell (by simp) _

end Go.Proofs.Ytfnfnmonnfcpeab
