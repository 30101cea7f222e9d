import Derived.Test.YtfnfnmonnfcpeabW11
import Derived.Test.YtfnfnmonnfcpeabPure5
namespace Go.Proofs.Ytfnfnmonnfcpeab
open Go.RowKit
set_option maxRecDepth 20000
theorem Try.infoOp : (Try.prog.info? 91).map (fun i => (i.zero, i.size, i.bytes)) = some (some (.agg #[.int .i64 0, .int .i64 0, .int .i64 0]), 3, 24) := by kernel_rfl

set_option maxHeartbeats 1000000 in
theorem plain_any (given : Nat) (v : Value) (base : Nat) (sums : List Int) (w : World) (hg : given ≤ 48) (hL1 : 1 ≤ sums.length) (hL2 : sums.length ≤ 40) (hv : w.ownsRow base 89 1 v sums.length (sums.map (Value.int .u64))) :
    Calls Try.prog 46 #[.int .i64 given, v] w fun e w' => ∃ vo, e = .returned (.agg #[.int .i64 given, .int .i64 sums.length, .int .i64 0, vo]) ∧
      w'.ownsRow w.heap.size 91 3 vo (Sh.plain given sums).length (Sh.opCells (Sh.plain given sums)) ∧ Below w.heap.size w w' := by
  obtain ⟨i0, hi, hz0, hz1, hz2⟩ := info_parts Try.infoOp
  have HAL : Hid (∀ i, (Sh.plA given sums i).length ≤ 49 * i) := Sh.plA_len given sums hg
  obtain ⟨g, cap, rfl, _, hgw, hcap, hcells⟩ := own_form hv hL1
  have HCC : Hid (∀ (j : Nat) (x : Int), sums[j]? = some x → w.cell? ⟨g, j, none⟩ = some (.int .u64 x)) := int_cells hcells
  clear hcells hv
  have HPl : Hid (Sh.plain given sums = Sh.plA given sums sums.length) := rfl
  rw [HPl.out]
  generalize hL : sums.length = L at *
  have HL : Hid (sums.length = L) := hL
  clear hL HPl
  go_enter Try.func46, Try.ntmps46
  go_wp2
  go_loopw [6, 7, 8, 9, 10, 17] (fun _ _ _ _ _ i' wr => ∃ (k : Nat) (a : Option Addr) (n c : Nat), k ≤ L ∧ i' = .int .i64 k ∧ Sh.PS wr w given L 49 91 (.slice a n c) (Sh.plA given sums k)) (fun _ _ _ _ _ i _ => L - (intOf i).toNat)
  case atStart =>
    refine ⟨0, none, 0, 0, Nat.zero_le _, rfl, World.ownsRow_nil _ _ _ _, ?_, ?_, ((Below.refl _ _).alloc (Nat.le_refl _) _).alloc (by simp) _⟩
    · have := heap_alloc_new (w.alloc (.cells #[.int .i64 0, .int .i64 0, .int .i64 0, .slice none 0 0] 49)) (.cells #[.int .i64 given, .int .i64 L, .int .i64 0, .slice none 0 0] 49)
      simpa using this
    · rw [Below.heap_alloc _ _ _ (by simp)]
      exact heap_alloc_new w _
  case round =>
    obtain ⟨k, a, n, c, hk, rfl, hps⟩ := hrel
    by_cases hlt : k < L
    · have hlx : k < sums.length := by rw [HL.out]; exact hlt
      have hck : wr.cell? ⟨g, k, none⟩ = some (.int .u64 sums[k]) := by
        rw [hps.low.cell (p := ⟨g, k, none⟩) hgw]
        exact HCC.out k _ (List.getElem?_eq_getElem hlx)
      have HS : Hid (Sh.plA given sums (k + 1) = Sh.plA given sums k ++ Sh.plRow given sums[k] ((given : Int) + k)) := by
        show Sh.plA given sums k ++ Sh.plRow given (sums.getD k 0) ((given : Int) + k) = _
        rw [List.getD_eq_getElem?_getD, List.getElem?_eq_getElem hlx]; rfl
      have hal := HAL.out k
      generalize hx0 : sums[k] = s0 at *
      generalize hA0 : Sh.plA given sums k = A0 at *
      clear hx0 hA0
      go_wp2
      go_loopw [9, 10, 26] (fun kd _ i' wr => ∃ (j : Nat) (a : Option Addr) (n c : Nat), j ≤ given ∧ i' = .int .i64 j ∧ kd = .int .i64 (Sh.plK s0 j) ∧ Sh.PS wr w given L 49 91 (.slice a n c) (A0 ++ Sh.plO s0 ((given : Int) + k) j)) (fun _ _ i _ => given - (intOf i).toNat)
      case atStart => exact ⟨0, a, n, c, Nat.zero_le _, rfl, rfl, by simpa [Sh.plO] using hps⟩
      case round =>
        clear hck hps
        obtain ⟨j, a, n, c, hj, rfl, rfl, hps⟩ := hrel
        have hol := Sh.plO_len s0 ((given : Int) + k) j
        have hlen : (A0 ++ Sh.plO s0 ((given : Int) + k) j).length ≤ 4000 := by simp only [List.length_append]; omega
        generalize hB0 : A0 ++ Sh.plO s0 ((given : Int) + k) j = B0 at *
        have HB : Hid (A0 ++ Sh.plO s0 ((given : Int) + k) j = B0) := hB0
        clear hB0
        have hc3 := blk_cell (j := 3) hps.box rfl
        have hsz := blk_lt hps.box
        have hwr := hps.low.size
        by_cases hlj : j < given
        · by_cases hbit : (bits .and .u64 (s0 / 2 ^ j) 1 == 1) = true
          · go_wp2_with (at_builtin; refine append1x _ rfl (.tmp 36) (.tmp 41) 47 rfl (w.heap.size + 2) 91 i0 (.agg #[.int .i64 0, .int .i64 0, .int .i64 0]) 3 24 Try.underlying47 hi hz0 hz1 hz2 rfl (by decide) (by decide) _ _ _ _ rfl hps.own rfl rfl (by simp; exact ⟨rfl, rfl, rfl⟩) (by omega) (by omega) ?_; intro v' w2 hown2 hb2 hg2 hf2; obtain ⟨g2, cap2, hv2, hgb2, hgw2⟩ := own_form3 hown2 (by omega); have hfr := blk_frozen ((hb2.block (w.heap.size + 1) (by omega)).trans hps.box) 3; have hce := blk_cell (j := 3) ((hb2.block (w.heap.size + 1) (by omega)).trans hps.box) rfl; have hlt2 := blk_lt ((hb2.block (w.heap.size + 1) (by omega)).trans hps.box); rw [hv2] at hown2; rw [hv2])
            go_roundw
            case rel => exact ⟨j + 1, _, _, _, by omega, by go_num, val_int (Sh.plK_t hbit).symm, by rw [Sh.plO_t hbit, ← List.append_assoc, HB.out]; exact hps.push _ _ _ hown2 hb2⟩
            case measure => simp [intOf]; omega
          · have hbf : (bits .and .u64 (s0 / 2 ^ j) 1 == 1) = false := by simpa using hbit
            clear hbit
            go_wp2
            go_roundw
            case rel => exact ⟨j + 1, _, _, _, by omega, by go_num, val_int (Sh.plK_f hbf).symm, by rw [Sh.plO_f hbf, HB.out]; exact hps⟩
            case measure => simp [intOf]; omega
        · have hjd : j = given := by omega
          subst hjd
          by_cases hK1 : Sh.plK s0 j = 1
          · have hKb : (Sh.plK s0 j == 1) = true := by simp [hK1]
            have HR : Hid (Sh.plRow j s0 ((j : Int) + k) = Sh.plO s0 ((j : Int) + k) j ++ [(0, (j : Int) + k, 0)]) := by show _ = _; rw [Sh.plRow, if_pos hKb]
            clear hK1
            go_wp2_with (at_builtin; refine append1x _ rfl (.tmp 48) (.tmp 51) 47 rfl (w.heap.size + 2) 91 i0 (.agg #[.int .i64 0, .int .i64 0, .int .i64 0]) 3 24 Try.underlying47 hi hz0 hz1 hz2 rfl (by decide) (by decide) _ _ _ _ rfl hps.own rfl rfl (by simp; exact ⟨rfl, rfl, rfl⟩) (by omega) (by omega) ?_; intro v' w2 hown2 hb2 hg2 hf2; obtain ⟨g2, cap2, hv2, hgb2, hgw2⟩ := own_form3 hown2 (by omega); have hfr := blk_frozen ((hb2.block (w.heap.size + 1) (by omega)).trans hps.box) 3; have hce := blk_cell (j := 3) ((hb2.block (w.heap.size + 1) (by omega)).trans hps.box) rfl; have hlt2 := blk_lt ((hb2.block (w.heap.size + 1) (by omega)).trans hps.box); rw [hv2] at hown2; rw [hv2])
            go_roundw
            case rel => exact ⟨k + 1, _, _, _, by omega, by go_num, by rw [HS.out, HR.out, ← List.append_assoc, HB.out]; exact hps.push _ _ _ hown2 hb2⟩
            case measure => simp [intOf]; omega
          · have hKb : (Sh.plK s0 j == 1) = false := by simp [hK1]
            have HR : Hid (Sh.plRow j s0 ((j : Int) + k) = Sh.plO s0 ((j : Int) + k) j) := by show _ = _; rw [Sh.plRow, if_neg (by simp [hKb]), List.append_nil]
            go_wp2
            go_roundw
            case rel => exact ⟨k + 1, _, _, _, by omega, by go_num, by rw [HS.out, HR.out, HB.out]; exact hps⟩
            case measure => simp [intOf]; omega
    · have hkd : k = L := by omega
      subst hkd
      have hc0 := blk_cell (j := 0) hps.box rfl
      have hc1 := blk_cell (j := 1) hps.box rfl
      have hc2 := blk_cell (j := 2) hps.box rfl
      have hc3 := blk_cell (j := 3) hps.box rfl
      have hr0 := blk_cell (j := 0) hps.res rfl
      have hr1 := blk_cell (j := 1) hps.res rfl
      have hr2 := blk_cell (j := 2) hps.res rfl
      have hr3 := blk_cell (j := 3) hps.res rfl
      have hfz := blk_frozen hps.res
      have hsz := blk_lt hps.box
      go_wp2
      refine bodyPost_ret (v := .agg #[.int .i64 given, .int .i64 k, .int .i64 0, .slice a n c]) (by simp [results, Try.results46, go_sem, *]) rfl ⟨_, rfl, ?_, ?_⟩
      · exact own_mono (ownsRow_setCell_below (ownsRow_setCell_below (ownsRow_setCell_below (ownsRow_setCell_below hps.own (by simp) _) (by simp) _) (by simp) _) (by simp) _) (by omega)
      · exact (((hps.low.setCell (by simp) _).setCell (by simp) _).setCell (by simp) _).setCell (by simp) _
end Go.Proofs.Ytfnfnmonnfcpeab
