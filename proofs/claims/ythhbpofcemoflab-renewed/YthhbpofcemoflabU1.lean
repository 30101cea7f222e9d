import Derived.Test.YthhbpofcemoflabPureU
namespace Go.Proofs.Ythhbpofcemoflab
open Go.RowKit
set_option maxRecDepth 20000

theorem cell_of_blk {w w' : World} {g : Nat} (h : w.heap[g]? = w'.heap[g]?) (k : Nat) : w.cell? ⟨g, k, none⟩ = w'.cell? ⟨g, k, none⟩ := by simp only [World.cell?, h]
set_option maxHeartbeats 2000000 in
theorem turned_ok (kind : Int) (K M : Nat) (N gd : Int) (j : Nat) (w : World) (h : Sh.Ok kind K M N gd) (hP : Sh.Pb kind K M N gd) (hj : j < K) :
    Calls Try.prog 49 #[.agg #[.int .i64 kind, .int .i64 K, .int .i64 M, .int .i64 N, .int .i64 gd], .int .i64 j] w fun e w' => ∃ v, e = .returned v ∧ w'.ownsRow w.heap.size 94 1 v (M * Sh.R kind N) ((Sh.turnS kind K M N gd j).map (Value.int .u64)) ∧ Below w.heap.size w w' := by
  obtain ⟨hK, hM, h10, hR1, hR2, hKR, hMR, hPL⟩ := h.bounds
  obtain ⟨i0, hi, hz0, hz1, hz2⟩ := info_parts Try.infoU64
  have HPa := hide (fun w => parity_ok kind K M N gd w h)
  have HRw := hide (fun w => rows_ok kind K M N gd w h)
  have HPb := hide hP
  have hjR : j * Sh.R kind N + Sh.R kind N ≤ K * Sh.R kind N := by
    have : (j + 1) * Sh.R kind N ≤ K * Sh.R kind N := Nat.mul_le_mul_right _ hj
    rw [Nat.add_mul, Nat.one_mul] at this
    exact this
  have hMR1 : 1 ≤ M * Sh.R kind N := Nat.mul_pos hM hR1
  have HT : Hid (Sh.turnS kind K M N gd j = (List.range (M * Sh.R kind N)).map fun i => ((Sh.tn ((Sh.parity kind K M N gd).getD i 0).toNat (j * Sh.R kind N) (M * Sh.R kind N) (Sh.R kind N) i : Nat) : Int)) := rfl
  rw [HT.out]
  have HPL := hide hPL
  unfold Sh.Pb at HPb
  clear h hP HT hPL
  generalize Sh.parity kind K M N gd = P at *
  generalize hR : Sh.R kind N = R at *
  clear hR
  obtain ⟨a, ha⟩ : ∃ a, j * R = a := ⟨_, rfl⟩
  obtain ⟨b, hb⟩ : ∃ b, M * R = b := ⟨_, rfl⟩
  have hja : (j : Int) * (R : Int) = (a : Int) := by rw [← ha, Int.natCast_mul]
  have hmb : (M : Int) * (R : Int) = (b : Int) := by rw [← hb, Int.natCast_mul]
  rw [ha, hb]
  rw [hb] at HPa HPL hMR1 hMR
  rw [ha] at hjR
  clear ha hb
  have dR : decide ((R : Int) < 1) = false := by simp; omega
  have dj : decide ((j : Int) < 0) = false := by simp
  have dk : decide ((K : Int) ≤ (j : Int)) = false := by simp; omega
  go_enter Try.func49, Try.ntmps49
  go_wp2_with fail
  refine (HRw.out _).mono ?_
  rintro e w1 ⟨rfl, hb1⟩
  have hc0 := box_cell hb1 (by simp) 0 rfl
  have hc1 := box_cell hb1 (by simp) 1 rfl
  have hc2 := box_cell hb1 (by simp) 2 rfl
  have hc3 := box_cell hb1 (by simp) 3 rfl
  have hc4 := box_cell hb1 (by simp) 4 rfl
  have hsz := box_size hb1
  go_wp2_with fail
  refine (HPa.out _).mono ?_
  rintro e w2 ⟨v2, rfl, hown2, hb2⟩
  obtain ⟨g, cap, rfl, hgb, hg, hcap, hcells⟩ := own_form hown2 hMR1
  have hs2 := hb2.size
  simp only [World.size_alloc] at hs2 hgb
  have HC := hide (fun (k : Nat) (x : Int) (hx : P[k]? = some x) => hcells k (.int .u64 x) (by simp [hx]))
  have hl12 : Below w1.heap.size w1 w2 := ((Below.refl _ _).alloc (Nat.le_refl _) _).trans (hb2.mono (by simp))
  have hem : w2.ownsRow w1.heap.size 94 1 (.slice (some ⟨w1.heap.size, 0, none⟩) 0 0) 0 [] := own_below (own_empty rfl (Nat.le_refl _)) hb2
  clear hown2 hcells hc0 hc3 hc4 HPa HRw
  go_wp2_with fail
  go_loopw [6, 7, 8, 9, 10, 11, 30] (fun s _ _ _ _ _ i wr => ∃ k : Nat, k ≤ b ∧ i = .int .i64 k ∧ wr.ownsRow w1.heap.size 94 1 s k (((List.range k).map fun i => ((Sh.tn (P.getD i 0).toNat a b R i : Nat) : Int)).map (Value.int .u64)) ∧ Below w1.heap.size w1 wr ∧ (∀ q, s.ownBlock = some q → q ≠ g) ∧ wr.heap[g]? = w2.heap[g]? ∧ g < wr.heap.size) (fun _ _ _ _ _ _ i _ => b - (intOf i).toNat)
  case atStart => exact ⟨0, Nat.zero_le _, rfl, hem, hl12, (fun q hq => by simp [Value.ownBlock] at hq; omega), rfl, hg⟩
  case round =>
    obtain ⟨k, hk, rfl, hown, hbl, hng, hgg, hgz⟩ := hrel
    have hsr := hbl.size
    have e1 := keepc hbl hsz 1 hc1
    have e2 := keepc hbl hsz 2 hc2
    have HNG := hide hng
    have HGG := hide hgg
    clear hng hgg
    by_cases hlt : k < b
    · obtain ⟨x, hx⟩ : ∃ x, P[k]? = some x := ⟨_, List.getElem?_eq_getElem (by rw [HPL.out]; exact hlt)⟩
      have hck : _ = some (Value.int .u64 x) := (cell_of_blk HGG.out k).trans (HC.out k x hx)
      have hxb := HPb.out x (List.mem_of_getElem? hx)
      obtain ⟨s, rfl⟩ := Int.eq_ofNat_of_zero_le hxb.1
      have HX := hide hx
      clear hx
      have hval := Sh.tn_val s a b R k (by omega) (by omega) (by omega) hlt
      generalize hT : Sh.tn s a b R k = T at *
      have HT : Hid (((List.range (k + 1)).map fun i => ((Sh.tn (P.getD i 0).toNat a b R i : Nat) : Int)).map (Value.int .u64) = ((List.range k).map fun i => ((Sh.tn (P.getD i 0).toNat a b R i : Nat) : Int)).map (Value.int .u64) ++ [.int .u64 (T : Int)]) := by
        show _ = _
        rw [List.range_succ, List.map_append, List.map_append, ← hT, List.map_cons, List.map_cons, List.getD_eq_getElem?_getD, HX.out]
        rfl
      clear hT
      go_wp2_with (at_builtin; refine append1x _ rfl (.tmp 62) (.tmp 70) 83 rfl w1.heap.size 94 i0 (.int .u64 0) 1 8 Try.underlying83 hi hz0 hz1 hz2 rfl (by decide) (by decide) _ _ _ _ rfl hown rfl rfl (by simp; rfl) (by omega) (by omega) ?_; intro v' w3 hown3 hb3 hg3 hf3)
      go_roundw
      case rel => exact ⟨k + 1, by omega, by go_num, by rw [HT.out]; exact hown3, hbl.trans hb3, (fun q hq => (hf3 q hq).elim (fun h => HNG.out q h) (fun h => by omega)), (hg3.block g hgz (fun h => HNG.out g h.symm rfl)).trans HGG.out, Nat.lt_of_lt_of_le hgz hg3.size⟩
      case measure => simp [intOf]; omega
    · have hkb : k = b := by omega
      subst hkb
      go_wp2
      go_ret
      exact ⟨_, rfl, own_mono hown (by omega), (((Below.refl _ _).alloc (Nat.le_refl _) _).trans (hb1.mono (by simp))).trans (hbl.mono (by omega))⟩
end Go.Proofs.Ythhbpofcemoflab
