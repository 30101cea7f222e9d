import Derived.Test.YthhbpofcemoflabW9
namespace Go.Proofs.Ythhbpofcemoflab
open Go.RowKit
set_option maxRecDepth 20000

theorem ints_one (k : IntKind) (xs : List Int) : ∀ u ∈ xs.map (Value.int k), u.oneCell' = true := by
  intro u hu
  simp only [List.mem_map] at hu
  obtain ⟨x, _, rfl⟩ := hu
  rfl

set_option maxHeartbeats 1000000 in
theorem tpar_two (kind M N gd : Int) (n1 K : Nat) (w : World) (hN : (N = 3 ∧ n1 = 2) ∨ (N = 5 ∧ n1 = 4) ∨ (N = 7 ∧ n1 = 6)) (hK : K ≤ 7) (hk3 : (kind == 3) = false) :
    Calls Try.prog 71 #[.agg #[.int .i64 kind, .int .i64 K, .int .i64 M, .int .i64 N, .int .i64 gd]] w fun e w' => ∃ v, e = .returned v ∧ w'.ownsRow w.heap.size 94 1 v (2 * n1) ((Sh.tpar kind n1 K).map (Value.int .u64)) ∧ Below w.heap.size w w' := by
  have HA : Hid (∀ (row : Nat) (w : World), row ≤ n1 → Calls Try.prog 88 #[.agg #[.int .i64 kind, .int .i64 K, .int .i64 M, .int .i64 N, .int .i64 gd], .int .i64 row] w fun e w' => e = .returned (.int .u64 (Sh.across n1 row K)) ∧ Below w.heap.size w w') := fun row w h => across_any kind M N gd n1 K row w hN hK h
  have HD : Hid (∀ (w : World), Calls Try.prog 89 #[.agg #[.int .i64 kind, .int .i64 K, .int .i64 M, .int .i64 N, .int .i64 gd], .int .i64 1] w fun e w' => ∃ v, e = .returned v ∧ w'.ownsRow w.heap.size 94 1 v n1 ((Sh.diags kind 1 n1 K n1).map (Value.int .u64)) ∧ Below w.heap.size w w') := fun w => diags_down kind M N gd n1 K w hN hK
  have HT : Hid (Sh.tpar kind n1 K = Sh.acr n1 K n1 ++ Sh.diags kind 1 n1 K n1) := by
    show _ = _
    rw [Sh.tpar, if_neg (by simpa using hk3), List.append_nil]
  have HL1 : Hid (((Sh.diags kind 1 n1 K n1).map (Value.int .u64)).length = n1 * 1) := by show _ = _; simp [Sh.diags_len]
  obtain ⟨i0, hi, hz0, hz1, hz2⟩ := info_parts Try.infoU64
  rcases hN with ⟨rfl, rfl⟩ | ⟨rfl, rfl⟩ | ⟨rfl, rfl⟩
  · go_enter Try.func71, Try.ntmps71
    go_wp2
    go_loopw [3, 4, 5, 12] (fun s _ _ i wr => ∃ k : Nat, k ≤ 2 ∧ i = .int .i64 k ∧ wr.ownsRow (w.heap.size + 1) 94 1 s k ((Sh.acr 2 K k).map (Value.int .u64)) ∧ Below (w.heap.size + 1) (w.alloc (.cells #[.int .i64 kind, .int .i64 K, .int .i64 M, .int .i64 3, .int .i64 gd] 25)) wr) (fun _ _ _ i _ => 2 - (intOf i).toNat)
    case atStart => exact ⟨0, by omega, rfl, own_empty (by simp) (by omega), (Below.refl _ _).alloc (by simp) _⟩
    case round =>
      obtain ⟨k, hk, rfl, hown, hbl⟩ := hrel
      have hc0 := box_cell hbl (by simp) 0 rfl
      have hc1 := box_cell hbl (by simp) 1 rfl
      have hc2 := box_cell hbl (by simp) 2 rfl
      have hc3 := box_cell hbl (by simp) 3 rfl
      have hc4 := box_cell hbl (by simp) 4 rfl
      have hsz := box_size hbl
      by_cases hlt : k < 2
      · go_wp2_with (first | (go_at_call 88; refine (HA.out _ _ (by omega)).mono ?_; rintro e w2 ⟨rfl, hb2⟩; have hown1 := own_below hown hb2; have hs2 := hb2.size) | (at_builtin; refine append1x _ rfl (.tmp 18) (.tmp 20) 83 rfl (w.heap.size + 1) 94 i0 (.int .u64 0) 1 8 Try.underlying83 hi hz0 hz1 hz2 rfl (by decide) (by decide) _ _ _ _ rfl hown1 rfl rfl (by simp; rfl) (by omega) (by omega) ?_; intro v' w3 hown3 hb3 hg3 hf3))
        go_roundw
        case rel => exact ⟨k + 1, by omega, by go_num, by rw [Sh.acr_succ, List.map_append]; exact hown3, (hbl.trans (hb2.mono (by omega))).trans hb3⟩
        case measure => simp [intOf]; omega
      · have hkk : k = 2 := by omega
        subst hkk
        go_wp2_with fail
        refine (HD.out _).mono ?_
        rintro e w2 ⟨v2, rfl, hown2, hb2⟩
        obtain ⟨g, cap, hv2, hgb, hg, hcap, hcells⟩ := own_form hown2 (by decide)
        rw [hv2]
        rw [hv2] at hown2
        clear hv2
        have hw2 := hb2.size
        have hown1 := own_below hown hb2
        have hcs := hown2.cells (g := g) rfl
        have HCS : Hid _ := hcs
        clear hcs hcells
        have hblA := hbl.trans (hb2.mono (by omega))
        go_wp2_with (at_builtin; refine appendX _ rfl (.tmp 25) (.tmp 26) 83 rfl (w.heap.size + 1) 94 i0 (.int .u64 0) 1 8 Try.underlying83 hi hz0 hz1 hz2 rfl (by decide) _ _ _ rfl hown1 ⟨g, 0, none⟩ 2 cap _ rfl HL1.out HCS.out (ints_one _ _) (by decide) (by unfold maxLen; decide) (by decide) (by omega) ?_; intro v3 w3 hown3 hb3 hg3 hf3; have hblB := hblA.trans hb3; have hq0 := box_cell hblB (by simp) 0 rfl; have hq1 := box_cell hblB (by simp) 1 rfl; have hq2 := box_cell hblB (by simp) 2 rfl; have hq3 := box_cell hblB (by simp) 3 rfl; have hq4 := box_cell hblB (by simp) 4 rfl; have hszB := box_size hblB)
        go_ret
        exact ⟨_, rfl, by rw [HT.out, List.map_append]; exact own_mono hown3 (by omega), ((Below.refl _ _).alloc (Nat.le_refl _) _).trans (hblB.mono (by omega))⟩
  · go_enter Try.func71, Try.ntmps71
    go_wp2
    go_loopw [3, 4, 5, 12] (fun s _ _ i wr => ∃ k : Nat, k ≤ 4 ∧ i = .int .i64 k ∧ wr.ownsRow (w.heap.size + 1) 94 1 s k ((Sh.acr 4 K k).map (Value.int .u64)) ∧ Below (w.heap.size + 1) (w.alloc (.cells #[.int .i64 kind, .int .i64 K, .int .i64 M, .int .i64 5, .int .i64 gd] 25)) wr) (fun _ _ _ i _ => 4 - (intOf i).toNat)
    case atStart => exact ⟨0, by omega, rfl, own_empty (by simp) (by omega), (Below.refl _ _).alloc (by simp) _⟩
    case round =>
      obtain ⟨k, hk, rfl, hown, hbl⟩ := hrel
      have hc0 := box_cell hbl (by simp) 0 rfl
      have hc1 := box_cell hbl (by simp) 1 rfl
      have hc2 := box_cell hbl (by simp) 2 rfl
      have hc3 := box_cell hbl (by simp) 3 rfl
      have hc4 := box_cell hbl (by simp) 4 rfl
      have hsz := box_size hbl
      by_cases hlt : k < 4
      · go_wp2_with (first | (go_at_call 88; refine (HA.out _ _ (by omega)).mono ?_; rintro e w2 ⟨rfl, hb2⟩; have hown1 := own_below hown hb2; have hs2 := hb2.size) | (at_builtin; refine append1x _ rfl (.tmp 18) (.tmp 20) 83 rfl (w.heap.size + 1) 94 i0 (.int .u64 0) 1 8 Try.underlying83 hi hz0 hz1 hz2 rfl (by decide) (by decide) _ _ _ _ rfl hown1 rfl rfl (by simp; rfl) (by omega) (by omega) ?_; intro v' w3 hown3 hb3 hg3 hf3))
        go_roundw
        case rel => exact ⟨k + 1, by omega, by go_num, by rw [Sh.acr_succ, List.map_append]; exact hown3, (hbl.trans (hb2.mono (by omega))).trans hb3⟩
        case measure => simp [intOf]; omega
      · have hkk : k = 4 := by omega
        subst hkk
        go_wp2_with fail
        refine (HD.out _).mono ?_
        rintro e w2 ⟨v2, rfl, hown2, hb2⟩
        obtain ⟨g, cap, hv2, hgb, hg, hcap, hcells⟩ := own_form hown2 (by decide)
        rw [hv2]
        rw [hv2] at hown2
        clear hv2
        have hw2 := hb2.size
        have hown1 := own_below hown hb2
        have hcs := hown2.cells (g := g) rfl
        have HCS : Hid _ := hcs
        clear hcs hcells
        have hblA := hbl.trans (hb2.mono (by omega))
        go_wp2_with (at_builtin; refine appendX _ rfl (.tmp 25) (.tmp 26) 83 rfl (w.heap.size + 1) 94 i0 (.int .u64 0) 1 8 Try.underlying83 hi hz0 hz1 hz2 rfl (by decide) _ _ _ rfl hown1 ⟨g, 0, none⟩ 4 cap _ rfl HL1.out HCS.out (ints_one _ _) (by decide) (by unfold maxLen; decide) (by decide) (by omega) ?_; intro v3 w3 hown3 hb3 hg3 hf3; have hblB := hblA.trans hb3; have hq0 := box_cell hblB (by simp) 0 rfl; have hq1 := box_cell hblB (by simp) 1 rfl; have hq2 := box_cell hblB (by simp) 2 rfl; have hq3 := box_cell hblB (by simp) 3 rfl; have hq4 := box_cell hblB (by simp) 4 rfl; have hszB := box_size hblB)
        go_ret
        exact ⟨_, rfl, by rw [HT.out, List.map_append]; exact own_mono hown3 (by omega), ((Below.refl _ _).alloc (Nat.le_refl _) _).trans (hblB.mono (by omega))⟩
  · go_enter Try.func71, Try.ntmps71
    go_wp2
    go_loopw [3, 4, 5, 12] (fun s _ _ i wr => ∃ k : Nat, k ≤ 6 ∧ i = .int .i64 k ∧ wr.ownsRow (w.heap.size + 1) 94 1 s k ((Sh.acr 6 K k).map (Value.int .u64)) ∧ Below (w.heap.size + 1) (w.alloc (.cells #[.int .i64 kind, .int .i64 K, .int .i64 M, .int .i64 7, .int .i64 gd] 25)) wr) (fun _ _ _ i _ => 6 - (intOf i).toNat)
    case atStart => exact ⟨0, by omega, rfl, own_empty (by simp) (by omega), (Below.refl _ _).alloc (by simp) _⟩
    case round =>
      obtain ⟨k, hk, rfl, hown, hbl⟩ := hrel
      have hc0 := box_cell hbl (by simp) 0 rfl
      have hc1 := box_cell hbl (by simp) 1 rfl
      have hc2 := box_cell hbl (by simp) 2 rfl
      have hc3 := box_cell hbl (by simp) 3 rfl
      have hc4 := box_cell hbl (by simp) 4 rfl
      have hsz := box_size hbl
      by_cases hlt : k < 6
      · go_wp2_with (first | (go_at_call 88; refine (HA.out _ _ (by omega)).mono ?_; rintro e w2 ⟨rfl, hb2⟩; have hown1 := own_below hown hb2; have hs2 := hb2.size) | (at_builtin; refine append1x _ rfl (.tmp 18) (.tmp 20) 83 rfl (w.heap.size + 1) 94 i0 (.int .u64 0) 1 8 Try.underlying83 hi hz0 hz1 hz2 rfl (by decide) (by decide) _ _ _ _ rfl hown1 rfl rfl (by simp; rfl) (by omega) (by omega) ?_; intro v' w3 hown3 hb3 hg3 hf3))
        go_roundw
        case rel => exact ⟨k + 1, by omega, by go_num, by rw [Sh.acr_succ, List.map_append]; exact hown3, (hbl.trans (hb2.mono (by omega))).trans hb3⟩
        case measure => simp [intOf]; omega
      · have hkk : k = 6 := by omega
        subst hkk
        go_wp2_with fail
        refine (HD.out _).mono ?_
        rintro e w2 ⟨v2, rfl, hown2, hb2⟩
        obtain ⟨g, cap, hv2, hgb, hg, hcap, hcells⟩ := own_form hown2 (by decide)
        rw [hv2]
        rw [hv2] at hown2
        clear hv2
        have hw2 := hb2.size
        have hown1 := own_below hown hb2
        have hcs := hown2.cells (g := g) rfl
        have HCS : Hid _ := hcs
        clear hcs hcells
        have hblA := hbl.trans (hb2.mono (by omega))
        go_wp2_with (at_builtin; refine appendX _ rfl (.tmp 25) (.tmp 26) 83 rfl (w.heap.size + 1) 94 i0 (.int .u64 0) 1 8 Try.underlying83 hi hz0 hz1 hz2 rfl (by decide) _ _ _ rfl hown1 ⟨g, 0, none⟩ 6 cap _ rfl HL1.out HCS.out (ints_one _ _) (by decide) (by unfold maxLen; decide) (by decide) (by omega) ?_; intro v3 w3 hown3 hb3 hg3 hf3; have hblB := hblA.trans hb3; have hq0 := box_cell hblB (by simp) 0 rfl; have hq1 := box_cell hblB (by simp) 1 rfl; have hq2 := box_cell hblB (by simp) 2 rfl; have hq3 := box_cell hblB (by simp) 3 rfl; have hq4 := box_cell hblB (by simp) 4 rfl; have hszB := box_size hblB)
        go_ret
        exact ⟨_, rfl, by rw [HT.out, List.map_append]; exact own_mono hown3 (by omega), ((Below.refl _ _).alloc (Nat.le_refl _) _).trans (hblB.mono (by omega))⟩

set_option maxHeartbeats 1000000 in
theorem tpar_three (kind M N gd : Int) (n1 K : Nat) (w : World) (hN : (N = 3 ∧ n1 = 2) ∨ (N = 5 ∧ n1 = 4) ∨ (N = 7 ∧ n1 = 6)) (hK : K ≤ 7) (hk3 : (kind == 3) = true) :
    Calls Try.prog 71 #[.agg #[.int .i64 kind, .int .i64 K, .int .i64 M, .int .i64 N, .int .i64 gd]] w fun e w' => ∃ v, e = .returned v ∧ w'.ownsRow w.heap.size 94 1 v (3 * n1) ((Sh.tpar kind n1 K).map (Value.int .u64)) ∧ Below w.heap.size w w' := by
  have HA : Hid (∀ (row : Nat) (w : World), row ≤ n1 → Calls Try.prog 88 #[.agg #[.int .i64 kind, .int .i64 K, .int .i64 M, .int .i64 N, .int .i64 gd], .int .i64 row] w fun e w' => e = .returned (.int .u64 (Sh.across n1 row K)) ∧ Below w.heap.size w w') := fun row w h => across_any kind M N gd n1 K row w hN hK h
  have HD : Hid (∀ (w : World), Calls Try.prog 89 #[.agg #[.int .i64 kind, .int .i64 K, .int .i64 M, .int .i64 N, .int .i64 gd], .int .i64 1] w fun e w' => ∃ v, e = .returned v ∧ w'.ownsRow w.heap.size 94 1 v n1 ((Sh.diags kind 1 n1 K n1).map (Value.int .u64)) ∧ Below w.heap.size w w') := fun w => diags_down kind M N gd n1 K w hN hK
  have HU : Hid (∀ (w : World), Calls Try.prog 89 #[.agg #[.int .i64 kind, .int .i64 K, .int .i64 M, .int .i64 N, .int .i64 gd], .int .i64 (-1)] w fun e w' => ∃ v, e = .returned v ∧ w'.ownsRow w.heap.size 94 1 v n1 ((Sh.diags kind (-1) n1 K n1).map (Value.int .u64)) ∧ Below w.heap.size w w') := fun w => diags_up kind M N gd n1 K w hN hK
  have HT : Hid (Sh.tpar kind n1 K = Sh.acr n1 K n1 ++ Sh.diags kind 1 n1 K n1 ++ Sh.diags kind (-1) n1 K n1) := by
    show _ = _
    rw [Sh.tpar, if_pos (by simpa using hk3)]
  have HL2 : Hid (((Sh.diags kind (-1) n1 K n1).map (Value.int .u64)).length = n1 * 1) := by show _ = _; simp [Sh.diags_len]
  have HL1 : Hid (((Sh.diags kind 1 n1 K n1).map (Value.int .u64)).length = n1 * 1) := by show _ = _; simp [Sh.diags_len]
  obtain ⟨i0, hi, hz0, hz1, hz2⟩ := info_parts Try.infoU64
  rcases hN with ⟨rfl, rfl⟩ | ⟨rfl, rfl⟩ | ⟨rfl, rfl⟩
  · go_enter Try.func71, Try.ntmps71
    go_wp2
    go_loopw [3, 4, 5, 12] (fun s _ _ i wr => ∃ k : Nat, k ≤ 2 ∧ i = .int .i64 k ∧ wr.ownsRow (w.heap.size + 1) 94 1 s k ((Sh.acr 2 K k).map (Value.int .u64)) ∧ Below (w.heap.size + 1) (w.alloc (.cells #[.int .i64 kind, .int .i64 K, .int .i64 M, .int .i64 3, .int .i64 gd] 25)) wr) (fun _ _ _ i _ => 2 - (intOf i).toNat)
    case atStart => exact ⟨0, by omega, rfl, own_empty (by simp) (by omega), (Below.refl _ _).alloc (by simp) _⟩
    case round =>
      obtain ⟨k, hk, rfl, hown, hbl⟩ := hrel
      have hc0 := box_cell hbl (by simp) 0 rfl
      have hc1 := box_cell hbl (by simp) 1 rfl
      have hc2 := box_cell hbl (by simp) 2 rfl
      have hc3 := box_cell hbl (by simp) 3 rfl
      have hc4 := box_cell hbl (by simp) 4 rfl
      have hsz := box_size hbl
      by_cases hlt : k < 2
      · go_wp2_with (first | (go_at_call 88; refine (HA.out _ _ (by omega)).mono ?_; rintro e w2 ⟨rfl, hb2⟩; have hown1 := own_below hown hb2; have hs2 := hb2.size) | (at_builtin; refine append1x _ rfl (.tmp 18) (.tmp 20) 83 rfl (w.heap.size + 1) 94 i0 (.int .u64 0) 1 8 Try.underlying83 hi hz0 hz1 hz2 rfl (by decide) (by decide) _ _ _ _ rfl hown1 rfl rfl (by simp; rfl) (by omega) (by omega) ?_; intro v' w3 hown3 hb3 hg3 hf3))
        go_roundw
        case rel => exact ⟨k + 1, by omega, by go_num, by rw [Sh.acr_succ, List.map_append]; exact hown3, (hbl.trans (hb2.mono (by omega))).trans hb3⟩
        case measure => simp [intOf]; omega
      · have hkk : k = 2 := by omega
        subst hkk
        go_wp2_with fail
        refine (HD.out _).mono ?_
        rintro e w2 ⟨v2, rfl, hown2, hb2⟩
        obtain ⟨g, cap, hv2, hgb, hg, hcap, hcells⟩ := own_form hown2 (by decide)
        rw [hv2]
        rw [hv2] at hown2
        clear hv2
        have hw2 := hb2.size
        have hown1 := own_below hown hb2
        have hcs := hown2.cells (g := g) rfl
        have HCS : Hid _ := hcs
        clear hcs hcells
        have hblA := hbl.trans (hb2.mono (by omega))
        go_wp2_with (at_builtin; refine appendX _ rfl (.tmp 25) (.tmp 26) 83 rfl (w.heap.size + 1) 94 i0 (.int .u64 0) 1 8 Try.underlying83 hi hz0 hz1 hz2 rfl (by decide) _ _ _ rfl hown1 ⟨g, 0, none⟩ 2 cap _ rfl HL1.out HCS.out (ints_one _ _) (by decide) (by unfold maxLen; decide) (by decide) (by omega) ?_; intro v3 w3 hown3 hb3 hg3 hf3; have hblB := hblA.trans hb3; have hq0 := box_cell hblB (by simp) 0 rfl; have hq1 := box_cell hblB (by simp) 1 rfl; have hq2 := box_cell hblB (by simp) 2 rfl; have hq3 := box_cell hblB (by simp) 3 rfl; have hq4 := box_cell hblB (by simp) 4 rfl; have hszB := box_size hblB)
        refine (HU.out _).mono ?_
        rintro e w4 ⟨v4, rfl, hown4, hb4⟩
        obtain ⟨g', cap', hv4, hgb', hg', hcap', hcells'⟩ := own_form hown4 (by decide)
        rw [hv4]
        rw [hv4] at hown4
        clear hv4
        have hw4 := hb4.size
        have hown5 := own_below hown3 hb4
        have hcs := hown4.cells (g := g') rfl
        have HCS' : Hid _ := hcs
        clear hcs hcells'
        have hblC := hblB.trans (hb4.mono (by omega))
        go_wp2_with (at_builtin; refine appendX _ rfl (.tmp 33) (.tmp 34) 83 rfl (w.heap.size + 1) 94 i0 (.int .u64 0) 1 8 Try.underlying83 hi hz0 hz1 hz2 rfl (by decide) _ _ _ rfl hown5 ⟨g', 0, none⟩ 2 cap' _ rfl HL2.out HCS'.out (ints_one _ _) (by decide) (by unfold maxLen; decide) (by decide) (by omega) ?_; intro v6 w6 hown6 hb6 hg6 hf6)
        go_ret
        exact ⟨_, rfl, by rw [HT.out, List.map_append, List.map_append]; exact own_mono hown6 (by omega), ((Below.refl _ _).alloc (Nat.le_refl _) _).trans ((hblC.trans hb6).mono (by omega))⟩
  · go_enter Try.func71, Try.ntmps71
    go_wp2
    go_loopw [3, 4, 5, 12] (fun s _ _ i wr => ∃ k : Nat, k ≤ 4 ∧ i = .int .i64 k ∧ wr.ownsRow (w.heap.size + 1) 94 1 s k ((Sh.acr 4 K k).map (Value.int .u64)) ∧ Below (w.heap.size + 1) (w.alloc (.cells #[.int .i64 kind, .int .i64 K, .int .i64 M, .int .i64 5, .int .i64 gd] 25)) wr) (fun _ _ _ i _ => 4 - (intOf i).toNat)
    case atStart => exact ⟨0, by omega, rfl, own_empty (by simp) (by omega), (Below.refl _ _).alloc (by simp) _⟩
    case round =>
      obtain ⟨k, hk, rfl, hown, hbl⟩ := hrel
      have hc0 := box_cell hbl (by simp) 0 rfl
      have hc1 := box_cell hbl (by simp) 1 rfl
      have hc2 := box_cell hbl (by simp) 2 rfl
      have hc3 := box_cell hbl (by simp) 3 rfl
      have hc4 := box_cell hbl (by simp) 4 rfl
      have hsz := box_size hbl
      by_cases hlt : k < 4
      · go_wp2_with (first | (go_at_call 88; refine (HA.out _ _ (by omega)).mono ?_; rintro e w2 ⟨rfl, hb2⟩; have hown1 := own_below hown hb2; have hs2 := hb2.size) | (at_builtin; refine append1x _ rfl (.tmp 18) (.tmp 20) 83 rfl (w.heap.size + 1) 94 i0 (.int .u64 0) 1 8 Try.underlying83 hi hz0 hz1 hz2 rfl (by decide) (by decide) _ _ _ _ rfl hown1 rfl rfl (by simp; rfl) (by omega) (by omega) ?_; intro v' w3 hown3 hb3 hg3 hf3))
        go_roundw
        case rel => exact ⟨k + 1, by omega, by go_num, by rw [Sh.acr_succ, List.map_append]; exact hown3, (hbl.trans (hb2.mono (by omega))).trans hb3⟩
        case measure => simp [intOf]; omega
      · have hkk : k = 4 := by omega
        subst hkk
        go_wp2_with fail
        refine (HD.out _).mono ?_
        rintro e w2 ⟨v2, rfl, hown2, hb2⟩
        obtain ⟨g, cap, hv2, hgb, hg, hcap, hcells⟩ := own_form hown2 (by decide)
        rw [hv2]
        rw [hv2] at hown2
        clear hv2
        have hw2 := hb2.size
        have hown1 := own_below hown hb2
        have hcs := hown2.cells (g := g) rfl
        have HCS : Hid _ := hcs
        clear hcs hcells
        have hblA := hbl.trans (hb2.mono (by omega))
        go_wp2_with (at_builtin; refine appendX _ rfl (.tmp 25) (.tmp 26) 83 rfl (w.heap.size + 1) 94 i0 (.int .u64 0) 1 8 Try.underlying83 hi hz0 hz1 hz2 rfl (by decide) _ _ _ rfl hown1 ⟨g, 0, none⟩ 4 cap _ rfl HL1.out HCS.out (ints_one _ _) (by decide) (by unfold maxLen; decide) (by decide) (by omega) ?_; intro v3 w3 hown3 hb3 hg3 hf3; have hblB := hblA.trans hb3; have hq0 := box_cell hblB (by simp) 0 rfl; have hq1 := box_cell hblB (by simp) 1 rfl; have hq2 := box_cell hblB (by simp) 2 rfl; have hq3 := box_cell hblB (by simp) 3 rfl; have hq4 := box_cell hblB (by simp) 4 rfl; have hszB := box_size hblB)
        refine (HU.out _).mono ?_
        rintro e w4 ⟨v4, rfl, hown4, hb4⟩
        obtain ⟨g', cap', hv4, hgb', hg', hcap', hcells'⟩ := own_form hown4 (by decide)
        rw [hv4]
        rw [hv4] at hown4
        clear hv4
        have hw4 := hb4.size
        have hown5 := own_below hown3 hb4
        have hcs := hown4.cells (g := g') rfl
        have HCS' : Hid _ := hcs
        clear hcs hcells'
        have hblC := hblB.trans (hb4.mono (by omega))
        go_wp2_with (at_builtin; refine appendX _ rfl (.tmp 33) (.tmp 34) 83 rfl (w.heap.size + 1) 94 i0 (.int .u64 0) 1 8 Try.underlying83 hi hz0 hz1 hz2 rfl (by decide) _ _ _ rfl hown5 ⟨g', 0, none⟩ 4 cap' _ rfl HL2.out HCS'.out (ints_one _ _) (by decide) (by unfold maxLen; decide) (by decide) (by omega) ?_; intro v6 w6 hown6 hb6 hg6 hf6)
        go_ret
        exact ⟨_, rfl, by rw [HT.out, List.map_append, List.map_append]; exact own_mono hown6 (by omega), ((Below.refl _ _).alloc (Nat.le_refl _) _).trans ((hblC.trans hb6).mono (by omega))⟩
  · go_enter Try.func71, Try.ntmps71
    go_wp2
    go_loopw [3, 4, 5, 12] (fun s _ _ i wr => ∃ k : Nat, k ≤ 6 ∧ i = .int .i64 k ∧ wr.ownsRow (w.heap.size + 1) 94 1 s k ((Sh.acr 6 K k).map (Value.int .u64)) ∧ Below (w.heap.size + 1) (w.alloc (.cells #[.int .i64 kind, .int .i64 K, .int .i64 M, .int .i64 7, .int .i64 gd] 25)) wr) (fun _ _ _ i _ => 6 - (intOf i).toNat)
    case atStart => exact ⟨0, by omega, rfl, own_empty (by simp) (by omega), (Below.refl _ _).alloc (by simp) _⟩
    case round =>
      obtain ⟨k, hk, rfl, hown, hbl⟩ := hrel
      have hc0 := box_cell hbl (by simp) 0 rfl
      have hc1 := box_cell hbl (by simp) 1 rfl
      have hc2 := box_cell hbl (by simp) 2 rfl
      have hc3 := box_cell hbl (by simp) 3 rfl
      have hc4 := box_cell hbl (by simp) 4 rfl
      have hsz := box_size hbl
      by_cases hlt : k < 6
      · go_wp2_with (first | (go_at_call 88; refine (HA.out _ _ (by omega)).mono ?_; rintro e w2 ⟨rfl, hb2⟩; have hown1 := own_below hown hb2; have hs2 := hb2.size) | (at_builtin; refine append1x _ rfl (.tmp 18) (.tmp 20) 83 rfl (w.heap.size + 1) 94 i0 (.int .u64 0) 1 8 Try.underlying83 hi hz0 hz1 hz2 rfl (by decide) (by decide) _ _ _ _ rfl hown1 rfl rfl (by simp; rfl) (by omega) (by omega) ?_; intro v' w3 hown3 hb3 hg3 hf3))
        go_roundw
        case rel => exact ⟨k + 1, by omega, by go_num, by rw [Sh.acr_succ, List.map_append]; exact hown3, (hbl.trans (hb2.mono (by omega))).trans hb3⟩
        case measure => simp [intOf]; omega
      · have hkk : k = 6 := by omega
        subst hkk
        go_wp2_with fail
        refine (HD.out _).mono ?_
        rintro e w2 ⟨v2, rfl, hown2, hb2⟩
        obtain ⟨g, cap, hv2, hgb, hg, hcap, hcells⟩ := own_form hown2 (by decide)
        rw [hv2]
        rw [hv2] at hown2
        clear hv2
        have hw2 := hb2.size
        have hown1 := own_below hown hb2
        have hcs := hown2.cells (g := g) rfl
        have HCS : Hid _ := hcs
        clear hcs hcells
        have hblA := hbl.trans (hb2.mono (by omega))
        go_wp2_with (at_builtin; refine appendX _ rfl (.tmp 25) (.tmp 26) 83 rfl (w.heap.size + 1) 94 i0 (.int .u64 0) 1 8 Try.underlying83 hi hz0 hz1 hz2 rfl (by decide) _ _ _ rfl hown1 ⟨g, 0, none⟩ 6 cap _ rfl HL1.out HCS.out (ints_one _ _) (by decide) (by unfold maxLen; decide) (by decide) (by omega) ?_; intro v3 w3 hown3 hb3 hg3 hf3; have hblB := hblA.trans hb3; have hq0 := box_cell hblB (by simp) 0 rfl; have hq1 := box_cell hblB (by simp) 1 rfl; have hq2 := box_cell hblB (by simp) 2 rfl; have hq3 := box_cell hblB (by simp) 3 rfl; have hq4 := box_cell hblB (by simp) 4 rfl; have hszB := box_size hblB)
        refine (HU.out _).mono ?_
        rintro e w4 ⟨v4, rfl, hown4, hb4⟩
        obtain ⟨g', cap', hv4, hgb', hg', hcap', hcells'⟩ := own_form hown4 (by decide)
        rw [hv4]
        rw [hv4] at hown4
        clear hv4
        have hw4 := hb4.size
        have hown5 := own_below hown3 hb4
        have hcs := hown4.cells (g := g') rfl
        have HCS' : Hid _ := hcs
        clear hcs hcells'
        have hblC := hblB.trans (hb4.mono (by omega))
        go_wp2_with (at_builtin; refine appendX _ rfl (.tmp 33) (.tmp 34) 83 rfl (w.heap.size + 1) 94 i0 (.int .u64 0) 1 8 Try.underlying83 hi hz0 hz1 hz2 rfl (by decide) _ _ _ rfl hown5 ⟨g', 0, none⟩ 6 cap' _ rfl HL2.out HCS'.out (ints_one _ _) (by decide) (by unfold maxLen; decide) (by decide) (by omega) ?_; intro v6 w6 hown6 hb6 hg6 hf6)
        go_ret
        exact ⟨_, rfl, by rw [HT.out, List.map_append, List.map_append]; exact own_mono hown6 (by omega), ((Below.refl _ _).alloc (Nat.le_refl _) _).trans ((hblC.trans hb6).mono (by omega))⟩

end Go.Proofs.Ythhbpofcemoflab
