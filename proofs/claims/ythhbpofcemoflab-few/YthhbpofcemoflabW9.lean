import Derived.Test.YthhbpofcemoflabW8
namespace Go.Proofs.Ythhbpofcemoflab
open Go.RowKit
set_option maxRecDepth 20000

set_option maxHeartbeats 1000000 in
theorem diags_down (kind M N gd : Int) (n1 K : Nat) (w : World) (hN : (N = 3 ∧ n1 = 2) ∨ (N = 5 ∧ n1 = 4) ∨ (N = 7 ∧ n1 = 6)) (hK : K ≤ 7) :
    Calls Try.prog 89 #[.agg #[.int .i64 kind, .int .i64 K, .int .i64 M, .int .i64 N, .int .i64 gd], .int .i64 (1)] w fun e w' => ∃ v, e = .returned v ∧ w'.ownsRow w.heap.size 94 1 v n1 ((Sh.diags kind (1) n1 K n1).map (Value.int .u64)) ∧ Below w.heap.size w w' := by
  have HD : Hid (∀ (d : Nat) (w : World), d ≤ n1 → Calls Try.prog 95 #[.agg #[.int .i64 kind, .int .i64 K, .int .i64 M, .int .i64 N, .int .i64 gd], .int .i64 (1), .int .i64 d] w fun e w' => e = .returned (.int .u64 (Sh.diagonal kind (1) n1 K d)) ∧ Below w.heap.size w w') := fun d w h => diagonal_down kind M N gd n1 K d w hN hK h
  have HDn : Hid (∀ (w : World), Calls Try.prog 95 #[.agg #[.int .i64 kind, .int .i64 K, .int .i64 M, .int .i64 N, .int .i64 gd], .int .i64 (1), .int .i64 (N - 1)] w fun e w' => e = .returned (.int .u64 (Sh.diagonal kind (1) n1 K n1)) ∧ Below w.heap.size w w') := fun w => by
    have h := diagonal_down kind M N gd n1 K n1 w hN hK (Nat.le_refl _)
    have e : N - 1 = (n1 : Int) := by omega
    rw [e]; exact h
  obtain ⟨i0, hi, hz0, hz1, hz2⟩ := info_parts Try.infoU64
  by_cases hkd : kind = 2
  · have HE : Hid (Sh.everyw kind (1) n1 K = 0) := by show _ = _; rw [Sh.everyw, if_pos hkd]
    subst hkd
    rcases hN with ⟨rfl, rfl⟩ | ⟨rfl, rfl⟩ | ⟨rfl, rfl⟩
    · go_enter Try.func89, Try.ntmps89
      go_wp2
      have hbl0 : Below (w.heap.size + 1) (w.alloc (.cells #[.int .i64 2, .int .i64 K, .int .i64 M, .int .i64 3, .int .i64 gd] 25)) (w.alloc (.cells #[.int .i64 2, .int .i64 K, .int .i64 M, .int .i64 3, .int .i64 gd] 25)) := Below.refl _ _
      go_loopw [6, 7, 8, 22] (fun s _ _ i wr => ∃ k : Nat, k ≤ 2 ∧ i = .int .i64 k ∧ wr.ownsRow (w.heap.size + 1) 94 1 s k ((Sh.diags 2 (1) 2 K k).map (Value.int .u64)) ∧ Below (w.heap.size + 1) (w.alloc (.cells #[.int .i64 2, .int .i64 K, .int .i64 M, .int .i64 3, .int .i64 gd] 25)) wr) (fun _ _ _ i _ => 2 - (intOf i).toNat)
      case atStart => exact ⟨0, by omega, rfl, own_empty (by simp) (by omega), hbl0.alloc (by simp) _⟩
      case round =>
        obtain ⟨k, hk, rfl, hown, hbl⟩ := hrel
        clear hbl0
        have hc0 := box_cell hbl (by simp) 0 rfl
        have hc1 := box_cell hbl (by simp) 1 rfl
        have hc2 := box_cell hbl (by simp) 2 rfl
        have hc3 := box_cell hbl (by simp) 3 rfl
        have hc4 := box_cell hbl (by simp) 4 rfl
        have hsz := box_size hbl
        by_cases hlt : k < 2
        · go_wp2_with (first | (go_at_call 95; refine (HD.out _ _ (by omega)).mono ?_; rintro e w2 ⟨rfl, hb2⟩; have hown1 := own_below hown hb2; have hs2 := hb2.size) | (at_builtin; refine append1x _ rfl (.tmp 29) (.tmp 33) 83 rfl (w.heap.size + 1) 94 i0 (.int .u64 0) 1 8 Try.underlying83 hi hz0 hz1 hz2 rfl (by decide) (by decide) _ _ _ _ rfl hown1 rfl rfl (by simp; rfl) (by omega) (by omega) ?_; intro v' w3 hown3 hb3 hg3 hf3))
          go_roundw
          case rel => exact ⟨k + 1, by omega, by go_num, by rw [Sh.diags_succ, List.map_append, HE.out]; exact hown3, (hbl.trans (hb2.mono (by omega))).trans hb3⟩
          case measure => simp [intOf]; omega
        · have hkk : k = 2 := by omega
          subst hkk
          go_wp2
          go_ret
          exact ⟨_, rfl, own_mono hown (by omega), ((Below.refl _ _).alloc (Nat.le_refl _) _).trans (hbl.mono (by omega))⟩
    · go_enter Try.func89, Try.ntmps89
      go_wp2
      have hbl0 : Below (w.heap.size + 1) (w.alloc (.cells #[.int .i64 2, .int .i64 K, .int .i64 M, .int .i64 5, .int .i64 gd] 25)) (w.alloc (.cells #[.int .i64 2, .int .i64 K, .int .i64 M, .int .i64 5, .int .i64 gd] 25)) := Below.refl _ _
      go_loopw [6, 7, 8, 22] (fun s _ _ i wr => ∃ k : Nat, k ≤ 4 ∧ i = .int .i64 k ∧ wr.ownsRow (w.heap.size + 1) 94 1 s k ((Sh.diags 2 (1) 4 K k).map (Value.int .u64)) ∧ Below (w.heap.size + 1) (w.alloc (.cells #[.int .i64 2, .int .i64 K, .int .i64 M, .int .i64 5, .int .i64 gd] 25)) wr) (fun _ _ _ i _ => 4 - (intOf i).toNat)
      case atStart => exact ⟨0, by omega, rfl, own_empty (by simp) (by omega), hbl0.alloc (by simp) _⟩
      case round =>
        obtain ⟨k, hk, rfl, hown, hbl⟩ := hrel
        clear hbl0
        have hc0 := box_cell hbl (by simp) 0 rfl
        have hc1 := box_cell hbl (by simp) 1 rfl
        have hc2 := box_cell hbl (by simp) 2 rfl
        have hc3 := box_cell hbl (by simp) 3 rfl
        have hc4 := box_cell hbl (by simp) 4 rfl
        have hsz := box_size hbl
        by_cases hlt : k < 4
        · go_wp2_with (first | (go_at_call 95; refine (HD.out _ _ (by omega)).mono ?_; rintro e w2 ⟨rfl, hb2⟩; have hown1 := own_below hown hb2; have hs2 := hb2.size) | (at_builtin; refine append1x _ rfl (.tmp 29) (.tmp 33) 83 rfl (w.heap.size + 1) 94 i0 (.int .u64 0) 1 8 Try.underlying83 hi hz0 hz1 hz2 rfl (by decide) (by decide) _ _ _ _ rfl hown1 rfl rfl (by simp; rfl) (by omega) (by omega) ?_; intro v' w3 hown3 hb3 hg3 hf3))
          go_roundw
          case rel => exact ⟨k + 1, by omega, by go_num, by rw [Sh.diags_succ, List.map_append, HE.out]; exact hown3, (hbl.trans (hb2.mono (by omega))).trans hb3⟩
          case measure => simp [intOf]; omega
        · have hkk : k = 4 := by omega
          subst hkk
          go_wp2
          go_ret
          exact ⟨_, rfl, own_mono hown (by omega), ((Below.refl _ _).alloc (Nat.le_refl _) _).trans (hbl.mono (by omega))⟩
    · go_enter Try.func89, Try.ntmps89
      go_wp2
      have hbl0 : Below (w.heap.size + 1) (w.alloc (.cells #[.int .i64 2, .int .i64 K, .int .i64 M, .int .i64 7, .int .i64 gd] 25)) (w.alloc (.cells #[.int .i64 2, .int .i64 K, .int .i64 M, .int .i64 7, .int .i64 gd] 25)) := Below.refl _ _
      go_loopw [6, 7, 8, 22] (fun s _ _ i wr => ∃ k : Nat, k ≤ 6 ∧ i = .int .i64 k ∧ wr.ownsRow (w.heap.size + 1) 94 1 s k ((Sh.diags 2 (1) 6 K k).map (Value.int .u64)) ∧ Below (w.heap.size + 1) (w.alloc (.cells #[.int .i64 2, .int .i64 K, .int .i64 M, .int .i64 7, .int .i64 gd] 25)) wr) (fun _ _ _ i _ => 6 - (intOf i).toNat)
      case atStart => exact ⟨0, by omega, rfl, own_empty (by simp) (by omega), hbl0.alloc (by simp) _⟩
      case round =>
        obtain ⟨k, hk, rfl, hown, hbl⟩ := hrel
        clear hbl0
        have hc0 := box_cell hbl (by simp) 0 rfl
        have hc1 := box_cell hbl (by simp) 1 rfl
        have hc2 := box_cell hbl (by simp) 2 rfl
        have hc3 := box_cell hbl (by simp) 3 rfl
        have hc4 := box_cell hbl (by simp) 4 rfl
        have hsz := box_size hbl
        by_cases hlt : k < 6
        · go_wp2_with (first | (go_at_call 95; refine (HD.out _ _ (by omega)).mono ?_; rintro e w2 ⟨rfl, hb2⟩; have hown1 := own_below hown hb2; have hs2 := hb2.size) | (at_builtin; refine append1x _ rfl (.tmp 29) (.tmp 33) 83 rfl (w.heap.size + 1) 94 i0 (.int .u64 0) 1 8 Try.underlying83 hi hz0 hz1 hz2 rfl (by decide) (by decide) _ _ _ _ rfl hown1 rfl rfl (by simp; rfl) (by omega) (by omega) ?_; intro v' w3 hown3 hb3 hg3 hf3))
          go_roundw
          case rel => exact ⟨k + 1, by omega, by go_num, by rw [Sh.diags_succ, List.map_append, HE.out]; exact hown3, (hbl.trans (hb2.mono (by omega))).trans hb3⟩
          case measure => simp [intOf]; omega
        · have hkk : k = 6 := by omega
          subst hkk
          go_wp2
          go_ret
          exact ⟨_, rfl, own_mono hown (by omega), ((Below.refl _ _).alloc (Nat.le_refl _) _).trans (hbl.mono (by omega))⟩
  · have HE : Hid (Sh.everyw kind (1) n1 K = Sh.diagonal kind (1) n1 K n1) := by show _ = _; rw [Sh.everyw, if_neg hkd]
    have hkb : (kind != 2) = true := by simp [hkd]
    clear hkd
    rcases hN with ⟨rfl, rfl⟩ | ⟨rfl, rfl⟩ | ⟨rfl, rfl⟩
    · have hE0 := HDn.out
      simp only [show ((3 : Int) - 1) = 2 from rfl] at hE0
      have HD0 : Hid _ := hE0
      clear hE0 HDn
      go_enter Try.func89, Try.ntmps89
      go_wp2_with (go_at_call 95; refine (HD0.out _).mono ?_; rintro e w1 ⟨rfl, hb1⟩; have hp0 := box_cell hb1 (by simp) 0 rfl; have hp3 := box_cell hb1 (by simp) 3 rfl; have hw1 := box_size hb1)
      have hbl0 : Below (w.heap.size + 1) (w.alloc (.cells #[.int .i64 kind, .int .i64 K, .int .i64 M, .int .i64 3, .int .i64 gd] 25)) w1 := hb1.mono (by simp)
      clear hb1 hp0 hp3
      go_loopw [6, 7, 8, 22] (fun s _ _ i wr => ∃ k : Nat, k ≤ 2 ∧ i = .int .i64 k ∧ wr.ownsRow (w.heap.size + 1) 94 1 s k ((Sh.diags kind (1) 2 K k).map (Value.int .u64)) ∧ Below (w.heap.size + 1) (w.alloc (.cells #[.int .i64 kind, .int .i64 K, .int .i64 M, .int .i64 3, .int .i64 gd] 25)) wr) (fun _ _ _ i _ => 2 - (intOf i).toNat)
      case atStart => exact ⟨0, by omega, rfl, own_empty (by simp) (by omega), hbl0.alloc (by omega) _⟩
      case round =>
        obtain ⟨k, hk, rfl, hown, hbl⟩ := hrel
        clear hbl0
        have hc0 := box_cell hbl (by simp) 0 rfl
        have hc1 := box_cell hbl (by simp) 1 rfl
        have hc2 := box_cell hbl (by simp) 2 rfl
        have hc3 := box_cell hbl (by simp) 3 rfl
        have hc4 := box_cell hbl (by simp) 4 rfl
        have hsz := box_size hbl
        by_cases hlt : k < 2
        · go_wp2_with (first | (go_at_call 95; refine (HD.out _ _ (by omega)).mono ?_; rintro e w2 ⟨rfl, hb2⟩; have hown1 := own_below hown hb2; have hs2 := hb2.size) | (at_builtin; refine append1x _ rfl (.tmp 29) (.tmp 33) 83 rfl (w.heap.size + 1) 94 i0 (.int .u64 0) 1 8 Try.underlying83 hi hz0 hz1 hz2 rfl (by decide) (by decide) _ _ _ _ rfl hown1 rfl rfl (by simp; rfl) (by omega) (by omega) ?_; intro v' w3 hown3 hb3 hg3 hf3))
          go_roundw
          case rel => exact ⟨k + 1, by omega, by go_num, by rw [Sh.diags_succ, List.map_append, HE.out]; exact hown3, (hbl.trans (hb2.mono (by omega))).trans hb3⟩
          case measure => simp [intOf]; omega
        · have hkk : k = 2 := by omega
          subst hkk
          go_wp2
          go_ret
          exact ⟨_, rfl, own_mono hown (by omega), ((Below.refl _ _).alloc (Nat.le_refl _) _).trans (hbl.mono (by omega))⟩
    · have hE0 := HDn.out
      simp only [show ((5 : Int) - 1) = 4 from rfl] at hE0
      have HD0 : Hid _ := hE0
      clear hE0 HDn
      go_enter Try.func89, Try.ntmps89
      go_wp2_with (go_at_call 95; refine (HD0.out _).mono ?_; rintro e w1 ⟨rfl, hb1⟩; have hp0 := box_cell hb1 (by simp) 0 rfl; have hp3 := box_cell hb1 (by simp) 3 rfl; have hw1 := box_size hb1)
      have hbl0 : Below (w.heap.size + 1) (w.alloc (.cells #[.int .i64 kind, .int .i64 K, .int .i64 M, .int .i64 5, .int .i64 gd] 25)) w1 := hb1.mono (by simp)
      clear hb1 hp0 hp3
      go_loopw [6, 7, 8, 22] (fun s _ _ i wr => ∃ k : Nat, k ≤ 4 ∧ i = .int .i64 k ∧ wr.ownsRow (w.heap.size + 1) 94 1 s k ((Sh.diags kind (1) 4 K k).map (Value.int .u64)) ∧ Below (w.heap.size + 1) (w.alloc (.cells #[.int .i64 kind, .int .i64 K, .int .i64 M, .int .i64 5, .int .i64 gd] 25)) wr) (fun _ _ _ i _ => 4 - (intOf i).toNat)
      case atStart => exact ⟨0, by omega, rfl, own_empty (by simp) (by omega), hbl0.alloc (by omega) _⟩
      case round =>
        obtain ⟨k, hk, rfl, hown, hbl⟩ := hrel
        clear hbl0
        have hc0 := box_cell hbl (by simp) 0 rfl
        have hc1 := box_cell hbl (by simp) 1 rfl
        have hc2 := box_cell hbl (by simp) 2 rfl
        have hc3 := box_cell hbl (by simp) 3 rfl
        have hc4 := box_cell hbl (by simp) 4 rfl
        have hsz := box_size hbl
        by_cases hlt : k < 4
        · go_wp2_with (first | (go_at_call 95; refine (HD.out _ _ (by omega)).mono ?_; rintro e w2 ⟨rfl, hb2⟩; have hown1 := own_below hown hb2; have hs2 := hb2.size) | (at_builtin; refine append1x _ rfl (.tmp 29) (.tmp 33) 83 rfl (w.heap.size + 1) 94 i0 (.int .u64 0) 1 8 Try.underlying83 hi hz0 hz1 hz2 rfl (by decide) (by decide) _ _ _ _ rfl hown1 rfl rfl (by simp; rfl) (by omega) (by omega) ?_; intro v' w3 hown3 hb3 hg3 hf3))
          go_roundw
          case rel => exact ⟨k + 1, by omega, by go_num, by rw [Sh.diags_succ, List.map_append, HE.out]; exact hown3, (hbl.trans (hb2.mono (by omega))).trans hb3⟩
          case measure => simp [intOf]; omega
        · have hkk : k = 4 := by omega
          subst hkk
          go_wp2
          go_ret
          exact ⟨_, rfl, own_mono hown (by omega), ((Below.refl _ _).alloc (Nat.le_refl _) _).trans (hbl.mono (by omega))⟩
    · have hE0 := HDn.out
      simp only [show ((7 : Int) - 1) = 6 from rfl] at hE0
      have HD0 : Hid _ := hE0
      clear hE0 HDn
      go_enter Try.func89, Try.ntmps89
      go_wp2_with (go_at_call 95; refine (HD0.out _).mono ?_; rintro e w1 ⟨rfl, hb1⟩; have hp0 := box_cell hb1 (by simp) 0 rfl; have hp3 := box_cell hb1 (by simp) 3 rfl; have hw1 := box_size hb1)
      have hbl0 : Below (w.heap.size + 1) (w.alloc (.cells #[.int .i64 kind, .int .i64 K, .int .i64 M, .int .i64 7, .int .i64 gd] 25)) w1 := hb1.mono (by simp)
      clear hb1 hp0 hp3
      go_loopw [6, 7, 8, 22] (fun s _ _ i wr => ∃ k : Nat, k ≤ 6 ∧ i = .int .i64 k ∧ wr.ownsRow (w.heap.size + 1) 94 1 s k ((Sh.diags kind (1) 6 K k).map (Value.int .u64)) ∧ Below (w.heap.size + 1) (w.alloc (.cells #[.int .i64 kind, .int .i64 K, .int .i64 M, .int .i64 7, .int .i64 gd] 25)) wr) (fun _ _ _ i _ => 6 - (intOf i).toNat)
      case atStart => exact ⟨0, by omega, rfl, own_empty (by simp) (by omega), hbl0.alloc (by omega) _⟩
      case round =>
        obtain ⟨k, hk, rfl, hown, hbl⟩ := hrel
        clear hbl0
        have hc0 := box_cell hbl (by simp) 0 rfl
        have hc1 := box_cell hbl (by simp) 1 rfl
        have hc2 := box_cell hbl (by simp) 2 rfl
        have hc3 := box_cell hbl (by simp) 3 rfl
        have hc4 := box_cell hbl (by simp) 4 rfl
        have hsz := box_size hbl
        by_cases hlt : k < 6
        · go_wp2_with (first | (go_at_call 95; refine (HD.out _ _ (by omega)).mono ?_; rintro e w2 ⟨rfl, hb2⟩; have hown1 := own_below hown hb2; have hs2 := hb2.size) | (at_builtin; refine append1x _ rfl (.tmp 29) (.tmp 33) 83 rfl (w.heap.size + 1) 94 i0 (.int .u64 0) 1 8 Try.underlying83 hi hz0 hz1 hz2 rfl (by decide) (by decide) _ _ _ _ rfl hown1 rfl rfl (by simp; rfl) (by omega) (by omega) ?_; intro v' w3 hown3 hb3 hg3 hf3))
          go_roundw
          case rel => exact ⟨k + 1, by omega, by go_num, by rw [Sh.diags_succ, List.map_append, HE.out]; exact hown3, (hbl.trans (hb2.mono (by omega))).trans hb3⟩
          case measure => simp [intOf]; omega
        · have hkk : k = 6 := by omega
          subst hkk
          go_wp2
          go_ret
          exact ⟨_, rfl, own_mono hown (by omega), ((Below.refl _ _).alloc (Nat.le_refl _) _).trans (hbl.mono (by omega))⟩

set_option maxHeartbeats 1000000 in
theorem diags_up (kind M N gd : Int) (n1 K : Nat) (w : World) (hN : (N = 3 ∧ n1 = 2) ∨ (N = 5 ∧ n1 = 4) ∨ (N = 7 ∧ n1 = 6)) (hK : K ≤ 7) :
    Calls Try.prog 89 #[.agg #[.int .i64 kind, .int .i64 K, .int .i64 M, .int .i64 N, .int .i64 gd], .int .i64 (-1)] w fun e w' => ∃ v, e = .returned v ∧ w'.ownsRow w.heap.size 94 1 v n1 ((Sh.diags kind (-1) n1 K n1).map (Value.int .u64)) ∧ Below w.heap.size w w' := by
  have HD : Hid (∀ (d : Nat) (w : World), d ≤ n1 → Calls Try.prog 95 #[.agg #[.int .i64 kind, .int .i64 K, .int .i64 M, .int .i64 N, .int .i64 gd], .int .i64 (-1), .int .i64 d] w fun e w' => e = .returned (.int .u64 (Sh.diagonal kind (-1) n1 K d)) ∧ Below w.heap.size w w') := fun d w h => diagonal_up kind M N gd n1 K d w hN hK h
  have HDn : Hid (∀ (w : World), Calls Try.prog 95 #[.agg #[.int .i64 kind, .int .i64 K, .int .i64 M, .int .i64 N, .int .i64 gd], .int .i64 (-1), .int .i64 (N - 1)] w fun e w' => e = .returned (.int .u64 (Sh.diagonal kind (-1) n1 K n1)) ∧ Below w.heap.size w w') := fun w => by
    have h := diagonal_up kind M N gd n1 K n1 w hN hK (Nat.le_refl _)
    have e : N - 1 = (n1 : Int) := by omega
    rw [e]; exact h
  obtain ⟨i0, hi, hz0, hz1, hz2⟩ := info_parts Try.infoU64
  by_cases hkd : kind = 2
  · have HE : Hid (Sh.everyw kind (-1) n1 K = 0) := by show _ = _; rw [Sh.everyw, if_pos hkd]
    subst hkd
    rcases hN with ⟨rfl, rfl⟩ | ⟨rfl, rfl⟩ | ⟨rfl, rfl⟩
    · go_enter Try.func89, Try.ntmps89
      go_wp2
      have hbl0 : Below (w.heap.size + 1) (w.alloc (.cells #[.int .i64 2, .int .i64 K, .int .i64 M, .int .i64 3, .int .i64 gd] 25)) (w.alloc (.cells #[.int .i64 2, .int .i64 K, .int .i64 M, .int .i64 3, .int .i64 gd] 25)) := Below.refl _ _
      go_loopw [6, 7, 8, 22] (fun s _ _ i wr => ∃ k : Nat, k ≤ 2 ∧ i = .int .i64 k ∧ wr.ownsRow (w.heap.size + 1) 94 1 s k ((Sh.diags 2 (-1) 2 K k).map (Value.int .u64)) ∧ Below (w.heap.size + 1) (w.alloc (.cells #[.int .i64 2, .int .i64 K, .int .i64 M, .int .i64 3, .int .i64 gd] 25)) wr) (fun _ _ _ i _ => 2 - (intOf i).toNat)
      case atStart => exact ⟨0, by omega, rfl, own_empty (by simp) (by omega), hbl0.alloc (by simp) _⟩
      case round =>
        obtain ⟨k, hk, rfl, hown, hbl⟩ := hrel
        clear hbl0
        have hc0 := box_cell hbl (by simp) 0 rfl
        have hc1 := box_cell hbl (by simp) 1 rfl
        have hc2 := box_cell hbl (by simp) 2 rfl
        have hc3 := box_cell hbl (by simp) 3 rfl
        have hc4 := box_cell hbl (by simp) 4 rfl
        have hsz := box_size hbl
        by_cases hlt : k < 2
        · go_wp2_with (first | (go_at_call 95; refine (HD.out _ _ (by omega)).mono ?_; rintro e w2 ⟨rfl, hb2⟩; have hown1 := own_below hown hb2; have hs2 := hb2.size) | (at_builtin; refine append1x _ rfl (.tmp 29) (.tmp 33) 83 rfl (w.heap.size + 1) 94 i0 (.int .u64 0) 1 8 Try.underlying83 hi hz0 hz1 hz2 rfl (by decide) (by decide) _ _ _ _ rfl hown1 rfl rfl (by simp; rfl) (by omega) (by omega) ?_; intro v' w3 hown3 hb3 hg3 hf3))
          go_roundw
          case rel => exact ⟨k + 1, by omega, by go_num, by rw [Sh.diags_succ, List.map_append, HE.out]; exact hown3, (hbl.trans (hb2.mono (by omega))).trans hb3⟩
          case measure => simp [intOf]; omega
        · have hkk : k = 2 := by omega
          subst hkk
          go_wp2
          go_ret
          exact ⟨_, rfl, own_mono hown (by omega), ((Below.refl _ _).alloc (Nat.le_refl _) _).trans (hbl.mono (by omega))⟩
    · go_enter Try.func89, Try.ntmps89
      go_wp2
      have hbl0 : Below (w.heap.size + 1) (w.alloc (.cells #[.int .i64 2, .int .i64 K, .int .i64 M, .int .i64 5, .int .i64 gd] 25)) (w.alloc (.cells #[.int .i64 2, .int .i64 K, .int .i64 M, .int .i64 5, .int .i64 gd] 25)) := Below.refl _ _
      go_loopw [6, 7, 8, 22] (fun s _ _ i wr => ∃ k : Nat, k ≤ 4 ∧ i = .int .i64 k ∧ wr.ownsRow (w.heap.size + 1) 94 1 s k ((Sh.diags 2 (-1) 4 K k).map (Value.int .u64)) ∧ Below (w.heap.size + 1) (w.alloc (.cells #[.int .i64 2, .int .i64 K, .int .i64 M, .int .i64 5, .int .i64 gd] 25)) wr) (fun _ _ _ i _ => 4 - (intOf i).toNat)
      case atStart => exact ⟨0, by omega, rfl, own_empty (by simp) (by omega), hbl0.alloc (by simp) _⟩
      case round =>
        obtain ⟨k, hk, rfl, hown, hbl⟩ := hrel
        clear hbl0
        have hc0 := box_cell hbl (by simp) 0 rfl
        have hc1 := box_cell hbl (by simp) 1 rfl
        have hc2 := box_cell hbl (by simp) 2 rfl
        have hc3 := box_cell hbl (by simp) 3 rfl
        have hc4 := box_cell hbl (by simp) 4 rfl
        have hsz := box_size hbl
        by_cases hlt : k < 4
        · go_wp2_with (first | (go_at_call 95; refine (HD.out _ _ (by omega)).mono ?_; rintro e w2 ⟨rfl, hb2⟩; have hown1 := own_below hown hb2; have hs2 := hb2.size) | (at_builtin; refine append1x _ rfl (.tmp 29) (.tmp 33) 83 rfl (w.heap.size + 1) 94 i0 (.int .u64 0) 1 8 Try.underlying83 hi hz0 hz1 hz2 rfl (by decide) (by decide) _ _ _ _ rfl hown1 rfl rfl (by simp; rfl) (by omega) (by omega) ?_; intro v' w3 hown3 hb3 hg3 hf3))
          go_roundw
          case rel => exact ⟨k + 1, by omega, by go_num, by rw [Sh.diags_succ, List.map_append, HE.out]; exact hown3, (hbl.trans (hb2.mono (by omega))).trans hb3⟩
          case measure => simp [intOf]; omega
        · have hkk : k = 4 := by omega
          subst hkk
          go_wp2
          go_ret
          exact ⟨_, rfl, own_mono hown (by omega), ((Below.refl _ _).alloc (Nat.le_refl _) _).trans (hbl.mono (by omega))⟩
    · go_enter Try.func89, Try.ntmps89
      go_wp2
      have hbl0 : Below (w.heap.size + 1) (w.alloc (.cells #[.int .i64 2, .int .i64 K, .int .i64 M, .int .i64 7, .int .i64 gd] 25)) (w.alloc (.cells #[.int .i64 2, .int .i64 K, .int .i64 M, .int .i64 7, .int .i64 gd] 25)) := Below.refl _ _
      go_loopw [6, 7, 8, 22] (fun s _ _ i wr => ∃ k : Nat, k ≤ 6 ∧ i = .int .i64 k ∧ wr.ownsRow (w.heap.size + 1) 94 1 s k ((Sh.diags 2 (-1) 6 K k).map (Value.int .u64)) ∧ Below (w.heap.size + 1) (w.alloc (.cells #[.int .i64 2, .int .i64 K, .int .i64 M, .int .i64 7, .int .i64 gd] 25)) wr) (fun _ _ _ i _ => 6 - (intOf i).toNat)
      case atStart => exact ⟨0, by omega, rfl, own_empty (by simp) (by omega), hbl0.alloc (by simp) _⟩
      case round =>
        obtain ⟨k, hk, rfl, hown, hbl⟩ := hrel
        clear hbl0
        have hc0 := box_cell hbl (by simp) 0 rfl
        have hc1 := box_cell hbl (by simp) 1 rfl
        have hc2 := box_cell hbl (by simp) 2 rfl
        have hc3 := box_cell hbl (by simp) 3 rfl
        have hc4 := box_cell hbl (by simp) 4 rfl
        have hsz := box_size hbl
        by_cases hlt : k < 6
        · go_wp2_with (first | (go_at_call 95; refine (HD.out _ _ (by omega)).mono ?_; rintro e w2 ⟨rfl, hb2⟩; have hown1 := own_below hown hb2; have hs2 := hb2.size) | (at_builtin; refine append1x _ rfl (.tmp 29) (.tmp 33) 83 rfl (w.heap.size + 1) 94 i0 (.int .u64 0) 1 8 Try.underlying83 hi hz0 hz1 hz2 rfl (by decide) (by decide) _ _ _ _ rfl hown1 rfl rfl (by simp; rfl) (by omega) (by omega) ?_; intro v' w3 hown3 hb3 hg3 hf3))
          go_roundw
          case rel => exact ⟨k + 1, by omega, by go_num, by rw [Sh.diags_succ, List.map_append, HE.out]; exact hown3, (hbl.trans (hb2.mono (by omega))).trans hb3⟩
          case measure => simp [intOf]; omega
        · have hkk : k = 6 := by omega
          subst hkk
          go_wp2
          go_ret
          exact ⟨_, rfl, own_mono hown (by omega), ((Below.refl _ _).alloc (Nat.le_refl _) _).trans (hbl.mono (by omega))⟩
  · have HE : Hid (Sh.everyw kind (-1) n1 K = Sh.diagonal kind (-1) n1 K n1) := by show _ = _; rw [Sh.everyw, if_neg hkd]
    have hkb : (kind != 2) = true := by simp [hkd]
    clear hkd
    rcases hN with ⟨rfl, rfl⟩ | ⟨rfl, rfl⟩ | ⟨rfl, rfl⟩
    · have hE0 := HDn.out
      simp only [show ((3 : Int) - 1) = 2 from rfl] at hE0
      have HD0 : Hid _ := hE0
      clear hE0 HDn
      go_enter Try.func89, Try.ntmps89
      go_wp2_with (go_at_call 95; refine (HD0.out _).mono ?_; rintro e w1 ⟨rfl, hb1⟩; have hp0 := box_cell hb1 (by simp) 0 rfl; have hp3 := box_cell hb1 (by simp) 3 rfl; have hw1 := box_size hb1)
      have hbl0 : Below (w.heap.size + 1) (w.alloc (.cells #[.int .i64 kind, .int .i64 K, .int .i64 M, .int .i64 3, .int .i64 gd] 25)) w1 := hb1.mono (by simp)
      clear hb1 hp0 hp3
      go_loopw [6, 7, 8, 22] (fun s _ _ i wr => ∃ k : Nat, k ≤ 2 ∧ i = .int .i64 k ∧ wr.ownsRow (w.heap.size + 1) 94 1 s k ((Sh.diags kind (-1) 2 K k).map (Value.int .u64)) ∧ Below (w.heap.size + 1) (w.alloc (.cells #[.int .i64 kind, .int .i64 K, .int .i64 M, .int .i64 3, .int .i64 gd] 25)) wr) (fun _ _ _ i _ => 2 - (intOf i).toNat)
      case atStart => exact ⟨0, by omega, rfl, own_empty (by simp) (by omega), hbl0.alloc (by omega) _⟩
      case round =>
        obtain ⟨k, hk, rfl, hown, hbl⟩ := hrel
        clear hbl0
        have hc0 := box_cell hbl (by simp) 0 rfl
        have hc1 := box_cell hbl (by simp) 1 rfl
        have hc2 := box_cell hbl (by simp) 2 rfl
        have hc3 := box_cell hbl (by simp) 3 rfl
        have hc4 := box_cell hbl (by simp) 4 rfl
        have hsz := box_size hbl
        by_cases hlt : k < 2
        · go_wp2_with (first | (go_at_call 95; refine (HD.out _ _ (by omega)).mono ?_; rintro e w2 ⟨rfl, hb2⟩; have hown1 := own_below hown hb2; have hs2 := hb2.size) | (at_builtin; refine append1x _ rfl (.tmp 29) (.tmp 33) 83 rfl (w.heap.size + 1) 94 i0 (.int .u64 0) 1 8 Try.underlying83 hi hz0 hz1 hz2 rfl (by decide) (by decide) _ _ _ _ rfl hown1 rfl rfl (by simp; rfl) (by omega) (by omega) ?_; intro v' w3 hown3 hb3 hg3 hf3))
          go_roundw
          case rel => exact ⟨k + 1, by omega, by go_num, by rw [Sh.diags_succ, List.map_append, HE.out]; exact hown3, (hbl.trans (hb2.mono (by omega))).trans hb3⟩
          case measure => simp [intOf]; omega
        · have hkk : k = 2 := by omega
          subst hkk
          go_wp2
          go_ret
          exact ⟨_, rfl, own_mono hown (by omega), ((Below.refl _ _).alloc (Nat.le_refl _) _).trans (hbl.mono (by omega))⟩
    · have hE0 := HDn.out
      simp only [show ((5 : Int) - 1) = 4 from rfl] at hE0
      have HD0 : Hid _ := hE0
      clear hE0 HDn
      go_enter Try.func89, Try.ntmps89
      go_wp2_with (go_at_call 95; refine (HD0.out _).mono ?_; rintro e w1 ⟨rfl, hb1⟩; have hp0 := box_cell hb1 (by simp) 0 rfl; have hp3 := box_cell hb1 (by simp) 3 rfl; have hw1 := box_size hb1)
      have hbl0 : Below (w.heap.size + 1) (w.alloc (.cells #[.int .i64 kind, .int .i64 K, .int .i64 M, .int .i64 5, .int .i64 gd] 25)) w1 := hb1.mono (by simp)
      clear hb1 hp0 hp3
      go_loopw [6, 7, 8, 22] (fun s _ _ i wr => ∃ k : Nat, k ≤ 4 ∧ i = .int .i64 k ∧ wr.ownsRow (w.heap.size + 1) 94 1 s k ((Sh.diags kind (-1) 4 K k).map (Value.int .u64)) ∧ Below (w.heap.size + 1) (w.alloc (.cells #[.int .i64 kind, .int .i64 K, .int .i64 M, .int .i64 5, .int .i64 gd] 25)) wr) (fun _ _ _ i _ => 4 - (intOf i).toNat)
      case atStart => exact ⟨0, by omega, rfl, own_empty (by simp) (by omega), hbl0.alloc (by omega) _⟩
      case round =>
        obtain ⟨k, hk, rfl, hown, hbl⟩ := hrel
        clear hbl0
        have hc0 := box_cell hbl (by simp) 0 rfl
        have hc1 := box_cell hbl (by simp) 1 rfl
        have hc2 := box_cell hbl (by simp) 2 rfl
        have hc3 := box_cell hbl (by simp) 3 rfl
        have hc4 := box_cell hbl (by simp) 4 rfl
        have hsz := box_size hbl
        by_cases hlt : k < 4
        · go_wp2_with (first | (go_at_call 95; refine (HD.out _ _ (by omega)).mono ?_; rintro e w2 ⟨rfl, hb2⟩; have hown1 := own_below hown hb2; have hs2 := hb2.size) | (at_builtin; refine append1x _ rfl (.tmp 29) (.tmp 33) 83 rfl (w.heap.size + 1) 94 i0 (.int .u64 0) 1 8 Try.underlying83 hi hz0 hz1 hz2 rfl (by decide) (by decide) _ _ _ _ rfl hown1 rfl rfl (by simp; rfl) (by omega) (by omega) ?_; intro v' w3 hown3 hb3 hg3 hf3))
          go_roundw
          case rel => exact ⟨k + 1, by omega, by go_num, by rw [Sh.diags_succ, List.map_append, HE.out]; exact hown3, (hbl.trans (hb2.mono (by omega))).trans hb3⟩
          case measure => simp [intOf]; omega
        · have hkk : k = 4 := by omega
          subst hkk
          go_wp2
          go_ret
          exact ⟨_, rfl, own_mono hown (by omega), ((Below.refl _ _).alloc (Nat.le_refl _) _).trans (hbl.mono (by omega))⟩
    · have hE0 := HDn.out
      simp only [show ((7 : Int) - 1) = 6 from rfl] at hE0
      have HD0 : Hid _ := hE0
      clear hE0 HDn
      go_enter Try.func89, Try.ntmps89
      go_wp2_with (go_at_call 95; refine (HD0.out _).mono ?_; rintro e w1 ⟨rfl, hb1⟩; have hp0 := box_cell hb1 (by simp) 0 rfl; have hp3 := box_cell hb1 (by simp) 3 rfl; have hw1 := box_size hb1)
      have hbl0 : Below (w.heap.size + 1) (w.alloc (.cells #[.int .i64 kind, .int .i64 K, .int .i64 M, .int .i64 7, .int .i64 gd] 25)) w1 := hb1.mono (by simp)
      clear hb1 hp0 hp3
      go_loopw [6, 7, 8, 22] (fun s _ _ i wr => ∃ k : Nat, k ≤ 6 ∧ i = .int .i64 k ∧ wr.ownsRow (w.heap.size + 1) 94 1 s k ((Sh.diags kind (-1) 6 K k).map (Value.int .u64)) ∧ Below (w.heap.size + 1) (w.alloc (.cells #[.int .i64 kind, .int .i64 K, .int .i64 M, .int .i64 7, .int .i64 gd] 25)) wr) (fun _ _ _ i _ => 6 - (intOf i).toNat)
      case atStart => exact ⟨0, by omega, rfl, own_empty (by simp) (by omega), hbl0.alloc (by omega) _⟩
      case round =>
        obtain ⟨k, hk, rfl, hown, hbl⟩ := hrel
        clear hbl0
        have hc0 := box_cell hbl (by simp) 0 rfl
        have hc1 := box_cell hbl (by simp) 1 rfl
        have hc2 := box_cell hbl (by simp) 2 rfl
        have hc3 := box_cell hbl (by simp) 3 rfl
        have hc4 := box_cell hbl (by simp) 4 rfl
        have hsz := box_size hbl
        by_cases hlt : k < 6
        · go_wp2_with (first | (go_at_call 95; refine (HD.out _ _ (by omega)).mono ?_; rintro e w2 ⟨rfl, hb2⟩; have hown1 := own_below hown hb2; have hs2 := hb2.size) | (at_builtin; refine append1x _ rfl (.tmp 29) (.tmp 33) 83 rfl (w.heap.size + 1) 94 i0 (.int .u64 0) 1 8 Try.underlying83 hi hz0 hz1 hz2 rfl (by decide) (by decide) _ _ _ _ rfl hown1 rfl rfl (by simp; rfl) (by omega) (by omega) ?_; intro v' w3 hown3 hb3 hg3 hf3))
          go_roundw
          case rel => exact ⟨k + 1, by omega, by go_num, by rw [Sh.diags_succ, List.map_append, HE.out]; exact hown3, (hbl.trans (hb2.mono (by omega))).trans hb3⟩
          case measure => simp [intOf]; omega
        · have hkk : k = 6 := by omega
          subst hkk
          go_wp2
          go_ret
          exact ⟨_, rfl, own_mono hown (by omega), ((Below.refl _ _).alloc (Nat.le_refl _) _).trans (hbl.mono (by omega))⟩

end Go.Proofs.Ythhbpofcemoflab
