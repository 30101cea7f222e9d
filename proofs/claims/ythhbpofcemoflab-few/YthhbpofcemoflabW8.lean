import Derived.Test.YthhbpofcemoflabW7
import Derived.Test.YthhbpofcemoflabGa
namespace Go.Proofs.Ythhbpofcemoflab
open Go.RowKit
set_option maxRecDepth 20000

set_option maxHeartbeats 400000 in
theorem across_any (kind M N gd : Int) (n1 K row : Nat) (w : World) (hN : (N = 3 ∧ n1 = 2) ∨ (N = 5 ∧ n1 = 4) ∨ (N = 7 ∧ n1 = 6)) (hK : K ≤ 7) (hr : row ≤ n1) :
    Calls Try.prog 88 #[.agg #[.int .i64 kind, .int .i64 K, .int .i64 M, .int .i64 N, .int .i64 gd], .int .i64 row] w fun e w' => e = .returned (.int .u64 (Sh.across n1 row K)) ∧ Below w.heap.size w w' := by
  rcases hN with ⟨rfl, rfl⟩ | ⟨rfl, rfl⟩ | ⟨rfl, rfl⟩
  · go_enter Try.func88, Try.ntmps88
    go_wp2
    go_loop [5, 6, 9] (fun s _ i => ∃ k : Nat, k ≤ K ∧ i = .int .i64 k ∧ s = .int .u64 (Sh.across 2 row k)) (fun _ _ i => K - (intOf i).toNat)
    case atStart => exact ⟨0, Nat.zero_le _, rfl, rfl⟩
    case round =>
      obtain ⟨k, hk, rfl, rfl⟩ := hrel
      by_cases hlt : k < K
      · go_wp2
        go_round
        case rel => exact ⟨k + 1, by omega, by go_num, rfl⟩
        case measure => simp [intOf]; omega
      · have hkd : k = K := by omega
        subst hkd
        go_wp2
        go_ret
        exact ⟨rfl, (Below.refl _ _).alloc (Nat.le_refl _) _⟩
  · go_enter Try.func88, Try.ntmps88
    go_wp2
    go_loop [5, 6, 9] (fun s _ i => ∃ k : Nat, k ≤ K ∧ i = .int .i64 k ∧ s = .int .u64 (Sh.across 4 row k)) (fun _ _ i => K - (intOf i).toNat)
    case atStart => exact ⟨0, Nat.zero_le _, rfl, rfl⟩
    case round =>
      obtain ⟨k, hk, rfl, rfl⟩ := hrel
      by_cases hlt : k < K
      · go_wp2
        go_round
        case rel => exact ⟨k + 1, by omega, by go_num, rfl⟩
        case measure => simp [intOf]; omega
      · have hkd : k = K := by omega
        subst hkd
        go_wp2
        go_ret
        exact ⟨rfl, (Below.refl _ _).alloc (Nat.le_refl _) _⟩
  · go_enter Try.func88, Try.ntmps88
    go_wp2
    go_loop [5, 6, 9] (fun s _ i => ∃ k : Nat, k ≤ K ∧ i = .int .i64 k ∧ s = .int .u64 (Sh.across 6 row k)) (fun _ _ i => K - (intOf i).toNat)
    case atStart => exact ⟨0, Nat.zero_le _, rfl, rfl⟩
    case round =>
      obtain ⟨k, hk, rfl, rfl⟩ := hrel
      by_cases hlt : k < K
      · go_wp2
        go_round
        case rel => exact ⟨k + 1, by omega, by go_num, rfl⟩
        case measure => simp [intOf]; omega
      · have hkd : k = K := by omega
        subst hkd
        go_wp2
        go_ret
        exact ⟨rfl, (Below.refl _ _).alloc (Nat.le_refl _) _⟩

set_option maxHeartbeats 400000 in
theorem cell_any (kind M N gd : Int) (n1 K : Nat) (row : Int) (col : Nat) (w : World) (hN : (N = 3 ∧ n1 = 2) ∨ (N = 5 ∧ n1 = 4) ∨ (N = 7 ∧ n1 = 6)) (hK : K ≤ 7) (hr0 : 0 ≤ row) (hr : row ≤ n1) (hc : col ≤ n1) :
    Calls Try.prog 99 #[.agg #[.int .i64 kind, .int .i64 K, .int .i64 M, .int .i64 N, .int .i64 gd], .int .i64 row, .int .i64 col] w fun e w' => e = .returned (.int .u64 (Sh.cell kind n1 K row.toNat col)) ∧ Below w.heap.size w w' := by
  obtain ⟨r, rfl⟩ := Int.eq_ofNat_of_zero_le hr0
  rw [Int.toNat_natCast]
  have HA : Hid (∀ w : World, Calls Try.prog 88 #[.agg #[.int .i64 kind, .int .i64 K, .int .i64 M, .int .i64 N, .int .i64 gd], .int .i64 r] w fun e w' => e = .returned (.int .u64 (Sh.across n1 r K)) ∧ Below w.heap.size w w') := fun w => across_any kind M N gd n1 K r w hN hK (by omega)
  by_cases c1 : r = n1
  · have hfin : Hid (Sh.cell kind n1 K r col = 0) := by show _ = _; rw [Sh.cell, if_pos c1]
    rcases hN with ⟨rfl, rfl⟩ | ⟨rfl, rfl⟩ | ⟨rfl, rfl⟩
    all_goals
      subst c1
      go_enter Try.func99, Try.ntmps99
      go_wp2
      go_ret
      exact ⟨ret_int hfin.out.symm, (Below.refl _ _).alloc (Nat.le_refl _) _⟩
  · by_cases c2 : col < K
    · have hfin : Hid (Sh.cell kind n1 K r col = IntKind.u64.wrap (2 ^ (col * n1 + r))) := by show _ = _; rw [Sh.cell, if_neg c1, if_pos c2]
      rcases hN with ⟨rfl, rfl⟩ | ⟨rfl, rfl⟩ | ⟨rfl, rfl⟩
      all_goals
        go_enter Try.func99, Try.ntmps99
        go_wp2
        go_ret
        exact ⟨ret_int hfin.out.symm, (Below.refl _ _).alloc (Nat.le_refl _) _⟩
    · by_cases c3 : kind = 2
      · subst c3
        by_cases c4 : col = n1
        · have hfin : Hid (Sh.cell 2 n1 K r col = Sh.across n1 r K) := by show _ = _; rw [Sh.cell, if_neg c1, if_neg c2, if_pos ⟨rfl, c4⟩]
          have c4b : ((col : Int) == (n1 : Int)) = true := by simp [c4]
          rcases hN with ⟨rfl, rfl⟩ | ⟨rfl, rfl⟩ | ⟨rfl, rfl⟩
          all_goals
            subst c4
            go_enter Try.func99, Try.ntmps99
            go_wp2_with (go_at_call 88; refine (HA.out _).mono ?_; rintro e w1 ⟨rfl, hb1⟩)
            go_ret
            exact ⟨ret_int hfin.out.symm, ((Below.refl _ _).alloc (Nat.le_refl _) _).trans (hb1.mono (by simp))⟩
        · have hfin : Hid (Sh.cell 2 n1 K r col = 0) := by show _ = _; rw [Sh.cell, if_neg c1, if_neg c2, if_neg (by omega)]
          rcases hN with ⟨rfl, rfl⟩ | ⟨rfl, rfl⟩ | ⟨rfl, rfl⟩
          all_goals
            go_enter Try.func99, Try.ntmps99
            go_wp2
            go_ret
            exact ⟨ret_int hfin.out.symm, (Below.refl _ _).alloc (Nat.le_refl _) _⟩
      · have hfin : Hid (Sh.cell kind n1 K r col = 0) := by show _ = _; rw [Sh.cell, if_neg c1, if_neg c2, if_neg (by omega)]
        have c3b : (kind == 2) = false := by simp [c3]
        rcases hN with ⟨rfl, rfl⟩ | ⟨rfl, rfl⟩ | ⟨rfl, rfl⟩
        all_goals
          go_enter Try.func99, Try.ntmps99
          go_wp2
          go_ret
          exact ⟨ret_int hfin.out.symm, (Below.refl _ _).alloc (Nat.le_refl _) _⟩

set_option maxHeartbeats 1000000 in
theorem diagonal_down (kind M N gd : Int) (n1 K : Nat) (d : Nat) (w : World) (hN : (N = 3 ∧ n1 = 2) ∨ (N = 5 ∧ n1 = 4) ∨ (N = 7 ∧ n1 = 6)) (hK : K ≤ 7) (hd : d ≤ n1) :
    Calls Try.prog 95 #[.agg #[.int .i64 kind, .int .i64 K, .int .i64 M, .int .i64 N, .int .i64 gd], .int .i64 (1), .int .i64 d] w fun e w' => e = .returned (.int .u64 (Sh.diagonal kind (1) n1 K d)) ∧ Below w.heap.size w w' := by
  have HC : Hid (∀ (row : Int) (col : Nat) (w : World), 0 ≤ row → row ≤ n1 → col ≤ n1 → Calls Try.prog 99 #[.agg #[.int .i64 kind, .int .i64 K, .int .i64 M, .int .i64 N, .int .i64 gd], .int .i64 row, .int .i64 col] w fun e w' => e = .returned (.int .u64 (Sh.cell kind n1 K row.toNat col)) ∧ Below w.heap.size w w') := fun row col w h0 h1 h2 => cell_any kind M N gd n1 K row col w hN hK h0 h1 h2
  rcases hN with ⟨rfl, rfl⟩ | ⟨rfl, rfl⟩ | ⟨rfl, rfl⟩
  · go_enter Try.func95, Try.ntmps95
    go_wp2
    go_loopw [7, 8, 9, 12] (fun s _ _ i wr => ∃ k : Nat, k ≤ 3 ∧ i = .int .i64 k ∧ s = .int .u64 (Sh.diag kind (1) 2 K d k) ∧ Below (w.heap.size + 1) (w.alloc (.cells #[.int .i64 kind, .int .i64 K, .int .i64 M, .int .i64 3, .int .i64 gd] 25)) wr) (fun _ _ _ i _ => 3 - (intOf i).toNat)
    case atStart => exact ⟨0, by omega, rfl, rfl, Below.refl _ _⟩
    case round =>
      obtain ⟨k, hk, rfl, rfl, hbl⟩ := hrel
      have hc0 := box_cell hbl (by simp) 0 rfl
      have hc1 := box_cell hbl (by simp) 1 rfl
      have hc2 := box_cell hbl (by simp) 2 rfl
      have hc3 := box_cell hbl (by simp) 3 rfl
      have hc4 := box_cell hbl (by simp) 4 rfl
      have hsz := box_size hbl
      by_cases hlt : k < 3
      · go_wp2_with (go_at_call 99; refine (HC.out _ _ _ (by omega) (by omega) (by omega)).mono ?_; rintro e w1 ⟨rfl, hb1⟩)
        go_roundw
        case rel => exact ⟨k + 1, by omega, by go_num, by first | rfl | exact val_int (by simp only [Sh.diag, Sh.rowAt]; congr 3; omega), hbl.trans (hb1.mono (by omega))⟩
        case measure => simp [intOf]; omega
      · have hkd : k = 3 := by omega
        subst hkd
        go_wp2
        go_ret
        exact ⟨rfl, ((Below.refl _ _).alloc (Nat.le_refl _) _).trans (hbl.mono (by simp))⟩
  · go_enter Try.func95, Try.ntmps95
    go_wp2
    go_loopw [7, 8, 9, 12] (fun s _ _ i wr => ∃ k : Nat, k ≤ 5 ∧ i = .int .i64 k ∧ s = .int .u64 (Sh.diag kind (1) 4 K d k) ∧ Below (w.heap.size + 1) (w.alloc (.cells #[.int .i64 kind, .int .i64 K, .int .i64 M, .int .i64 5, .int .i64 gd] 25)) wr) (fun _ _ _ i _ => 5 - (intOf i).toNat)
    case atStart => exact ⟨0, by omega, rfl, rfl, Below.refl _ _⟩
    case round =>
      obtain ⟨k, hk, rfl, rfl, hbl⟩ := hrel
      have hc0 := box_cell hbl (by simp) 0 rfl
      have hc1 := box_cell hbl (by simp) 1 rfl
      have hc2 := box_cell hbl (by simp) 2 rfl
      have hc3 := box_cell hbl (by simp) 3 rfl
      have hc4 := box_cell hbl (by simp) 4 rfl
      have hsz := box_size hbl
      by_cases hlt : k < 5
      · go_wp2_with (go_at_call 99; refine (HC.out _ _ _ (by omega) (by omega) (by omega)).mono ?_; rintro e w1 ⟨rfl, hb1⟩)
        go_roundw
        case rel => exact ⟨k + 1, by omega, by go_num, by first | rfl | exact val_int (by simp only [Sh.diag, Sh.rowAt]; congr 3; omega), hbl.trans (hb1.mono (by omega))⟩
        case measure => simp [intOf]; omega
      · have hkd : k = 5 := by omega
        subst hkd
        go_wp2
        go_ret
        exact ⟨rfl, ((Below.refl _ _).alloc (Nat.le_refl _) _).trans (hbl.mono (by simp))⟩
  · go_enter Try.func95, Try.ntmps95
    go_wp2
    go_loopw [7, 8, 9, 12] (fun s _ _ i wr => ∃ k : Nat, k ≤ 7 ∧ i = .int .i64 k ∧ s = .int .u64 (Sh.diag kind (1) 6 K d k) ∧ Below (w.heap.size + 1) (w.alloc (.cells #[.int .i64 kind, .int .i64 K, .int .i64 M, .int .i64 7, .int .i64 gd] 25)) wr) (fun _ _ _ i _ => 7 - (intOf i).toNat)
    case atStart => exact ⟨0, by omega, rfl, rfl, Below.refl _ _⟩
    case round =>
      obtain ⟨k, hk, rfl, rfl, hbl⟩ := hrel
      have hc0 := box_cell hbl (by simp) 0 rfl
      have hc1 := box_cell hbl (by simp) 1 rfl
      have hc2 := box_cell hbl (by simp) 2 rfl
      have hc3 := box_cell hbl (by simp) 3 rfl
      have hc4 := box_cell hbl (by simp) 4 rfl
      have hsz := box_size hbl
      by_cases hlt : k < 7
      · go_wp2_with (go_at_call 99; refine (HC.out _ _ _ (by omega) (by omega) (by omega)).mono ?_; rintro e w1 ⟨rfl, hb1⟩)
        go_roundw
        case rel => exact ⟨k + 1, by omega, by go_num, by first | rfl | exact val_int (by simp only [Sh.diag, Sh.rowAt]; congr 3; omega), hbl.trans (hb1.mono (by omega))⟩
        case measure => simp [intOf]; omega
      · have hkd : k = 7 := by omega
        subst hkd
        go_wp2
        go_ret
        exact ⟨rfl, ((Below.refl _ _).alloc (Nat.le_refl _) _).trans (hbl.mono (by simp))⟩

set_option maxHeartbeats 1000000 in
theorem diagonal_up (kind M N gd : Int) (n1 K : Nat) (d : Nat) (w : World) (hN : (N = 3 ∧ n1 = 2) ∨ (N = 5 ∧ n1 = 4) ∨ (N = 7 ∧ n1 = 6)) (hK : K ≤ 7) (hd : d ≤ n1) :
    Calls Try.prog 95 #[.agg #[.int .i64 kind, .int .i64 K, .int .i64 M, .int .i64 N, .int .i64 gd], .int .i64 (-1), .int .i64 d] w fun e w' => e = .returned (.int .u64 (Sh.diagonal kind (-1) n1 K d)) ∧ Below w.heap.size w w' := by
  have HC : Hid (∀ (row : Int) (col : Nat) (w : World), 0 ≤ row → row ≤ n1 → col ≤ n1 → Calls Try.prog 99 #[.agg #[.int .i64 kind, .int .i64 K, .int .i64 M, .int .i64 N, .int .i64 gd], .int .i64 row, .int .i64 col] w fun e w' => e = .returned (.int .u64 (Sh.cell kind n1 K row.toNat col)) ∧ Below w.heap.size w w') := fun row col w h0 h1 h2 => cell_any kind M N gd n1 K row col w hN hK h0 h1 h2
  rcases hN with ⟨rfl, rfl⟩ | ⟨rfl, rfl⟩ | ⟨rfl, rfl⟩
  · go_enter Try.func95, Try.ntmps95
    go_wp2
    go_loopw [7, 8, 9, 12] (fun s _ _ i wr => ∃ k : Nat, k ≤ 3 ∧ i = .int .i64 k ∧ s = .int .u64 (Sh.diag kind (-1) 2 K d k) ∧ Below (w.heap.size + 1) (w.alloc (.cells #[.int .i64 kind, .int .i64 K, .int .i64 M, .int .i64 3, .int .i64 gd] 25)) wr) (fun _ _ _ i _ => 3 - (intOf i).toNat)
    case atStart => exact ⟨0, by omega, rfl, rfl, Below.refl _ _⟩
    case round =>
      obtain ⟨k, hk, rfl, rfl, hbl⟩ := hrel
      have hc0 := box_cell hbl (by simp) 0 rfl
      have hc1 := box_cell hbl (by simp) 1 rfl
      have hc2 := box_cell hbl (by simp) 2 rfl
      have hc3 := box_cell hbl (by simp) 3 rfl
      have hc4 := box_cell hbl (by simp) 4 rfl
      have hsz := box_size hbl
      by_cases hlt : k < 3
      · go_wp2_with (go_at_call 99; refine (HC.out _ _ _ (by omega) (by omega) (by omega)).mono ?_; rintro e w1 ⟨rfl, hb1⟩)
        go_roundw
        case rel => exact ⟨k + 1, by omega, by go_num, by first | rfl | exact val_int (by simp only [Sh.diag, Sh.rowAt]; congr 3; omega), hbl.trans (hb1.mono (by omega))⟩
        case measure => simp [intOf]; omega
      · have hkd : k = 3 := by omega
        subst hkd
        go_wp2
        go_ret
        exact ⟨rfl, ((Below.refl _ _).alloc (Nat.le_refl _) _).trans (hbl.mono (by simp))⟩
  · go_enter Try.func95, Try.ntmps95
    go_wp2
    go_loopw [7, 8, 9, 12] (fun s _ _ i wr => ∃ k : Nat, k ≤ 5 ∧ i = .int .i64 k ∧ s = .int .u64 (Sh.diag kind (-1) 4 K d k) ∧ Below (w.heap.size + 1) (w.alloc (.cells #[.int .i64 kind, .int .i64 K, .int .i64 M, .int .i64 5, .int .i64 gd] 25)) wr) (fun _ _ _ i _ => 5 - (intOf i).toNat)
    case atStart => exact ⟨0, by omega, rfl, rfl, Below.refl _ _⟩
    case round =>
      obtain ⟨k, hk, rfl, rfl, hbl⟩ := hrel
      have hc0 := box_cell hbl (by simp) 0 rfl
      have hc1 := box_cell hbl (by simp) 1 rfl
      have hc2 := box_cell hbl (by simp) 2 rfl
      have hc3 := box_cell hbl (by simp) 3 rfl
      have hc4 := box_cell hbl (by simp) 4 rfl
      have hsz := box_size hbl
      by_cases hlt : k < 5
      · go_wp2_with (go_at_call 99; refine (HC.out _ _ _ (by omega) (by omega) (by omega)).mono ?_; rintro e w1 ⟨rfl, hb1⟩)
        go_roundw
        case rel => exact ⟨k + 1, by omega, by go_num, by first | rfl | exact val_int (by simp only [Sh.diag, Sh.rowAt]; congr 3; omega), hbl.trans (hb1.mono (by omega))⟩
        case measure => simp [intOf]; omega
      · have hkd : k = 5 := by omega
        subst hkd
        go_wp2
        go_ret
        exact ⟨rfl, ((Below.refl _ _).alloc (Nat.le_refl _) _).trans (hbl.mono (by simp))⟩
  · go_enter Try.func95, Try.ntmps95
    go_wp2
    go_loopw [7, 8, 9, 12] (fun s _ _ i wr => ∃ k : Nat, k ≤ 7 ∧ i = .int .i64 k ∧ s = .int .u64 (Sh.diag kind (-1) 6 K d k) ∧ Below (w.heap.size + 1) (w.alloc (.cells #[.int .i64 kind, .int .i64 K, .int .i64 M, .int .i64 7, .int .i64 gd] 25)) wr) (fun _ _ _ i _ => 7 - (intOf i).toNat)
    case atStart => exact ⟨0, by omega, rfl, rfl, Below.refl _ _⟩
    case round =>
      obtain ⟨k, hk, rfl, rfl, hbl⟩ := hrel
      have hc0 := box_cell hbl (by simp) 0 rfl
      have hc1 := box_cell hbl (by simp) 1 rfl
      have hc2 := box_cell hbl (by simp) 2 rfl
      have hc3 := box_cell hbl (by simp) 3 rfl
      have hc4 := box_cell hbl (by simp) 4 rfl
      have hsz := box_size hbl
      by_cases hlt : k < 7
      · go_wp2_with (go_at_call 99; refine (HC.out _ _ _ (by omega) (by omega) (by omega)).mono ?_; rintro e w1 ⟨rfl, hb1⟩)
        go_roundw
        case rel => exact ⟨k + 1, by omega, by go_num, by first | rfl | exact val_int (by simp only [Sh.diag, Sh.rowAt]; congr 3; omega), hbl.trans (hb1.mono (by omega))⟩
        case measure => simp [intOf]; omega
      · have hkd : k = 7 := by omega
        subst hkd
        go_wp2
        go_ret
        exact ⟨rfl, ((Below.refl _ _).alloc (Nat.le_refl _) _).trans (hbl.mono (by simp))⟩

end Go.Proofs.Ythhbpofcemoflab
