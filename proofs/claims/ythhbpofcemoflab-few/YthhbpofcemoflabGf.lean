import Derived.Test.YthhbpofcemoflabRows
import Derived.WalkKit
import Derived.WalkSpells
import Derived.WalkLawsBesides
import Derived.Test.YthhbpofcemoflabGa
namespace Go.Proofs.Ythhbpofcemoflab
open Go.RowKit
set_option maxRecDepth 20000

set_option maxHeartbeats 400000 in
theorem pick_pos (c n : Int) (w : World) (h : 0 ≤ c) (hn : 1 ≤ n) :
    Calls Try.prog 11 #[.int .i64 c, .int .i64 n] w fun e w' => e = .returned (.int .i64 (c % n)) ∧ w' = w := by
  go_enter Try.func11, Try.ntmps11
  go_wp2
  go_ret
  exact ⟨rfl, rfl⟩

set_option maxHeartbeats 400000 in
theorem pick_neg (c n : Int) (w : World) (h : c < 0) (hl : -9223372036854775808 ≤ c) (hn : 1 ≤ n) :
    Calls Try.prog 11 #[.int .i64 c, .int .i64 n] w fun e w' => e = .returned (.int .i64 ((-1 - c) % n)) ∧ w' = w := by
  go_enter Try.func11, Try.ntmps11
  go_wp2
  go_ret
  refine ⟨ret_int (a := -((c + 1).tmod n)) ?_, rfl⟩
  rw [← Int.neg_tmod, Int.tmod_eq_emod_of_nonneg (by omega)]
  congr 1
  omega

set_option maxHeartbeats 400000 in
theorem timesX_any (d m a : Int) (w : World) (hd : 0 ≤ d) (hd' : d ≤ 4) (ha : 0 ≤ a) (ha' : a ≤ 15) :
    Calls Try.prog 96 #[.agg #[.int .i64 d, .int .i64 m], .int .i64 a] w fun e w' => e = .returned (.int .i64 (Sh.tx d m a)) ∧ Below w.heap.size w w' := by
  go_enter Try.func96, Try.ntmps96
  go_wp2
  all_goals
    go_ret
    exact ⟨by first | exact ret_int (Sh.tx_t (by assumption)).symm | exact ret_int (Sh.tx_f (by assumption)).symm, (Below.refl _ _).alloc (Nat.le_refl _) _⟩

set_option maxHeartbeats 400000 in
theorem times_any (d : Nat) (a b : Int) (w : World) (h1 : 1 ≤ d) (h4 : d ≤ 4) (ha : Sh.In d a) :
    Calls Try.prog 93 #[.agg #[.int .i64 d, .int .i64 (Sh.mod d)], .int .i64 a, .int .i64 b] w fun e w' => e = .returned (.int .i64 (Sh.times d (Sh.mod d) a b)) ∧ Below w.heap.size w w' := by
  generalize hm : Sh.mod d = m
  have Hm : Hid (Sh.mod d = m) := hm
  clear hm
  go_enter Try.func93, Try.ntmps93
  go_wp2
  go_loopw [1, 7, 11] (fun x p i wr => ∃ k : Nat, k ≤ d ∧ i = .int .i64 k ∧ x = .int .i64 (Sh.tmA d m a k) ∧ p = .int .i64 (Sh.tmP d m a b k) ∧ Below (w.heap.size + 1) (w.alloc (.cells #[.int .i64 d, .int .i64 m] 129)) wr) (fun _ _ i _ => d - (intOf i).toNat)
  case atStart => exact ⟨0, Nat.zero_le _, rfl, rfl, rfl, Below.refl _ _⟩
  case round =>
    obtain ⟨k, hk, rfl, rfl, rfl, hbl⟩ := hrel
    have hA : Sh.In d (Sh.tmA d m a k) := by rw [← Hm.out]; exact Sh.in_tmA h1 h4 ha k
    have hA' := hA.le h4
    clear ha hA
    have hc0 := box_cell hbl (by simp) 0 rfl
    have hc1 := box_cell hbl (by simp) 1 rfl
    have hsz := box_size hbl
    by_cases hlt : k < d
    · go_wp2_with (go_at_call 96; refine (timesX_any _ _ _ _ (by omega) (by omega) (by omega) (by omega)).mono ?_; rintro e w' ⟨rfl, hb1⟩)
      all_goals
        go_roundw
        case rel => exact ⟨k + 1, by omega, by go_num, rfl, by first | exact val_int (Sh.tmP_t (by assumption)).symm | exact val_int (Sh.tmP_f (by assumption)).symm, hbl.trans (hb1.mono (by omega))⟩
        case measure => simp [intOf]; omega
    · have hkd : k = d := by omega
      subst hkd
      go_wp2
      go_ret
      exact ⟨ret_int (by simp [Sh.times]), ((Below.refl _ _).alloc (Nat.le_refl _) _).trans (hbl.mono (by simp))⟩

end Go.Proofs.Ythhbpofcemoflab
namespace Go.Proofs.Ythhbpofcemoflab
open Go.RowKit
set_option maxRecDepth 20000

theorem pow_small {d : Nat} (h1 : 1 ≤ d) (h4 : d ≤ 4) : ((2 : Nat) ^ d ≤ 16 ∧ 1 ≤ (2 : Nat) ^ d) ∧ ((2 ^ d : Nat) : Int) = (2 : Int) ^ d := by
  rcases (by omega : d = 1 ∨ d = 2 ∨ d = 3 ∨ d = 4) with rfl | rfl | rfl | rfl <;> decide

set_option maxHeartbeats 400000 in
theorem over_zero (d : Nat) (a : Int) (w : World) :
    Calls Try.prog 92 #[.agg #[.int .i64 d, .int .i64 (Sh.mod d)], .int .i64 a, .int .i64 0] w fun e w' => e = .returned (.int .i64 (Sh.over d (Sh.mod d) a 0)) ∧ Below w.heap.size w w' := by
  generalize hm : Sh.mod d = m
  have Hm : Hid (Sh.mod d = m) := hm
  clear hm
  go_enter Try.func92, Try.ntmps92
  go_wp2
  go_ret
  exact ⟨ret_int (by simp [Sh.over]), (Below.refl _ _).alloc (Nat.le_refl _) _⟩

set_option maxHeartbeats 400000 in
theorem over_pos (d : Nat) (a b : Int) (w : World) (h1 : 1 ≤ d) (h4 : d ≤ 4) (hb : (b == 0) = false) :
    Calls Try.prog 92 #[.agg #[.int .i64 d, .int .i64 (Sh.mod d)], .int .i64 a, .int .i64 b] w fun e w' => e = .returned (.int .i64 (Sh.over d (Sh.mod d) a b)) ∧ Below w.heap.size w w' := by
  have ht := times_any d
  have Ht : Hid (∀ (a b : Int) (w : World), 1 ≤ d → d ≤ 4 → Sh.In d a → Calls Try.prog 93 #[.agg #[.int .i64 d, .int .i64 (Sh.mod d)], .int .i64 a, .int .i64 b] w fun e w' => e = .returned (.int .i64 (Sh.times d (Sh.mod d) a b)) ∧ Below w.heap.size w w') := ht
  clear ht
  generalize hm : Sh.mod d = m at *
  have Hm : Hid (Sh.mod d = m) := hm
  clear hm
  obtain ⟨⟨p16, p1⟩, pe⟩ := pow_small h1 h4
  generalize hN : (2 : Nat) ^ d = N at *
  have HN : Hid ((2 : Nat) ^ d = N) := hN
  have hw : wrap64 (2 ^ d) = (N : Int) := by rw [← pe]; exact IntWalk.wrap64_in _ ⟨by omega, by omega⟩
  have HP : Hid ((N : Int) = 2 ^ d) := pe
  clear hN pe
  go_enter Try.func92, Try.ntmps92
  go_wp2
  rw [hw]
  clear hw
  go_loopw [7, 8, 15] (fun _ _ i wr => ∃ k : Nat, k ≤ N ∧ i = .int .i64 k ∧ (∀ q : Nat, q < k → ¬ Sh.times d m q b = a) ∧ Below (w.heap.size + 1) (w.alloc (.cells #[.int .i64 d, .int .i64 m] 129)) wr) (fun _ _ i _ => N - (intOf i).toNat)
  case atStart => exact ⟨0, Nat.zero_le _, rfl, by intro q hq; omega, Below.refl _ _⟩
  case round =>
    obtain ⟨k, hk, rfl, hno, hbl⟩ := hrel
    have Hno : Hid (∀ q : Nat, q < k → ¬ Sh.times d m q b = a) := hno
    clear hno
    have hc0 := box_cell hbl (by simp) 0 rfl
    have hc1 := box_cell hbl (by simp) 1 rfl
    have hsz := box_size hbl
    by_cases hlt : k < N
    · have hin : Sh.In d (k : Int) := ⟨by omega, by have := HP.out; simp only [Int.toNat_natCast]; omega⟩
      have Hc := Ht.out (k : Int) b
      have HC : Hid _ := Hc
      clear Hc
      by_cases heq : Sh.times d m k b = a
      · have hq : (Sh.times d m k b == a) = true := by simp [heq]
        have Heq : Hid (Sh.times d m k b = a) := heq
        clear heq
        go_wp2_with (go_at_call 93; refine (HC.out _ h1 h4 hin).mono ?_; rintro e w' ⟨rfl, hb1⟩)
        go_ret
        exact ⟨ret_int (Sh.over_hit hb (by simpa [HN.out] using hlt) Heq.out Hno.out).symm, (((Below.refl _ _).alloc (Nat.le_refl _) _).trans (hbl.mono (by simp))).trans (hb1.mono (by omega))⟩
      · have hq : (Sh.times d m k b == a) = false := by simp [heq]
        go_wp2_with (go_at_call 93; refine (HC.out _ h1 h4 hin).mono ?_; rintro e w' ⟨rfl, hb1⟩)
        go_roundw
        case rel => exact ⟨k + 1, by omega, by go_num, Sh.no_succ Hno.out heq, hbl.trans (hb1.mono (by omega))⟩
        case measure => simp [intOf]; omega
    · have hkd : k = N := by omega
      subst hkd
      go_wp2
      go_ret
      exact ⟨ret_int (Sh.over_miss hb (by simpa [HN.out] using Hno.out)).symm, ((Below.refl _ _).alloc (Nat.le_refl _) _).trans (hbl.mono (by simp))⟩

theorem over_any (d : Nat) (a b : Int) (w : World) (h1 : 1 ≤ d) (h4 : d ≤ 4) :
    Calls Try.prog 92 #[.agg #[.int .i64 d, .int .i64 (Sh.mod d)], .int .i64 a, .int .i64 b] w fun e w' => e = .returned (.int .i64 (Sh.over d (Sh.mod d) a b)) ∧ Below w.heap.size w w' := by
  by_cases h : b = 0
  · subst h; exact over_zero d a w
  · exact over_pos d a b w h1 h4 (by simp [h])

end Go.Proofs.Ythhbpofcemoflab
namespace Go.Proofs.Ythhbpofcemoflab
open Go.RowKit
set_option maxRecDepth 20000

set_option maxHeartbeats 400000 in
theorem ones_any (d : Nat) (e0 : Int) (w : World) (h1 : 1 ≤ d) (h4 : d ≤ 4) (he : Sh.In d e0) :
    Calls Try.prog 100 #[.agg #[.int .i64 d, .int .i64 (Sh.mod d)], .int .i64 e0] w fun e w' => e = .returned (.int .i64 (Sh.ones d (Sh.mod d) e0)) ∧ Below w.heap.size w w' := by
  have Hon : Hid (∀ k, 0 ≤ Sh.on d (Sh.mod d) e0 k ∧ Sh.on d (Sh.mod d) e0 k ≤ 4 * k) := Sh.on_le h1 h4 he
  have HtA : Hid (∀ k, 0 ≤ Sh.tmA d (Sh.mod d) e0 k ∧ Sh.tmA d (Sh.mod d) e0 k ≤ 15) := fun k => (Sh.in_tmA h1 h4 he k).le h4
  clear he
  generalize hm : Sh.mod d = m at *
  clear hm
  go_enter Try.func100, Try.ntmps100
  go_wp2
  go_loopw [1, 5, 9] (fun x o i wr => ∃ k : Nat, k ≤ d ∧ i = .int .i64 k ∧ x = .int .i64 (Sh.tmA d m e0 k) ∧ o = .int .i64 (Sh.on d m e0 k) ∧ Below (w.heap.size + 1) (w.alloc (.cells #[.int .i64 d, .int .i64 m] 129)) wr) (fun _ _ i _ => d - (intOf i).toNat)
  case atStart => exact ⟨0, Nat.zero_le _, rfl, rfl, rfl, Below.refl _ _⟩
  case round =>
    obtain ⟨k, hk, rfl, rfl, rfl, hbl⟩ := hrel
    have hA' := HtA.out k
    have hO' := Hon.out k
    have hc0 := box_cell hbl (by simp) 0 rfl
    have hc1 := box_cell hbl (by simp) 1 rfl
    have hsz := box_size hbl
    by_cases hlt : k < d
    · generalize hx : Sh.tmA d m e0 k = x at *
      generalize ho : Sh.on d m e0 k = o at *
      have Hx : Hid (Sh.tmA d m e0 k = x) := hx
      have Ho : Hid (Sh.on d m e0 k = o) := ho
      clear hx ho
      go_wp2
      go_loop [5, 13] (fun q i => ∃ j : Nat, j ≤ d ∧ i = .int .i64 j ∧ q = .int .i64 (o + Sh.onI x j)) (fun _ i => d - (intOf i).toNat)
      case atStart => exact ⟨0, Nat.zero_le _, rfl, by simp [Sh.onI]⟩
      case round =>
        obtain ⟨j, hj, rfl, rfl⟩ := hrel
        have hI := Sh.onI_le hA'.1 hA'.2 j
        have hD := Sh.div_le hA'.1 hA'.2 j
        have h01 := Sh.and1 hD.1 hD.2
        by_cases hlj : j < d
        · go_wp2
          go_round
          case rel => exact ⟨j + 1, by omega, by go_num, by simp only [Sh.onI]; go_num⟩
          case measure => simp [intOf]; omega
        · have hjd : j = d := by omega
          subst hjd
          go_wp2_with (go_at_call 96; refine (timesX_any _ _ _ _ (by omega) (by omega) (by omega) (by omega)).mono ?_; rintro e w' ⟨rfl, hb1⟩)
          go_roundw
          case rel => exact ⟨k + 1, by omega, by go_num, by simp only [Sh.tmA, Hx.out], by simp only [Sh.on, Hx.out, Ho.out, Int.toNat_natCast], hbl.trans (hb1.mono (by omega))⟩
          case measure => simp [intOf]; omega
    · have hkd : k = d := by omega
      subst hkd
      go_wp2
      go_ret
      exact ⟨ret_int (by simp [Sh.ones]), ((Below.refl _ _).alloc (Nat.le_refl _) _).trans (hbl.mono (by simp))⟩

set_option maxHeartbeats 400000 in
theorem of_any (d : Nat) (w : World) (h1 : 1 ≤ d) (h4 : d ≤ 4) :
    Calls Try.prog 84 #[.int .i64 d] w fun e w' => e = .returned (.agg #[.int .i64 d, .int .i64 (Sh.mod d)]) ∧ Below w.heap.size w w' := by
  rcases (by omega : d = 1 ∨ d = 2 ∨ d = 3 ∨ d = 4) with rfl | rfl | rfl | rfl
  all_goals
    go_enter Try.func84, Try.ntmps84
    go_wp2
    refine bodyPost_ret (v := .agg #[.int .i64 _, .int .i64 _]) (by simp [results, Try.results84, go_sem]; exact ⟨rfl, rfl⟩) rfl ⟨?_, ?_⟩
    · first | rfl | exact congrArg (fun x => Ending.returned (.agg #[.int .i64 _, .int .i64 x])) (by decide +kernel)
    · exact ((Below.refl _ _).alloc (Nat.le_refl _) _)
end Go.Proofs.Ythhbpofcemoflab
