import Derived.Test.YtfnfnmonnfcpeabW2
namespace Go.Proofs.Ytfnfnmonnfcpeab
open Go.RowKit
set_option maxRecDepth 20000

set_option maxHeartbeats 400000 in
theorem ones_any (d : Nat) (e0 : Int) (w : World) (h1 : 1 ≤ d) (h4 : d ≤ 4) (he : Sh.In d e0) :
    Calls Try.prog 79 #[.agg #[.int .i64 d, .int .i64 (Sh.mod d)], .int .i64 e0] w fun e w' => e = .returned (.int .i64 (Sh.ones d (Sh.mod d) e0)) ∧ Below w.heap.size w w' := by
  have Hon : Hid (∀ k, 0 ≤ Sh.on d (Sh.mod d) e0 k ∧ Sh.on d (Sh.mod d) e0 k ≤ 4 * k) := Sh.on_le h1 h4 he
  have HtA : Hid (∀ k, 0 ≤ Sh.tmA d (Sh.mod d) e0 k ∧ Sh.tmA d (Sh.mod d) e0 k ≤ 15) := fun k => (Sh.in_tmA h1 h4 he k).le h4
  clear he
  generalize hm : Sh.mod d = m at *
  clear hm
  go_enter Try.func79, Try.ntmps79
  go_wp2
  go_loopw [1, 5, 9] (fun x o i wr => ∃ k : Nat, k ≤ d ∧ i = .int .i64 k ∧ x = .int .i64 (Sh.tmA d m e0 k) ∧ o = .int .i64 (Sh.on d m e0 k) ∧ Below (w.heap.size + 1) (w.alloc (.cells #[.int .i64 d, .int .i64 m] 109)) wr) (fun _ _ i _ => d - (intOf i).toNat)
  case atStart => exact ⟨0, Nat.zero_le _, rfl, rfl, rfl, Below.refl _ _⟩
  case round =>
    obtain ⟨k, hk, rfl, rfl, rfl, hbl⟩ := hrel
    have hA' := HtA.out k
    have hO' := Hon.out k
    have hc0 := box_cell hbl (by simp) 0 rfl
    have hc1 := box_cell hbl (by simp) 1 rfl
    have hsz := box_size hbl
    by_cases hlt : k < d
    · generalize hx : Sh.tmA d m e0 k = x at *
      generalize ho : Sh.on d m e0 k = o at *
      have Hx : Hid (Sh.tmA d m e0 k = x) := hx
      have Ho : Hid (Sh.on d m e0 k = o) := ho
      clear hx ho
      go_wp2
      go_loop [5, 13] (fun q i => ∃ j : Nat, j ≤ d ∧ i = .int .i64 j ∧ q = .int .i64 (o + Sh.onI x j)) (fun _ i => d - (intOf i).toNat)
      case atStart => exact ⟨0, Nat.zero_le _, rfl, by simp [Sh.onI]⟩
      case round =>
        obtain ⟨j, hj, rfl, rfl⟩ := hrel
        have hI := Sh.onI_le hA'.1 hA'.2 j
        have hD := Sh.div_le hA'.1 hA'.2 j
        have h01 := Sh.and1 hD.1 hD.2
        by_cases hlj : j < d
        · go_wp2
          go_round
          case rel => exact ⟨j + 1, by omega, by go_num, by simp only [Sh.onI]; go_num⟩
          case measure => simp [intOf]; omega
        · have hjd : j = d := by omega
          subst hjd
          go_wp2_with (go_at_call 75; refine (timesX_any _ _ _ _ (by omega) (by omega) (by omega) (by omega)).mono ?_; rintro e w' ⟨rfl, hb1⟩)
          go_roundw
          case rel => exact ⟨k + 1, by omega, by go_num, by simp only [Sh.tmA, Hx.out], by simp only [Sh.on, Hx.out, Ho.out, Int.toNat_natCast], hbl.trans (hb1.mono (by omega))⟩
          case measure => simp [intOf]; omega
    · have hkd : k = d := by omega
      subst hkd
      go_wp2
      go_ret
      exact ⟨ret_int (by simp [Sh.ones]), ((Below.refl _ _).alloc (Nat.le_refl _) _).trans (hbl.mono (by simp))⟩

set_option maxHeartbeats 400000 in
theorem of_any (d : Nat) (w : World) (h1 : 1 ≤ d) (h4 : d ≤ 4) :
    Calls Try.prog 65 #[.int .i64 d] w fun e w' => e = .returned (.agg #[.int .i64 d, .int .i64 (Sh.mod d)]) ∧ Below w.heap.size w w' := by
  rcases (by omega : d = 1 ∨ d = 2 ∨ d = 3 ∨ d = 4) with rfl | rfl | rfl | rfl
  all_goals
    go_enter Try.func65, Try.ntmps65
    go_wp2
    refine bodyPost_ret (v := .agg #[.int .i64 _, .int .i64 _]) (by simp [results, Try.results65, go_sem]; exact ⟨rfl, rfl⟩) rfl ⟨?_, ?_⟩
    · first | rfl | exact congrArg (fun x => Ending.returned (.agg #[.int .i64 _, .int .i64 x])) (by decide +kernel)
    · exact ((Below.refl _ _).alloc (Nat.le_refl _) _)
end Go.Proofs.Ytfnfnmonnfcpeab
