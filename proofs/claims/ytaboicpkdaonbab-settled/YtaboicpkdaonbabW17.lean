import Derived.Test.YtaboicpkdaonbabW16
namespace Go.Proofs.Ytaboicpkdaonbab
open Go.RowKit
set_option maxRecDepth 20000

set_option maxHeartbeats 400000 in
theorem isLost0 (i : Nat) (w : World) (hi : i ≤ 20) :
    Calls Try.prog 33 #[.int .i64 0, .int .i64 i] w fun e w' => e = .returned (.bool false) ∧ w' = w := by
  have hb : (bits .and .i64 (0 / 2 ^ i) 1 == 1) = false := by rw [Int.zero_ediv]; decide +kernel
  have hb' : (bits .and .i64 0 1 == 1) = false := by decide +kernel
  go_enter Try.func33, Try.ntmps33
  go_wp2
  all_goals
    go_ret
    exact ⟨rfl, rfl⟩

/-- the coder's cells -/
def Sh.coder (kind K M N gd lev scr blk cac p0 g0 o0 z0 : Int) (v0 : Value) (cnt : Int) : Array Value :=
  #[Value.int .i64 kind, Value.int .i64 K, Value.int .i64 M, Value.int .i64 N, Value.int .i64 gd, Value.int .i64 lev, Value.int .i64 scr, Value.int .i64 blk, Value.int .i64 cac, Value.int .i64 p0, Value.int .i64 g0, Value.int .i64 o0, Value.int .i64 z0, v0, .int .i64 0, .int .i64 0, .int .i64 0, .int .i64 0, .slice none 0 0, .int .i64 0, .int .i64 0, .int .i64 0, .int .i64 0, .slice none 0 0, .int .i64 0, .int .i64 0, .int .i64 0, .int .i64 0, .slice none 0 0, .int .i64 cnt]

set_option maxHeartbeats 1000000 in
theorem fit_ok (cb : Nat) (v : Value) (base n size : Nat) (ps : List (Nat × Nat × Nat)) (kind : Int) (K M : Nat) (N gd : Int) (w : World) (h : Sh.Ok kind K M N gd) (hs1 : 1 ≤ size) (hs2 : size ≤ 48)
    (hn1 : 1 ≤ n) (hn2 : n ≤ 20) (hl : ps.length = n) (hv : w.ownsRow base 33 1 v n (Sh.sv (Sh.R kind N * size) ps)) (hcb : cb < w.heap.size)
    (c0 : w.cell? ⟨cb, 0, none⟩ = some (.int .i64 kind)) (c1 : w.cell? ⟨cb, 1, none⟩ = some (.int .i64 K)) (c2 : w.cell? ⟨cb, 2, none⟩ = some (.int .i64 M)) (c3 : w.cell? ⟨cb, 3, none⟩ = some (.int .i64 N)) (c4 : w.cell? ⟨cb, 4, none⟩ = some (.int .i64 gd))
    (hR1 : 1 ≤ Sh.R kind N) (hR2 : Sh.R kind N ≤ 6) :
    Calls Try.prog 20 #[.pointer (some ⟨cb, 0, none⟩), v, .int .i64 n, .int .i64 0] w fun e w' => e = .returned (.bool true) ∧ Below w.heap.size w w' := by
  have HR := hide (fun w => rows_ok kind K M N gd w h)
  obtain ⟨g, cap, rfl, _, hg, hcp, hcells⟩ := own_form hv hn1
  have HCC := hide hcells
  have HL := hide hl
  clear hcells hl hv h
  generalize hR : Sh.R kind N = R at *
  clear hR
  have hRs : R * size ≤ 288 := by
    have : R * size ≤ 6 * 48 := Nat.mul_le_mul hR2 hs2
    omega
  have hRs1 : 1 ≤ R * size := Nat.mul_pos hR1 hs1
  have hmod : ((R * size : Nat) : Int) % (R : Int) = 0 := by rw [Int.natCast_mul]; exact Int.mul_emod_right _ _
  have hdiv : ((R * size : Nat) : Int) / (R : Int) = (size : Int) := by rw [Int.natCast_mul]; exact Int.mul_ediv_cancel_left _ (by omega)
  generalize hLn : R * size = Ln at *
  clear hLn
  go_enter Try.func20, Try.ntmps20
  go_wp2
  go_loop [9, 10, 11, 19] (fun len _ _ i' => ∃ k : Nat, k ≤ n ∧ i' = .int .i64 k ∧ len = .int .i64 (if k = 0 then 0 else (Ln : Int))) (fun _ _ _ i => n - (intOf i).toNat)
  case atStart => exact ⟨0, Nat.zero_le _, rfl, rfl⟩
  case round =>
    obtain ⟨k, hk, rfl, rfl⟩ := hrel
    by_cases hlt : k < n
    · obtain ⟨p, hp⟩ : ∃ p, ps[k]? = some p := ⟨_, List.getElem?_eq_getElem (by rw [HL.out]; exact hlt)⟩
      have hck := HCC.out k _ (Sh.sv_get hp)
      clear hp
      have HI := hide (fun w => isLost0 k w (by omega))
      by_cases hk0 : k = 0
      · subst hk0
        simp only [if_true]
        go_wp2_with (go_at_call 33; refine (HI.out _).mono ?_; rintro e w1 ⟨rfl, rfl⟩)
        go_round
        case rel => exact ⟨1, by omega, by go_num, by simp⟩
        case measure => simp [intOf]; omega
      · simp only [if_neg hk0]
        go_wp2_with (go_at_call 33; refine (HI.out _).mono ?_; rintro e w1 ⟨rfl, rfl⟩)
        go_round
        case rel => exact ⟨k + 1, by omega, by go_num, by simp⟩
        case measure => simp [intOf]; omega
    · have hkn : k = n := by omega
      subst hkn
      have hk0 : ¬ k = 0 := by omega
      simp only [if_neg hk0]
      have d48 : decide ((size : Int) ≤ 48) = true := by simp; omega
      go_wp2_with (go_at_call 19; refine (HR.out _).mono ?_; rintro e w1 ⟨rfl, hb1⟩)
      go_ret
      exact ⟨rfl, hb1⟩
end Go.Proofs.Ytaboicpkdaonbab
