import Derived.Test.YtfnfnmonnfcpeabW16
namespace Go.Proofs.Ytfnfnmonnfcpeab
open Go.RowKit
set_option maxRecDepth 20000

set_option maxHeartbeats 400000 in
theorem isLost0 (i : Nat) (w : World) (hi : i ≤ 20) :
    Calls Try.prog 50 #[.int .i64 0, .int .i64 i] w fun e w' => e = .returned (.bool false) ∧ w' = w := by
  have hb : (bits .and .i64 (0 / 2 ^ i) 1 == 1) = false := by rw [Int.zero_ediv]; decide +kernel
  have hb' : (bits .and .i64 0 1 == 1) = false := by decide +kernel
  go_enter Try.func50, Try.ntmps50
  go_wp2
  all_goals
    go_ret
    exact ⟨rfl, rfl⟩

/-- the coder's cells -/
def Sh.coder (kind K M N gd lev scr blk cac p0 g0 o0 z0 : Int) (v0 : Value) (cnt : Int) : Array Value :=
  #[Value.int .i64 kind, Value.int .i64 K, Value.int .i64 M, Value.int .i64 N, Value.int .i64 gd, Value.int .i64 lev, Value.int .i64 scr, Value.int .i64 blk, Value.int .i64 cac, Value.int .i64 p0, Value.int .i64 g0, Value.int .i64 o0, Value.int .i64 z0, v0, .int .i64 0, .int .i64 0, .int .i64 0, .int .i64 0, .slice none 0 0, .int .i64 0, .int .i64 0, .int .i64 0, .int .i64 0, .slice none 0 0, .int .i64 0, .int .i64 0, .int .i64 0, .int .i64 0, .slice none 0 0, .int .i64 cnt]

theorem own_slice {w : World} {base : Nat} {e : TypeId} {size : Nat} {v : Value} {n : Nat} {xs : List Value} (h : w.ownsRow base e size v n xs) : ∃ (a : Option Addr) (c : Nat), v = .slice a n c := by
  rcases h.2 with ⟨h1, h2⟩ | ⟨g, cap, cur, hv, _⟩
  · subst h2; exact ⟨none, 0, h1⟩
  · exact ⟨_, cap, hv⟩
set_option maxHeartbeats 1000000 in
theorem lengthOf_ok (v : Value) (base n len : Nat) (ps : List (Nat × Nat × Nat)) (w : World) (hn1 : 1 ≤ n) (hn2 : n ≤ 60) (hl : ps.length = n) (hv : w.ownsRow base 33 1 v n (Sh.sv len ps)) :
    Calls Try.prog 38 #[v] w fun e w' => e = .returned (.tuple #[.int .i64 len, .bool true]) ∧ w' = w := by
  obtain ⟨g, cap, rfl, _, hg, hcp, hcells⟩ := own_form hv hn1
  have HCC := hide hcells
  have HL := hide hl
  clear hcells hl hv
  go_enter Try.func38, Try.ntmps38
  go_wp2
  go_loop [4, 5, 6, 9] (fun len' _ _ i' => ∃ k : Nat, k ≤ n ∧ i' = .int .i64 k ∧ len' = .int .i64 (if k = 0 then 0 else (len : Int))) (fun _ _ _ i => n - (intOf i).toNat)
  case atStart => exact ⟨0, Nat.zero_le _, rfl, rfl⟩
  case round =>
    obtain ⟨k, hk, rfl, rfl⟩ := hrel
    by_cases hlt : k < n
    · obtain ⟨p, hp⟩ : ∃ p, ps[k]? = some p := ⟨_, List.getElem?_eq_getElem (by rw [HL.out]; exact hlt)⟩
      have hck := HCC.out k _ (Sh.sv_get hp)
      clear hp
      by_cases hk0 : k = 0
      · subst hk0
        simp only [if_true]
        go_wp2
        go_round
        case rel => exact ⟨1, by omega, by go_num, by simp⟩
        case measure => simp [intOf]; omega
      · simp only [if_neg hk0]
        go_wp2
        go_round
        case rel => exact ⟨k + 1, by omega, by go_num, by simp⟩
        case measure => simp [intOf]; omega
    · have hkn : k = n := by omega
      subst hkn
      have hk0 : ¬ k = 0 := by omega
      simp only [if_neg hk0]
      go_wp2
      go_ret2
      exact ⟨rfl, rfl⟩
set_option maxHeartbeats 1000000 in
theorem firstLeft0_ok (v : Value) (base n len : Nat) (ps : List (Nat × Nat × Nat)) (w : World) (hn1 : 1 ≤ n) (hn2 : n ≤ 20) (hl : ps.length = n) (hv : w.ownsRow base 33 1 v n (Sh.sv len ps)) :
    Calls Try.prog 37 #[v, .int .i64 0, .int .i64 n] w fun e w' => ∃ v', e = .returned v' ∧ w'.ownsRow w.heap.size 33 1 v' n (Sh.sv len ps) ∧ Below w.heap.size w w' := by
  obtain ⟨i0, hi, hz0, hz1, hz2⟩ := info_parts Try.infoSl
  obtain ⟨g, cap, rfl, _, hg, hcp, hcells⟩ := own_form hv hn1
  have HCC := hide hcells
  have HL := hide hl
  clear hcells hl hv
  go_enter Try.func37, Try.ntmps37
  go_wp2
  go_loopw [7, 8, 9, 13] (fun s _ _ i wr => ∃ k : Nat, k ≤ n ∧ i = .int .i64 k ∧ wr.ownsRow w.heap.size 33 1 s k (Sh.sv len (ps.take k)) ∧ Below w.heap.size w wr) (fun _ _ _ i _ => n - (intOf i).toNat)
  case atStart => exact ⟨0, Nat.zero_le _, rfl, own_empty rfl (Nat.le_refl _), (Below.refl _ _).alloc (Nat.le_refl _) _⟩
  case round =>
    obtain ⟨k, hk, rfl, hown, hbl⟩ := hrel
    have hsr := hbl.size
    obtain ⟨sa, sc, rfl⟩ := own_slice hown
    by_cases hlt : k < n
    · have HI := hide (fun w => isLost0 k w (by omega))
      have hkp : k < ps.length := by rw [HL.out]; exact hlt
      have hck := (hbl.cell (p := ⟨g, k, none⟩) hg).trans (HCC.out k _ (Sh.sv_get (List.getElem?_eq_getElem hkp)))
      have HN := hide (show Sh.sv len (ps.take (k + 1)) = Sh.sv len (ps.take k) ++ [.slice (some ⟨(ps[k]).1, (ps[k]).2.1, none⟩) len (ps[k]).2.2] by rw [List.take_succ_eq_append_getElem hkp, Sh.sv_append]; rfl)
      generalize ps[k] = p0 at *
      go_wp2_with (first | (go_at_call 50; refine (HI.out _).mono ?_; rintro e w1 ⟨rfl, rfl⟩) | (at_builtin; refine append1x _ rfl (.tmp 28) (.tmp 30) 32 rfl w.heap.size 33 i0 (.slice none 0 0) 1 24 Try.underlying32 hi hz0 hz1 hz2 rfl (by decide) (by decide) _ _ _ _ rfl hown rfl rfl (by simp; rfl) (by omega) (by omega) ?_; intro v3 w3 hown3 hb3 hg3 hf3))
      go_roundw
      case rel => exact ⟨k + 1, by omega, by go_num, by rw [HN.out]; exact hown3, hbl.trans hb3⟩
      case measure => simp [intOf]; omega
    · have hkn : k = n := by omega
      subst hkn
      rw [List.take_of_length_le (by rw [HL.out]; exact Nat.le_refl _)] at hown
      go_wp2
      go_ret
      exact ⟨_, rfl, hown, hbl⟩
set_option maxHeartbeats 1000000 in
theorem fit_ok (cb : Nat) (v : Value) (base n size : Nat) (ps : List (Nat × Nat × Nat)) (kind : Int) (K M : Nat) (N gd : Int) (w : World) (h : Sh.Ok kind K M N gd) (hs1 : 1 ≤ size) (hs2 : size ≤ 48)
    (hn1 : 1 ≤ n) (hn2 : n ≤ 20) (hl : ps.length = n) (hv : w.ownsRow base 33 1 v n (Sh.sv (Sh.R kind N * size) ps)) (hcb : cb < w.heap.size)
    (c0 : w.cell? ⟨cb, 0, none⟩ = some (.int .i64 kind)) (c1 : w.cell? ⟨cb, 1, none⟩ = some (.int .i64 K)) (c2 : w.cell? ⟨cb, 2, none⟩ = some (.int .i64 M)) (c3 : w.cell? ⟨cb, 3, none⟩ = some (.int .i64 N)) (c4 : w.cell? ⟨cb, 4, none⟩ = some (.int .i64 gd))
    (hR1 : 1 ≤ Sh.R kind N) (hR2 : Sh.R kind N ≤ 6) :
    Calls Try.prog 22 #[.pointer (some ⟨cb, 0, none⟩), v, .int .i64 n, .int .i64 0] w fun e w' => e = .returned (.bool true) ∧ Below w.heap.size w w' := by
  have HR := hide (fun w => rows_ok kind K M N gd w h)
  have HFL := hide (firstLeft0_ok v base n (Sh.R kind N * size) ps w hn1 hn2 hl hv)
  obtain ⟨g, cap, rfl, _, hg, hcp, _⟩ := own_form hv hn1
  have HL := hide hl
  clear hl hv h
  generalize hR : Sh.R kind N = R at *
  clear hR
  have hRs : R * size ≤ 288 := by
    have : R * size ≤ 6 * 48 := Nat.mul_le_mul hR2 hs2
    omega
  have hRs1 : 1 ≤ R * size := Nat.mul_pos hR1 hs1
  have hmod : ((R * size : Nat) : Int) % (R : Int) = 0 := by rw [Int.natCast_mul]; exact Int.mul_emod_right _ _
  have hdiv : ((R * size : Nat) : Int) / (R : Int) = (size : Int) := by rw [Int.natCast_mul]; exact Int.mul_ediv_cancel_left _ (by omega)
  generalize hLn : R * size = Ln at *
  clear hLn
  have d48 : decide ((size : Int) ≤ 48) = true := by simp; omega
  go_enter Try.func22, Try.ntmps22
  go_wp2_with fail
  refine (HFL.out).mono ?_
  rintro e w1 ⟨v1, rfl, hown1, hb1⟩
  have HLn := hide (lengthOf_ok v1 _ n Ln ps w1 hn1 (by omega) HL.out hown1)
  clear hown1
  go_wp2_with fail
  refine (HLn.out).mono ?_
  rintro e w2 ⟨rfl, rfl⟩
  have hs1 := hb1.size
  have d0 := (hb1.cell (p := ⟨cb, 0, none⟩) hcb).trans c0
  have d1 := (hb1.cell (p := ⟨cb, 1, none⟩) hcb).trans c1
  have d2 := (hb1.cell (p := ⟨cb, 2, none⟩) hcb).trans c2
  have d3 := (hb1.cell (p := ⟨cb, 3, none⟩) hcb).trans c3
  have d4 := (hb1.cell (p := ⟨cb, 4, none⟩) hcb).trans c4
  clear c0 c1 c2 c3 c4
  go_wp2_with (go_at_call 21; refine (HR.out _).mono ?_; rintro e w3 ⟨rfl, hb3⟩)
  go_ret
  exact ⟨rfl, hb1.trans (hb3.mono hs1)⟩
end Go.Proofs.Ytfnfnmonnfcpeab
