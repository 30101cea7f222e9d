import Derived.Test.YthhbpofcemoflabW10
namespace Go.Proofs.Ythhbpofcemoflab
open Go.RowKit
set_option maxRecDepth 20000
namespace Sh
def Cau (kind : Int) (K M : Nat) (N gd : Int) (d : Nat) : Prop := kind = 0 ∧ N = d ∧ 1 ≤ d ∧ d ≤ 4 ∧ 1 ≤ K ∧ 1 ≤ M ∧ M + K ≤ 10 ∧ (M : Int) + K ≤ 2 ^ d ∧ (gd = 0 ∨ gd = 1)
def Tab (kind : Int) (K M : Nat) (N gd : Int) (n1 : Nat) : Prop := gd = 0 ∧ 1 ≤ K ∧ M + K ≤ 10 ∧ ((N = 3 ∧ n1 = 2) ∨ (N = 5 ∧ n1 = 4) ∨ (N = 7 ∧ n1 = 6)) ∧ ((kind = 1 ∧ M = 2 ∧ K ≤ n1 + 1) ∨ (kind = 2 ∧ M = 2 ∧ K ≤ n1) ∨ (kind = 3 ∧ M = 3 ∧ K ≤ n1 + 1))
def Ok0 (kind : Int) (K M : Nat) (N gd : Int) : Prop := (∃ d, Cau kind K M N gd d) ∨ (∃ n1, Tab kind K M N gd n1)
def R (kind N : Int) : Nat := if kind = 0 then N.toNat else (N - 1).toNat
def parity (kind : Int) (K M : Nat) (N gd : Int) : List Int := if kind = 0 then cpar N.toNat (mod N.toNat) M K gd M else tpar kind (N - 1).toNat K
/-- a code: there is one, and its rows of parity are sums of rows of the data -/
structure Ok (kind : Int) (K M : Nat) (N gd : Int) : Prop where
  base : Ok0 kind K M N gd
  pb : ∀ s ∈ parity kind K M N gd, 0 ≤ s ∧ s < 2 ^ (K * R kind N)
def pbk (kind : Int) (K M : Nat) (N gd : Int) : Bool := (parity kind K M N gd).all fun s => decide (0 ≤ s) && decide (s < 2 ^ (K * R kind N))
theorem Ok.of {kind : Int} {K M : Nat} {N gd : Int} (h : Ok0 kind K M N gd) (hb : pbk kind K M N gd = true) : Ok kind K M N gd := by
  refine ⟨h, fun s hs => ?_⟩
  simp only [pbk, List.all_eq_true, Bool.and_eq_true, decide_eq_true_eq] at hb
  exact hb s hs
end Sh

set_option maxHeartbeats 1000000 in
theorem cex_ok (kind : Int) (K M : Nat) (N gd : Int) (d : Nat) (w : World) (h : Sh.Cau kind K M N gd d) :
    Calls Try.prog 45 #[.agg #[.int .i64 kind, .int .i64 K, .int .i64 M, .int .i64 N, .int .i64 gd]] w fun e w' => e = .returned (.bool true) ∧ Below w.heap.size w w' := by
  obtain ⟨rfl, rfl, h1, h4, hK, hM, h10, hp, hg⟩ := h
  rcases (by omega : d = 1 ∨ d = 2 ∨ d = 3 ∨ d = 4) with rfl | rfl | rfl | rfl
  · have e : (2 : Int) ^ 1 = 2 := by decide
    have hp' : (K : Int) + M ≤ 2 := by omega
    clear e
    clear hp
    rcases hg with rfl | rfl
    all_goals
      go_enter Try.func45, Try.ntmps45
      go_wp2
      go_ret
      exact ⟨rfl, (Below.refl _ _).alloc (Nat.le_refl _) _⟩
  · have e : (2 : Int) ^ 2 = 4 := by decide
    have hp' : (K : Int) + M ≤ 4 := by omega
    clear e
    clear hp
    rcases hg with rfl | rfl
    all_goals
      go_enter Try.func45, Try.ntmps45
      go_wp2
      go_ret
      exact ⟨rfl, (Below.refl _ _).alloc (Nat.le_refl _) _⟩
  · have e : (2 : Int) ^ 3 = 8 := by decide
    have hp' : (K : Int) + M ≤ 8 := by omega
    clear e
    clear hp
    rcases hg with rfl | rfl
    all_goals
      go_enter Try.func45, Try.ntmps45
      go_wp2
      go_ret
      exact ⟨rfl, (Below.refl _ _).alloc (Nat.le_refl _) _⟩
  · have e : (2 : Int) ^ 4 = 16 := by decide
    have hp' : (K : Int) + M ≤ 16 := by omega
    clear e
    clear hp
    rcases hg with rfl | rfl
    all_goals
      go_enter Try.func45, Try.ntmps45
      go_wp2
      go_ret
      exact ⟨rfl, (Below.refl _ _).alloc (Nat.le_refl _) _⟩

set_option maxHeartbeats 400000 in
theorem tex_ok (kind : Int) (K : Nat) (M N : Int) (n1 : Nat) (w : World) (hN : (N = 3 ∧ n1 = 2) ∨ (N = 5 ∧ n1 = 4) ∨ (N = 7 ∧ n1 = 6)) (hK : K ≤ n1 + 1) :
    Calls Try.prog 46 #[.agg #[.int .i64 kind, .int .i64 K, .int .i64 M, .int .i64 N, .int .i64 0]] w fun e w' => e = .returned (.bool true) ∧ Below w.heap.size w w' := by
  rcases hN with ⟨rfl, rfl⟩ | ⟨rfl, rfl⟩ | ⟨rfl, rfl⟩
  all_goals
    go_enter Try.func46, Try.ntmps46
    go_wp2
    go_ret
    exact ⟨rfl, (Below.refl _ _).alloc (Nat.le_refl _) _⟩

set_option maxHeartbeats 1000000 in
theorem ex_ok (kind : Int) (K M : Nat) (N gd : Int) (w : World) (h : Sh.Ok kind K M N gd) :
    Calls Try.prog 26 #[.agg #[.int .i64 kind, .int .i64 K, .int .i64 M, .int .i64 N, .int .i64 gd]] w fun e w' => e = .returned (.bool true) ∧ Below w.heap.size w w' := by
  rcases h.base with ⟨d, h⟩ | ⟨n1, h⟩
  · have HC : Hid (∀ w : World, Calls Try.prog 45 #[.agg #[.int .i64 kind, .int .i64 K, .int .i64 M, .int .i64 N, .int .i64 gd]] w fun e w' => e = .returned (.bool true) ∧ Below w.heap.size w w') := fun w => cex_ok kind K M N gd d w h
    obtain ⟨rfl, rfl, h1, h4, hK, hM, h10, hp, hg⟩ := h
    clear hp hg
    go_enter Try.func26, Try.ntmps26
    go_wp2_with (go_at_call 45; refine (HC.out _).mono ?_; rintro e w1 ⟨rfl, hb1⟩)
    go_ret
    exact ⟨rfl, ((Below.refl _ _).alloc (Nat.le_refl _) _).trans (hb1.mono (by simp))⟩
  · obtain ⟨rfl, hK, h10, hN, hk⟩ := h
    have HT : Hid (∀ (M : Int) (w : World), Calls Try.prog 46 #[.agg #[.int .i64 kind, .int .i64 K, .int .i64 M, .int .i64 N, .int .i64 0]] w fun e w' => e = .returned (.bool true) ∧ Below w.heap.size w w') := fun M w => tex_ok kind K M N n1 w hN (by omega)
    have hKN : (K : Int) ≤ N := by omega
    rcases hk with ⟨rfl, rfl, hk⟩ | ⟨rfl, rfl, hk⟩ | ⟨rfl, rfl, hk⟩
    · clear hN
      go_enter Try.func26, Try.ntmps26
      go_wp2_with (go_at_call 46; refine (HT.out _ _).mono ?_; rintro e w1 ⟨rfl, hb1⟩; have hc2 := box_cell hb1 (by simp) 2 rfl)
      go_ret
      exact ⟨rfl, ((Below.refl _ _).alloc (Nat.le_refl _) _).trans (hb1.mono (by simp))⟩
    · have hKN' : (K : Int) < N := by omega
      clear hN
      go_enter Try.func26, Try.ntmps26
      go_wp2_with (go_at_call 46; refine (HT.out _ _).mono ?_; rintro e w1 ⟨rfl, hb1⟩; have hc1 := box_cell hb1 (by simp) 1 rfl; have hc2 := box_cell hb1 (by simp) 2 rfl; have hc3 := box_cell hb1 (by simp) 3 rfl)
      go_ret
      exact ⟨rfl, ((Below.refl _ _).alloc (Nat.le_refl _) _).trans (hb1.mono (by simp))⟩
    · clear hN
      go_enter Try.func26, Try.ntmps26
      go_wp2_with (go_at_call 46; refine (HT.out _ _).mono ?_; rintro e w1 ⟨rfl, hb1⟩; have hc2 := box_cell hb1 (by simp) 2 rfl)
      go_ret
      exact ⟨rfl, ((Below.refl _ _).alloc (Nat.le_refl _) _).trans (hb1.mono (by simp))⟩

theorem Sh.Ok.tab {kind : Int} {K M : Nat} {N gd : Int} (h : Sh.Ok kind K M N gd) : (kind = 0 ∧ ∃ d : Nat, N = d ∧ Sh.Cau kind K M N gd d) ∨ (¬ kind = 0 ∧ ∃ n1 : Nat, N = n1 + 1 ∧ Sh.Tab kind K M N gd n1) := by
  rcases h.base with ⟨d, h⟩ | ⟨n1, h⟩
  · exact Or.inl ⟨h.1, d, h.2.1, h⟩
  · have := h.2.2.2
    exact Or.inr ⟨by omega, n1, by omega, h⟩

set_option maxHeartbeats 400000 in
theorem rows_ok (kind : Int) (K M : Nat) (N gd : Int) (w : World) (h : Sh.Ok kind K M N gd) :
    Calls Try.prog 23 #[.agg #[.int .i64 kind, .int .i64 K, .int .i64 M, .int .i64 N, .int .i64 gd]] w fun e w' => e = .returned (.int .i64 (Sh.R kind N)) ∧ Below w.heap.size w w' := by
  have HE : Hid (∀ w : World, Calls Try.prog 26 #[.agg #[.int .i64 kind, .int .i64 K, .int .i64 M, .int .i64 N, .int .i64 gd]] w fun e w' => e = .returned (.bool true) ∧ Below w.heap.size w w') := fun w => ex_ok kind K M N gd w h
  rcases h.tab with ⟨h0, d, rfl, h'⟩ | ⟨h0, n1, rfl, h'⟩
  · subst h0
    go_enter Try.func23, Try.ntmps23
    go_wp2_with (go_at_call 26; refine (HE.out _).mono ?_; rintro e w1 ⟨rfl, hb1⟩; have hc0 := box_cell hb1 (by simp) 0 rfl; have hc3 := box_cell hb1 (by simp) 3 rfl)
    go_ret
    exact ⟨ret_int (by simp [Sh.R]), ((Below.refl _ _).alloc (Nat.le_refl _) _).trans (hb1.mono (by simp))⟩
  · have hk0 : (kind == 0) = false := by simp [h0]
    have hR : Hid (Sh.R kind (n1 + 1) = n1) := by show _ = _; simp [Sh.R, h0]
    have hn : n1 ≤ 6 := by have := h'.2.2.2.1; omega
    clear h h0 h'
    go_enter Try.func23, Try.ntmps23
    go_wp2_with (go_at_call 26; refine (HE.out _).mono ?_; rintro e w1 ⟨rfl, hb1⟩; have hc0 := box_cell hb1 (by simp) 0 rfl; have hc3 := box_cell hb1 (by simp) 3 rfl)
    go_ret
    exact ⟨ret_int (by rw [hR.out]), ((Below.refl _ _).alloc (Nat.le_refl _) _).trans (hb1.mono (by simp))⟩

theorem tpar_any (kind M N gd : Int) (n1 K : Nat) (w : World) (hN : (N = 3 ∧ n1 = 2) ∨ (N = 5 ∧ n1 = 4) ∨ (N = 7 ∧ n1 = 6)) (hK : K ≤ 7) (m : Nat) (hm : m = if kind = 3 then 3 else 2) :
    Calls Try.prog 71 #[.agg #[.int .i64 kind, .int .i64 K, .int .i64 M, .int .i64 N, .int .i64 gd]] w fun e w' => ∃ v, e = .returned v ∧ w'.ownsRow w.heap.size 94 1 v (m * n1) ((Sh.tpar kind n1 K).map (Value.int .u64)) ∧ Below w.heap.size w w' := by
  by_cases h : kind = 3
  · rw [if_pos h] at hm; subst hm
    exact tpar_three kind M N gd n1 K w hN hK (by simp [h])
  · rw [if_neg h] at hm; subst hm
    exact tpar_two kind M N gd n1 K w hN hK (by simp [h])

set_option maxHeartbeats 400000 in
theorem parity_ok (kind : Int) (K M : Nat) (N gd : Int) (w : World) (h : Sh.Ok kind K M N gd) :
    Calls Try.prog 60 #[.agg #[.int .i64 kind, .int .i64 K, .int .i64 M, .int .i64 N, .int .i64 gd]] w fun e w' => ∃ v, e = .returned v ∧ w'.ownsRow w.heap.size 94 1 v (M * Sh.R kind N) ((Sh.parity kind K M N gd).map (Value.int .u64)) ∧ Below w.heap.size w w' := by
  have HE : Hid (∀ w : World, Calls Try.prog 26 #[.agg #[.int .i64 kind, .int .i64 K, .int .i64 M, .int .i64 N, .int .i64 gd]] w fun e w' => e = .returned (.bool true) ∧ Below w.heap.size w w') := fun w => ex_ok kind K M N gd w h
  rcases h.tab with ⟨h0, d, hd, h'⟩ | ⟨h0, n1, hn, h'⟩
  · have HP : Hid (∀ w : World, Calls Try.prog 70 #[.agg #[.int .i64 kind, .int .i64 K, .int .i64 M, .int .i64 N, .int .i64 gd]] w fun e w' => ∃ v, e = .returned v ∧ w'.ownsRow w.heap.size 94 1 v (M * Sh.R kind N) ((Sh.parity kind K M N gd).map (Value.int .u64)) ∧ Below w.heap.size w w') := fun w => by
      obtain ⟨_, _, h1, h4, hK, hM, h10, hp, _⟩ := h'
      have := cpar_any d K M kind gd w h1 h4 hK hM h10 hp
      rw [Sh.parity, if_pos h0, Sh.R, if_pos h0, hd, Int.toNat_natCast]
      exact this
    clear h h' hd
    have hk0 : (kind == 0) = true := by simp [h0]
    clear h0
    go_enter Try.func60, Try.ntmps60
    go_wp2_with (first | (go_at_call 26; refine (HE.out _).mono ?_; rintro e w1 ⟨rfl, hb1⟩; have hc0 := box_cell hb1 (by simp) 0 rfl; have hc1 := box_cell hb1 (by simp) 1 rfl; have hc2 := box_cell hb1 (by simp) 2 rfl; have hc3 := box_cell hb1 (by simp) 3 rfl; have hc4 := box_cell hb1 (by simp) 4 rfl) | (go_at_call 70; refine (HP.out _).mono ?_; rintro e w2 ⟨v2, rfl, hown2, hb2⟩))
    go_ret
    have hs1 := box_size hb1
    exact ⟨_, rfl, own_mono hown2 (by omega), (((Below.refl _ _).alloc (Nat.le_refl _) _).trans (hb1.mono (by simp))).trans (hb2.mono (by omega))⟩
  · have HP : Hid (∀ w : World, Calls Try.prog 71 #[.agg #[.int .i64 kind, .int .i64 K, .int .i64 M, .int .i64 N, .int .i64 gd]] w fun e w' => ∃ v, e = .returned v ∧ w'.ownsRow w.heap.size 94 1 v (M * Sh.R kind N) ((Sh.parity kind K M N gd).map (Value.int .u64)) ∧ Below w.heap.size w w') := fun w => by
      obtain ⟨_, hK, h10, hN, hk⟩ := h'
      have hR : (N - 1).toNat = n1 := by omega
      rw [Sh.parity, if_neg h0, Sh.R, if_neg h0, hR]
      exact tpar_any kind M N gd n1 K w hN (by omega) M (by split <;> omega)
    clear h h' hn
    have hk0 : (kind == 0) = false := by simp [h0]
    clear h0
    go_enter Try.func60, Try.ntmps60
    go_wp2_with (first | (go_at_call 26; refine (HE.out _).mono ?_; rintro e w1 ⟨rfl, hb1⟩; have hc0 := box_cell hb1 (by simp) 0 rfl; have hc1 := box_cell hb1 (by simp) 1 rfl; have hc2 := box_cell hb1 (by simp) 2 rfl; have hc3 := box_cell hb1 (by simp) 3 rfl; have hc4 := box_cell hb1 (by simp) 4 rfl) | (go_at_call 71; refine (HP.out _).mono ?_; rintro e w2 ⟨v2, rfl, hown2, hb2⟩))
    go_ret
    have hs1 := box_size hb1
    exact ⟨_, rfl, own_mono hown2 (by omega), (((Below.refl _ _).alloc (Nat.le_refl _) _).trans (hb1.mono (by simp))).trans (hb2.mono (by omega))⟩

end Go.Proofs.Ythhbpofcemoflab
