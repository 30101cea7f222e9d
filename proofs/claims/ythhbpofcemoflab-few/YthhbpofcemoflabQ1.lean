import Derived.Test.YthhbpofcemoflabW12
import Derived.BigQuiet
import Derived.Deep.QuietTactic
namespace Go.Proofs.Ythhbpofcemoflab
open Go.RowKit
set_option maxRecDepth 20000

structure Sh.OnI (p x n : Nat) : Prop where
  lt : x < 2 ^ 64
  sum : n + Sh.pc x = p
theorem Sh.OnI.step {p x n : Nat} (h : Sh.OnI p x n) (hz : x ≠ 0) : Sh.OnI p (x &&& (x - 1)) (n + 1) := by
  have h1 := h.lt
  have h2 := h.sum
  have h3 := Sh.pc_step hz h1
  have h4 : x &&& (x - 1) ≤ x - 1 := Nat.and_le_right
  exact ⟨by omega, by omega⟩
theorem Sh.OnI.done {p n : Nat} (h : Sh.OnI p 0 n) : p = n := by have := h.sum; rw [Sh.pc_zero] at this; omega
theorem Sh.OnI.le {p x n : Nat} (h : Sh.OnI p x n) : n ≤ p := by have := h.sum; omega
theorem Sh.OnI.lt' {p x n : Nat} (h : Sh.OnI p x n) : (x : Int) < 18446744073709551616 := by have := h.lt; omega
set_option maxHeartbeats 400000 in
theorem ones_ok (s : Nat) (w : World) (hs : s < 2 ^ 64) :
    Calls Try.prog 91 #[.int .u64 (s : Int)] w fun e w' => e = .returned (.int .i64 ((Sh.pc s : Nat) : Int)) ∧ w' = w := by
  have hpc := Sh.pc_le_of hs (Nat.le_refl 64)
  have hI : Sh.OnI (Sh.pc s) s 0 := ⟨hs, Nat.zero_add _⟩
  clear hs
  generalize Sh.pc s = p at *
  go_enter Try.func91, Try.ntmps91
  go_wp2
  go_loop [0, 3] (fun a c => ∃ x n : Nat, a = .int .u64 (x : Int) ∧ c = .int .i64 (n : Int) ∧ Sh.OnI p x n) (fun a _ => (intOf a).toNat)
  case atStart => exact ⟨s, 0, rfl, rfl, hI⟩
  case round =>
    obtain ⟨x, n, rfl, rfl, hx⟩ := hrel
    have hnb : n ≤ 64 := by have := hx.le; omega
    by_cases hz : x = 0
    · subst hz
      have e := hx.done
      subst e
      go_wp2
      go_ret
      exact ⟨rfl, rfl⟩
    · have h1 : ((x : Int) == 0) = false := by simp; exact hz
      have hb : bits .and .u64 (x : Int) (IntKind.u64.wrap ((x : Int) - 1)) = ((x &&& (x - 1) : Nat) : Int) := by
        have := Sh.bits_andu x (x - 1) hx.lt (by have := hx.lt; omega)
        rw [Int.natCast_sub (by omega)] at this
        rw [Sh.wrapu64 _ (by omega) (by have := hx.lt'; omega)]
        exact this
      have hst := hx.step hz
      have hle : x &&& (x - 1) ≤ x - 1 := Nat.and_le_right
      have hx1' : 1 ≤ x := by omega
      clear hz hx
      generalize x &&& (x - 1) = y at *
      have Hle := hide hle
      clear hle
      go_wp2
      go_round
      case rel => exact ⟨y, n + 1, rfl, by go_num, hst⟩
      case measure => simp [intOf]; have := Hle.out; omega

set_option maxHeartbeats 400000 in
theorem xorsW_ok (mk : Bool) (f : Int) (s : Nat) (w : World) (hs : s < 2 ^ 64) :
    Calls Try.prog 80 #[.agg #[.bool mk, .int .i64 f, .int .u64 (s : Int)]] w fun e w' => e = .returned (.int .i64 ((Sh.wx f s : Nat) : Int)) ∧ Below w.heap.size w w' := by
  have HO := hide (fun w => ones_ok s w hs)
  have hpc := Sh.pc_le_of hs (Nat.le_refl 64)
  have Hw : Hid (Sh.wx f s = if f = -1 then Sh.pc s - 1 else Sh.pc s) := rfl
  rw [Hw.out]
  clear hs Hw
  generalize hp : Sh.pc s = p at *
  clear hp
  by_cases h : f = -1
  · rw [if_pos h]
    subst h
    by_cases h0 : p = 0
    · subst h0
      go_enter Try.func80, Try.ntmps80
      go_wp2_with (go_at_call 91; refine (HO.out _).mono ?_; rintro e w1 ⟨rfl, rfl⟩)
      go_ret
      exact ⟨rfl, (Below.refl _ _).alloc (Nat.le_refl _) _⟩
    · have e : ((p - 1 : Nat) : Int) = (p : Int) - 1 := by omega
      rw [e]
      have h1 : decide (0 < (p : Int)) = true := by simp; omega
      go_enter Try.func80, Try.ntmps80
      go_wp2_with (go_at_call 91; refine (HO.out _).mono ?_; rintro e w1 ⟨rfl, rfl⟩)
      go_ret
      exact ⟨rfl, (Below.refl _ _).alloc (Nat.le_refl _) _⟩
  · rw [if_neg h]
    have h1 : (f == -1) = false := by simp; exact h
    go_enter Try.func80, Try.ntmps80
    go_wp2_with (go_at_call 91; refine (HO.out _).mono ?_; rintro e w1 ⟨rfl, rfl⟩)
    go_ret
    exact ⟨rfl, (Below.refl _ _).alloc (Nat.le_refl _) _⟩

set_option maxHeartbeats 400000 in
theorem follow_ok (pb G O : Nat) (B t : Int) (mk : Bool) (f : Int) (s : Nat) (v : Value) (ops : List (Int × Int × Int)) (w : World) (hp : Sh.PB w pb G O B v ops) (hO : O ≤ 40) (hs : s < 2 ^ 64) (hl : ops.length ≤ 3800) :
    Calls Try.prog 79 #[.pointer (some ⟨pb, 0, none⟩), .int .i64 t, .agg #[.bool mk, .int .i64 f, .int .u64 (s : Int)]] w fun e w' => e = .returned (.tuple #[]) ∧ ∃ v', Sh.PB w' pb G O B v' (ops ++ Sh.folO G O t f s) ∧ Sh.Ad w w' pb v v' := by
  have hbA := ((Below.refl w.heap.size w).alloc (Nat.le_refl _) (.cells #[.bool mk, .int .i64 f, .int .u64 (s : Int)] 120))
  have hpA := hp.below hbA
  by_cases h : f = -1
  · have e : Sh.folO G O t f s = Sh.sumO G O t s := if_pos h
    rw [e]
    subst h
    have HA := hide (sum_ok pb G O B t s v ops _ hpA hO hs (by omega))
    have HB := hide hbA
    clear hp hs hpA hbA
    go_enter Try.func79, Try.ntmps79
    go_wp2_with (go_at_call 61; refine HA.out.mono ?_; rintro e w2 ⟨rfl, v2, hp2, ha2⟩)
    exact bodyPost_ret (v := .tuple #[]) (by simp [results, Try.results79, go_sem]) rfl ⟨rfl, v2, hp2, ha2.pre HB.out⟩
  · have e : Sh.folO G O t f s = [(1, t, f)] ++ Sh.addO G O 2 t s := if_neg h
    rw [e]
    have h1 : (f == -1) = false := by simp; exact h
    have HL := hide (lay_ok pb G O B 1 t f v ops _ hpA (by omega))
    have HB := hide hbA
    have HP := hide hp
    have HS := hide hs
    clear hp hs hpA hbA
    go_enter Try.func79, Try.ntmps79
    go_wp2_with fail
    refine HL.out.mono ?_
    rintro e w2 ⟨rfl, v2, hp2, ha2⟩
    have hk := ha2.1.block w.heap.size (by simp) (by have := blk_lt HP.out.box; omega) (fun h => by have := (HP.out.own.lt w.heap.size h.symm).2; omega)
    have hk' := hk.trans (heap_alloc_new w _)
    have k2 : w2.cell? ⟨w.heap.size, 2, none⟩ = some (.int .u64 (s : Int)) := blk_cell (j := 2) hk' rfl
    have HA := hide (addp_ok pb G O B 2 t s v2 _ w2 hp2 hO HS.out (by simp; omega))
    clear hk hk' hp2
    go_wp2_with (go_at_call 73; refine HA.out.mono ?_; rintro e w3 ⟨rfl, v3, hp3, ha3⟩)
    go_end0
    rw [show ops ++ (1, t, f) :: Sh.addO G O 2 t s = ops ++ [(1, t, f)] ++ Sh.addO G O 2 t s by simp]
    exact ⟨rfl, v3, hp3, (ha2.trans ha3).pre HB.out⟩
end Go.Proofs.Ythhbpofcemoflab
