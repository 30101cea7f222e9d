import Derived.Test.YthhbpofcemoflabGn
import Derived.Test.YthhbpofcemoflabL1
namespace Go.Proofs.Ythhbpofcemoflab
open Go.RowKit
set_option maxRecDepth 20000
/-- which of n things the raw number c speaks of -/
def Sh.pk (c n : Int) : Int := if 0 ≤ c then c % n else (-1 - c) % n
theorem Sh.pk_in (c n : Int) (hn : 1 ≤ n) : 0 ≤ Sh.pk c n ∧ Sh.pk c n < n := by
  unfold Sh.pk
  split
  · exact ⟨Int.emod_nonneg _ (by omega), Int.emod_lt_of_pos _ (by omega)⟩
  · exact ⟨Int.emod_nonneg _ (by omega), Int.emod_lt_of_pos _ (by omega)⟩
theorem pick_eq (c n : Int) (w : World) (hl : -9223372036854775808 ≤ c) (hn : 1 ≤ n) : Calls Try.prog 11 #[.int .i64 c, .int .i64 n] w fun e w' => e = .returned (.int .i64 (Sh.pk c n)) ∧ w' = w := by
  unfold Sh.pk
  by_cases h : 0 ≤ c
  · rw [if_pos h]; exact pick_pos c n w h hn
  · rw [if_neg h]; exact pick_neg c n w (by omega) hl hn
theorem program_err (cb : Nat) (kind : Int) (K M : Nat) (N gd : Int) (v : Value) (base : Nat) (l : List Int) (w : World) (h : Sh.Ok kind K M N gd) (hcb : cb < w.heap.size)
    (c0 : w.cell? ⟨cb, 0, none⟩ = some (.int .i64 kind)) (c1 : w.cell? ⟨cb, 1, none⟩ = some (.int .i64 K)) (c2 : w.cell? ⟨cb, 2, none⟩ = some (.int .i64 M)) (c3 : w.cell? ⟨cb, 3, none⟩ = some (.int .i64 N)) (c4 : w.cell? ⟨cb, 4, none⟩ = some (.int .i64 gd))
    (hv : w.ownsRow base 3 1 v l.length (l.map (Value.int .i64))) (hl1 : 1 ≤ l.length) (hl : l.length ≤ 1000) (hb : ∀ i ∈ l, -9223372036854775808 ≤ i ∧ i ≤ 9223372036854775807) (er : Int) (her : er = 3 ∨ er = 4) (hE : Sh.patE (K + M) M l = (0, er)) :
    Calls Try.prog 36 #[.pointer (some ⟨cb, 0, none⟩), v] w fun e w' => e = .returned (.tuple #[.string ⟨#[]⟩, .int .i64 er]) ∧ Below w.heap.size w w' := by
  have HP := hide (patternOf_ok cb kind K M N gd v base l w h hcb c0 c1 c2 c3 c4 hv hl1 hl hb)
  rw [hE] at HP
  clear c0 c1 c2 c3 c4 hv hb hE h
  rcases her with rfl | rfl
  · go_enter Try.func36, Try.ntmps36
    go_wp2_with fail
    refine HP.out.mono ?_
    rintro e w1 ⟨rfl, hb1⟩
    go_wp2
    go_ret2
    exact ⟨rfl, hb1⟩
  · go_enter Try.func36, Try.ntmps36
    go_wp2_with fail
    refine HP.out.mono ?_
    rintro e w1 ⟨rfl, hb1⟩
    go_wp2
    go_ret2
    exact ⟨rfl, hb1⟩
theorem reconstruct_err (cb : Nat) (kind : Int) (K M : Nat) (N gd : Int) (sh v : Value) (base : Nat) (l : List Int) (w : World) (h : Sh.Ok kind K M N gd) (hcb : cb < w.heap.size)
    (c0 : w.cell? ⟨cb, 0, none⟩ = some (.int .i64 kind)) (c1 : w.cell? ⟨cb, 1, none⟩ = some (.int .i64 K)) (c2 : w.cell? ⟨cb, 2, none⟩ = some (.int .i64 M)) (c3 : w.cell? ⟨cb, 3, none⟩ = some (.int .i64 N)) (c4 : w.cell? ⟨cb, 4, none⟩ = some (.int .i64 gd))
    (hv : w.ownsRow base 3 1 v l.length (l.map (Value.int .i64))) (hl1 : 1 ≤ l.length) (hl : l.length ≤ 1000) (hb : ∀ i ∈ l, -9223372036854775808 ≤ i ∧ i ≤ 9223372036854775807) (er : Int) (her : er = 3 ∨ er = 4) (hE : Sh.patE (K + M) M l = (0, er)) :
    Calls Try.prog 32 #[.pointer (some ⟨cb, 0, none⟩), sh, v] w fun e w' => e = .returned (.tuple #[.slice none 0 0, .int .i64 er]) ∧ Below w.heap.size w w' := by
  have HP := hide (patternOf_ok cb kind K M N gd v base l w h hcb c0 c1 c2 c3 c4 hv hl1 hl hb)
  rw [hE] at HP
  clear c0 c1 c2 c3 c4 hv hb hE h
  rcases her with rfl | rfl
  · go_enter Try.func32, Try.ntmps32
    go_wp2_with fail
    refine HP.out.mono ?_
    rintro e w1 ⟨rfl, hb1⟩
    go_wp2
    go_ret2
    exact ⟨rfl, hb1⟩
  · go_enter Try.func32, Try.ntmps32
    go_wp2_with fail
    refine HP.out.mono ?_
    rintro e w1 ⟨rfl, hb1⟩
    go_wp2
    go_ret2
    exact ⟨rfl, hb1⟩
namespace Sh
/-- what Many takes for lost -/
def turns (n : Nat) (r : Int) (m : Nat) : List Int := (List.range m).map fun (i : Nat) => ((i : Int) + r) % n
theorem turns_len (n : Nat) (r : Int) (m : Nat) : (turns n r m).length = m := by simp [turns]
theorem turns_in {n : Nat} {r : Int} {m : Nat} (hn : 1 ≤ n) : ∀ i ∈ turns n r m, 0 ≤ i ∧ i < (n : Int) := by
  intro i hi
  simp only [turns, List.mem_map] at hi
  obtain ⟨k, _, rfl⟩ := hi
  exact ⟨Int.emod_nonneg _ (by omega), Int.emod_lt_of_pos _ (by omega)⟩
theorem turns_nodup {n : Nat} {r : Int} {m : Nat} (hm : m ≤ n) : (turns n r m).Nodup := by
  unfold turns
  rw [List.nodup_iff_pairwise_ne, List.pairwise_map]
  refine List.Pairwise.imp_of_mem ?_ (List.nodup_range (n := m))
  intro a b ha hb hne he
  simp only [List.mem_range] at ha hb
  have h2 : ((a : Int) + r - ((b : Int) + r)) % n = 0 := Int.emod_eq_emod_iff_emod_sub_eq_zero.1 he
  have h3 : (n : Int) ∣ ((a : Int) - (b : Int)) := by
    have := Int.dvd_of_emod_eq_zero h2
    rwa [show (a : Int) + r - ((b : Int) + r) = (a : Int) - b by omega] at this
  obtain ⟨q, hq⟩ := h3
  have hq0 : q = 0 := by
    rcases Int.lt_trichotomy q 0 with h | h | h
    · have : (n : Int) * q ≤ (n : Int) * (-1) := Int.mul_le_mul_of_nonneg_left (by omega) (by omega)
      omega
    · exact h
    · have : (n : Int) * 1 ≤ (n : Int) * q := Int.mul_le_mul_of_nonneg_left (by omega) (by omega)
      omega
  rw [hq0, Int.mul_zero] at hq
  omega
theorem turns_take (n : Nat) (r : Int) (m : Nat) : turns n r (m + 1) = turns n r m ++ [((m : Int) + r) % n] := by simp [turns, List.range_succ]
theorem many_first {K M : Nat} {r : Int} (hK : 1 ≤ K) : patE (K + M) M (turns (K + M) r (M + 1)) = (0, 4) := by
  obtain ⟨q, hq⟩ := pat_some (n := K + M) (l := turns (K + M) r (M + 1)) (p := 0) (turns_in (by omega)) (turns_nodup (by omega)) (by intro i _; exact Nat.zero_testBit _)
  unfold patE
  rw [hq]
  simp [turns_len]
theorem many_dup {K M : Nat} {l : List Int} {a : Int} (hM : 1 ≤ M) (hl : l.length = M + 1) (h0 : l[0]? = some a) : patE (K + M) M (l.set M a) = (0, 3) := by
  have : pat (K + M) (l.set M a) 0 = none := by
    apply pat_none_dup
    intro hnd
    have h1 : (l.set M a)[0]? = some a := by rw [List.getElem?_set_ne (by omega)]; exact h0
    have h2 : (l.set M a)[M]? = some a := List.getElem?_set_self (by omega)
    have := (List.getElem?_inj (by simp; omega) hnd).1 (h1.trans h2.symm)
    omega
  unfold patE
  rw [this]
theorem many_out {K M : Nat} {l : List Int} {a : Int} (hl : l.length = M + 1) (ha : ((K + M : Nat) : Int) ≤ a) : patE (K + M) M (l.set M a) = (0, 3) := by
  have : pat (K + M) (l.set M a) 0 = none := pat_none_in (i := a) (List.mem_of_getElem? (List.getElem?_set_self (by omega))) (Or.inr ha)
  unfold patE
  rw [this]
end Sh
end Go.Proofs.Ythhbpofcemoflab
