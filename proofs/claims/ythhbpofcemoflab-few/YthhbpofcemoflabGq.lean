import Derived.Test.YthhbpofcemoflabGp
namespace Go.Proofs.Ythhbpofcemoflab
open Go.RowKit
set_option maxRecDepth 20000
theorem Try.infoI : (Try.prog.info? 3).map (fun i => (i.zero, i.size, i.bytes)) = some (some (.int .i64 0), 1, 8) := by kernel_rfl
def Sh.iv64 (l : List Nat) : List Value := l.map fun (n : Nat) => Value.int .i64 (n : Int)
set_option maxHeartbeats 2000000 in
theorem losses_ok (c : Int) (n m : Nat) (w : World) (hl : -9223372036854775808 ≤ c) (hn : n ≤ 20) (hm : m ≤ 20) :
    Calls Try.prog 31 #[.int .i64 c, .int .i64 n, .int .i64 m] w fun e w' => ∃ (v : Value) (l : List Nat), e = .returned v ∧ w'.ownsRow w.heap.size 3 1 v l.length (Sh.iv64 l) ∧ (l = [] → v = .slice none 0 0) ∧ l.Pairwise (· < ·) ∧ (∀ i ∈ l, i < n) ∧ l.length ≤ m ∧ Below w.heap.size w w' := by
  obtain ⟨i0, hi, hz0, hz1, hz2⟩ := info_parts Try.infoI
  have hm0 : ((m : Int) + 1 == 0) = false := by simp; omega
  go_enter Try.func31, Try.ntmps31
  go_wp2_with fail
  refine (pick_any c 1099511627776 w hl (by decide)).mono ?_
  rintro e w1 ⟨r, rfl, hr, rfl⟩
  obtain ⟨wt, hwt⟩ : ∃ wt, r % (m + 1) = wt := ⟨_, rfl⟩
  obtain ⟨x0, hx0⟩ : ∃ x0, r / (m + 1) = x0 := ⟨_, rfl⟩
  have hwm : wt ≤ m := by have := Nat.mod_lt r (show 0 < m + 1 by omega); omega
  have hxr : x0 ≤ r := by rw [← hx0]; exact Nat.div_le_self _ _
  have e1 : (r : Int) % ((m : Int) + 1) = (wt : Int) := by rw [← hwt]; simp
  have e2 : (r : Int) / ((m : Int) + 1) = (x0 : Int) := by rw [← hx0]; simp
  have hx40 : x0 < 1099511627776 := by omega
  clear hwt hx0
  go_wp2_with fail
  go_loopw [7, 9, 10, 11, 12] (fun xv s i _ _ wr => ∃ (k x : Nat) (l : List Nat), k ≤ n ∧ i = .int .i64 k ∧ xv = .int .i64 x ∧ x < 1099511627776 ∧ wr.ownsRow w1.heap.size 3 1 s l.length (Sh.iv64 l) ∧ (l = [] → s = .slice none 0 0) ∧ l.Pairwise (· < ·) ∧ (∀ i ∈ l, i < k) ∧ l.length ≤ wt ∧ Below w1.heap.size w1 wr) (fun _ _ i _ _ _ => n - (intOf i).toNat)
  case atStart => exact ⟨0, x0, [], Nat.zero_le _, rfl, rfl, hx40, World.ownsRow_nil _ _ _ _, fun _ => rfl, List.Pairwise.nil, (by intro i hi; cases hi), Nat.zero_le _, Below.refl _ _⟩
  case round =>
    obtain ⟨k, x, l, hk, rfl, rfl, hx, hown, hnil, hpw, hlt, hll, hbl⟩ := hrel
    have hsr := hbl.size
    obtain ⟨sa, sc, rfl⟩ := own_slice hown
    have Hnil := hide hnil
    have Hpw := hide hpw
    have Hlt := hide hlt
    clear hnil hpw hlt
    by_cases hkn : k < n
    · by_cases hlw : l.length < wt
      · have hnx : x / 3 + k * 977 < 1099511627776 := by omega
        have hnx2 : (x : Int) / 3 + (k : Int) * 977 = ((x / 3 + k * 977 : Nat) : Int) := by omega
        have HNs := hide (show Sh.iv64 (l ++ [k]) = Sh.iv64 l ++ [.int .i64 (k : Int)] by simp [Sh.iv64])
        have Hpw' := hide (show (l ++ [k]).Pairwise (· < ·) from List.pairwise_append.2 ⟨Hpw.out, List.pairwise_singleton _ _, fun a ha b hb => by rw [List.mem_singleton] at hb; subst hb; exact Hlt.out a ha⟩)
        have Hlt' := hide (show ∀ i ∈ l ++ [k], i < k + 1 from fun i hi => by
          rw [List.mem_append, List.mem_singleton] at hi
          rcases hi with hi | hi
          · have := Hlt.out i hi; omega
          · omega)
        have Hlt2 := hide (show ∀ i ∈ l, i < k + 1 from fun i hi => by have := Hlt.out i hi; omega)
        generalize hy : x / 3 + k * 977 = y at *
        clear hy
        by_cases h1 : (n : Int) - (k : Int) = (wt : Int) - (l.length : Int)
        · have h1' : ((n : Int) - (k : Int) == (wt : Int) - (l.length : Int)) = true := by simp [h1]
          go_wp2_with (at_builtin; refine append1x _ rfl (.tmp 49) (.tmp 51) 63 rfl w1.heap.size 3 i0 (.int .i64 0) 1 8 Try.underlying63 hi hz0 hz1 hz2 rfl (by decide) (by decide) _ _ _ _ rfl hown rfl rfl (by simp; rfl) (by omega) (by omega) ?_; intro v3 w3 hown3 hb3 hg3 hf3)
          exact ⟨⟨_, v3, _, ⟨k + 1, by omega, by go_num, y, rfl, hnx, l ++ [k], by rw [HNs.out, List.length_append]; exact hown3, (fun h => by simp at h), Hpw'.out, Hlt'.out, (by simp; omega), hbl.trans hb3⟩, rfl, rfl, rfl⟩, by simp [intOf]; omega⟩
        · have h1' : ((n : Int) - (k : Int) == (wt : Int) - (l.length : Int)) = false := by simp; omega
          by_cases h2 : (x : Int) % 3 = 0
          · have h2' : ((x : Int) % 3 == 0) = true := by simp [h2]
            go_wp2_with (at_builtin; refine append1x _ rfl (.tmp 49) (.tmp 51) 63 rfl w1.heap.size 3 i0 (.int .i64 0) 1 8 Try.underlying63 hi hz0 hz1 hz2 rfl (by decide) (by decide) _ _ _ _ rfl hown rfl rfl (by simp; rfl) (by omega) (by omega) ?_; intro v3 w3 hown3 hb3 hg3 hf3)
            exact ⟨⟨_, v3, _, ⟨k + 1, by omega, by go_num, y, rfl, hnx, l ++ [k], by rw [HNs.out, List.length_append]; exact hown3, (fun h => by simp at h), Hpw'.out, Hlt'.out, (by simp; omega), hbl.trans hb3⟩, rfl, rfl, rfl⟩, by simp [intOf]; omega⟩
          · have h2' : ((x : Int) % 3 == 0) = false := by simpa using h2
            go_wp2
            go_roundw
            case rel => exact ⟨k + 1, y, l, by omega, by go_num, by go_num, hnx, hown, Hnil.out, Hpw.out, Hlt2.out, hll, hbl⟩
            case measure => simp [intOf]; omega
      · go_wp2
        go_ret
        exact ⟨_, l, rfl, hown, Hnil.out, Hpw.out, (fun i hi => Nat.lt_trans (Hlt.out i hi) hkn), by omega, hbl⟩
    · go_wp2
      go_ret
      exact ⟨_, l, rfl, hown, Hnil.out, Hpw.out, (fun i hi => by have := Hlt.out i hi; omega), by omega, hbl⟩
end Go.Proofs.Ythhbpofcemoflab
namespace Go.Proofs.Ythhbpofcemoflab
open Go.RowKit
set_option maxRecDepth 20000
set_option maxHeartbeats 1000000 in
theorem patternOf_nil (cb : Nat) (kind : Int) (K M : Nat) (N gd : Int) (w : World) (h : Sh.Ok kind K M N gd) (hcb : cb < w.heap.size)
    (c0 : w.cell? ⟨cb, 0, none⟩ = some (.int .i64 kind)) (c1 : w.cell? ⟨cb, 1, none⟩ = some (.int .i64 K)) (c2 : w.cell? ⟨cb, 2, none⟩ = some (.int .i64 M)) (c3 : w.cell? ⟨cb, 3, none⟩ = some (.int .i64 N)) (c4 : w.cell? ⟨cb, 4, none⟩ = some (.int .i64 gd)) :
    Calls Try.prog 47 #[.pointer (some ⟨cb, 0, none⟩), .slice none 0 0] w fun e w' => e = .returned (.tuple #[.int .i64 ((0 : Nat) : Int), .int .i64 0]) ∧ Below w.heap.size w w' := by
  obtain ⟨hK, hM, h10, hR1, hR2, hKR, hMR, hPL⟩ := h.bounds
  have HE := hide (fun (wx : World) => ex_ok kind K M N gd wx h)
  clear h
  have dM : decide ((M : Int) < 0) = false := by simp
  go_enter Try.func47, Try.ntmps47
  go_wp2_with fail
  refine (HE.out _).mono ?_
  rintro e w1 ⟨rfl, hb1⟩
  have d2 := keepc hb1 hcb 2 c2
  have hs1 := hb1.size
  go_wp2_with fail
  go_loop [6, 8, 21] (fun pi _ ki => ki = .int .i64 0 ∧ pi = .int .i64 0) (fun _ _ _ => 0)
  case atStart => exact ⟨rfl, rfl⟩
  case round =>
    obtain ⟨rfl, rfl⟩ := hrel
    go_wp2
    go_ret2
    exact ⟨rfl, hb1⟩
namespace Sh
theorem nodup_le (a b : List Nat) (ha : a.Nodup) (h : ∀ x ∈ a, x ∈ b) : a.length ≤ b.length := by
  induction a generalizing b with
  | nil => exact Nat.zero_le _
  | cons x a ih =>
    rw [List.nodup_cons] at ha
    have hx := h x (by simp)
    have := ih (b.erase x) ha.2 (fun y hy => (List.mem_erase_of_ne (fun e => ha.1 (by rw [← e]; exact hy))).2 (h y (by simp [hy])))
    rw [List.length_erase_of_mem hx] at this
    have hp : 0 < b.length := List.length_pos_of_mem hx
    rw [List.length_cons]
    omega
theorem lo_nodup (q s : Nat) : (lo q s).Nodup := by
  induction s with
  | zero => exact List.nodup_nil
  | succ s ih =>
    simp only [lo]
    split
    · rw [List.nodup_append]
      refine ⟨ih, by simp, ?_⟩
      intro a ha b hb
      simp at hb
      subst hb
      have := (lo_lt a ha).1
      omega
    · exact ih
theorem lo_pos {q n i : Nat} (hi : i < n) (hb : q.testBit i = true) : 1 ≤ (lo q n).length := by
  have := (List.getElem?_eq_some_iff.1 (lo_get hi hb)).1
  omega
/-- the pattern of some losses -/
theorem pat_of {n M : Nat} {l : List Nat} (hn : n ≤ 20) (hp : l.Pairwise (· < ·)) (hl : ∀ i ∈ l, i < n) (hM : l.length ≤ M) : ∃ q : Nat, patE n M (l.map fun (i : Nat) => (i : Int)) = (q, 0) ∧ q < 2 ^ 20 ∧ (∀ i, q.testBit i = true ↔ i ∈ l) ∧ (lo q n).length ≤ M ∧ (q ≠ 0 → 1 ≤ (lo q n).length) := by
  have hnd : l.Nodup := List.Pairwise.imp (fun h => Nat.ne_of_lt h) hp
  have hnd' : (l.map fun (i : Nat) => (i : Int)).Nodup := by
    refine List.Pairwise.map _ ?_ hnd
    intro a b hab e
    exact hab (Int.ofNat_inj.1 e)
  obtain ⟨q, hq⟩ := pat_some (n := n) (l := l.map fun (i : Nat) => (i : Int)) (p := 0) (by
    intro i hi
    rw [List.mem_map] at hi
    obtain ⟨a, ha, rfl⟩ := hi
    have := hl a ha
    omega) hnd' (by intro i _; simp)
  have hbit : ∀ i, q.testBit i = true ↔ i ∈ l := by
    intro i
    rw [pat_bit hq i, Nat.zero_testBit, List.mem_map]
    constructor
    · rintro (h | ⟨a, ha, e⟩)
      · cases h
      · rw [← Int.ofNat_inj.1 e]; exact ha
    · exact fun h => Or.inr ⟨i, h, rfl⟩
  refine ⟨q, ?_, ?_, hbit, ?_, ?_⟩
  · unfold patE
    rw [hq]
    simp only [List.length_map]
    rw [if_neg (by omega)]
  · exact Nat.lt_of_lt_of_le (pat_lt hq (Nat.two_pow_pos _)) (Nat.pow_le_pow_right (by decide) hn)
  · refine Nat.le_trans (nodup_le _ l (lo_nodup q n) ?_) hM
    intro x hx
    exact (hbit x).1 (lo_lt x hx).2
  · intro h0
    cases l with
    | nil =>
      exfalso
      apply h0
      apply Nat.eq_of_testBit_eq
      intro i
      rw [Nat.zero_testBit]
      cases h : q.testBit i with
      | false => rfl
      | true => exact absurd ((hbit i).1 h) (by simp)
    | cons a l => exact lo_pos (hl a (by simp)) ((hbit a).2 (by simp))
end Sh
theorem patternOf_any (cb : Nat) (kind : Int) (K M : Nat) (N gd : Int) (v : Value) (base : Nat) (l : List Nat) (q : Nat) (w : World) (h : Sh.Ok kind K M N gd) (hcb : cb < w.heap.size)
    (c0 : w.cell? ⟨cb, 0, none⟩ = some (.int .i64 kind)) (c1 : w.cell? ⟨cb, 1, none⟩ = some (.int .i64 K)) (c2 : w.cell? ⟨cb, 2, none⟩ = some (.int .i64 M)) (c3 : w.cell? ⟨cb, 3, none⟩ = some (.int .i64 N)) (c4 : w.cell? ⟨cb, 4, none⟩ = some (.int .i64 gd))
    (hv : w.ownsRow base 3 1 v l.length (Sh.iv64 l)) (hnil : l = [] → v = .slice none 0 0) (hl : ∀ i ∈ l, i < K + M) (hM : l.length ≤ M) (hq : Sh.patE (K + M) M (l.map fun (i : Nat) => (i : Int)) = (q, 0)) :
    Calls Try.prog 47 #[.pointer (some ⟨cb, 0, none⟩), v] w fun e w' => e = .returned (.tuple #[.int .i64 (q : Int), .int .i64 0]) ∧ Below w.heap.size w w' := by
  obtain ⟨hK, hM', h10, hR1, hR2, hKR, hMR, hPL⟩ := h.bounds
  cases hl0 : l with
  | nil =>
    subst hl0
    have := hnil rfl
    subst this
    have e : q = 0 := by
      have : Sh.patE (K + M) M [] = (0, 0) := by simp [Sh.patE, Sh.pat]
      rw [List.map_nil, this] at hq
      injection hq with hq _
      exact hq.symm
    subst e
    exact patternOf_nil cb kind K M N gd w h hcb c0 c1 c2 c3 c4
  | cons a t =>
    have hll : 1 ≤ l.length := by rw [hl0]; simp
    have := patternOf_ok cb kind K M N gd v base (l.map fun (i : Nat) => (i : Int)) w h hcb c0 c1 c2 c3 c4 (by
      rw [List.length_map, List.map_map]
      exact hv) (by rw [List.length_map]; exact hll) (by rw [List.length_map]; omega) (by
      intro i hi
      rw [List.mem_map] at hi
      obtain ⟨b, hb, rfl⟩ := hi
      have := hl b hb
      omega)
    rw [hq] at this
    exact this
end Go.Proofs.Ythhbpofcemoflab
