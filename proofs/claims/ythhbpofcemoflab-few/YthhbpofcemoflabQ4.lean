import Derived.Test.YthhbpofcemoflabQ1
import Derived.Test.YthhbpofcemoflabGe
namespace Go.Proofs.Ythhbpofcemoflab
open Go.RowKit
set_option maxRecDepth 20000
def Sh.nvl (l : List Nat) : List Value := l.map fun (n : Nat) => Value.int .u64 (n : Int)
theorem Sh.nvl_len (l : List Nat) : (Sh.nvl l).length = l.length := by simp [Sh.nvl]
theorem Sh.nvl_get {l : List Nat} {j x : Nat} (h : l[j]? = some x) : (Sh.nvl l)[j]? = some (.int .u64 (x : Int)) := by simp [Sh.nvl, h]
theorem Sh.nvl_snoc (l : List Nat) (x : Nat) : Sh.nvl (l ++ [x]) = Sh.nvl l ++ [.int .u64 (x : Int)] := by simp [Sh.nvl]
theorem Sh.wd_at {T : List Nat} {i k x : Nat} (h : T[k]? = some x) : Sh.wd T i (k + 1) = Sh.wd T i k ||| ((x / 2 ^ i % 2) * 2 ^ k) := by
  simp only [Sh.wd]
  rw [List.getD_eq_getElem?_getD, h]
  rfl
theorem Sh.turn_bits {a x : Nat} (k m : Nat) (ha : a < 2 ^ 64) (hx : x < 2 ^ 64) (hm : m < 64) : bits .or .u64 (a : Int) (IntKind.u64.wrap (bits .and .u64 ((x : Int) / 2 ^ k) 1 * 2 ^ m)) = ((a ||| (x / 2 ^ k % 2) * 2 ^ m : Nat) : Int) := by
  have h1 : (x : Int) / 2 ^ k = ((x / 2 ^ k : Nat) : Int) := by simp
  have h2 : x / 2 ^ k < 2 ^ 64 := Nat.lt_of_le_of_lt (Nat.div_le_self _ _) hx
  have h3 := Sh.bits_andu (x / 2 ^ k) 1 h2 (by decide)
  rw [show ((1 : Nat) : Int) = 1 from rfl, Nat.and_one_is_mod] at h3
  rw [h1, h3]
  have h4 : (x / 2 ^ k % 2) * 2 ^ m < 2 ^ 64 := by
    have : x / 2 ^ k % 2 ≤ 1 := by omega
    calc (x / 2 ^ k % 2) * 2 ^ m ≤ 1 * 2 ^ m := Nat.mul_le_mul_right _ this
      _ = 2 ^ m := Nat.one_mul _
      _ < 2 ^ 64 := Nat.pow_lt_pow_right (by decide) hm
  have h5 : ((x / 2 ^ k % 2 : Nat) : Int) * 2 ^ m = (((x / 2 ^ k % 2) * 2 ^ m : Nat) : Int) := by simp
  rw [h5, Sh.wrapu64 _ (by omega) (by omega)]
  exact Sh.bits_oru a _ ha h4

set_option maxHeartbeats 1000000 in
theorem turnedL_ok (v : Value) (base : Nat) (T : List Nat) (c : Nat) (w : World) (hn1 : 1 ≤ T.length) (hn : T.length ≤ 64) (hc : c ≤ 48) (hT : Sh.US T) (hv : w.ownsRow base 94 1 v T.length (Sh.nvl T)) :
    Calls Try.prog 81 #[v, .int .i64 c] w fun e w' => ∃ v', e = .returned v' ∧ w'.ownsRow w.heap.size 94 1 v' c (Sh.nvl (Sh.turnL T c)) ∧ Below w.heap.size w w' := by
  obtain ⟨i0, hi, hz0, hz1, hz2⟩ := info_parts Try.infoU64
  obtain ⟨g, cap, rfl, _, hgw, hcap, hcells⟩ := own_form hv hn1
  have HCC : Hid (∀ (wr : World), Below w.heap.size w wr → ∀ (j : Nat) (x : Nat), T[j]? = some x → wr.cell? ⟨g, j, none⟩ = some (.int .u64 (x : Int))) := fun wr hb j x hx => keepc hb hgw j (hcells j _ (Sh.nvl_get hx))
  have HTl : Hid (Sh.turnL T c = (List.range c).map fun i => Sh.wd T i T.length) := rfl
  rw [HTl.out]
  clear hcells hv HTl
  generalize hL : T.length = n at *
  have HL := hide hL
  clear hL
  go_enter Try.func81, Try.ntmps81
  go_wp2
  go_loopw [5, 6, 7, 8, 9, 12] (fun s _ _ _ _ i wr => ∃ k : Nat, k ≤ c ∧ i = .int .i64 k ∧ wr.ownsRow w.heap.size 94 1 s k (Sh.nvl ((List.range k).map fun i => Sh.wd T i n)) ∧ Below w.heap.size w wr) (fun _ _ _ _ _ i _ => c - (intOf i).toNat)
  case atStart => exact ⟨0, Nat.zero_le _, rfl, own_empty rfl (Nat.le_refl _), (Below.refl _ _).alloc (Nat.le_refl _) _⟩
  case round =>
    obtain ⟨k, hk, rfl, hown, hlow⟩ := hrel
    by_cases hlt : k < c
    · have hsz := hlow.size
      go_wp2
      go_loop [7, 8, 9, 17] (fun a _ _ i => ∃ m : Nat, m ≤ n ∧ i = .int .i64 m ∧ a = .int .u64 ((Sh.wd T k m : Nat) : Int)) (fun _ _ _ i => n - (intOf i).toNat)
      case atStart => exact ⟨0, Nat.zero_le _, rfl, rfl⟩
      case round =>
        obtain ⟨m, hm, rfl, rfl⟩ := hrel
        by_cases hlt2 : m < n
        · obtain ⟨x, hx⟩ : ∃ x, T[m]? = some x := ⟨_, List.getElem?_eq_getElem (by rw [HL.out]; exact hlt2)⟩
          have hck := HCC.out wr hlow m x hx
          have HWd := hide (Sh.wd_at (i := k) hx)
          have hgz : g < wr.heap.size := by omega
          have HB := hide (Sh.turn_bits (a := Sh.wd T k m) (x := x) k m (Nat.lt_of_lt_of_le (Sh.wd_lt T k m) (Nat.pow_le_pow_right (by decide) (by omega))) (hT.lt x (List.mem_of_getElem? hx)) (by omega))
          clear hx
          go_wp2
          refine ⟨⟨m + 1, by omega, by go_num, ?_⟩, by simp [intOf]; omega⟩
          rw [HB.out, HWd.out]
        · have hmn : m = n := by omega
          subst hmn
          have HSn : Hid (Sh.nvl ((List.range (k + 1)).map fun i => Sh.wd T i m) = Sh.nvl ((List.range k).map fun i => Sh.wd T i m) ++ [.int .u64 ((Sh.wd T k m : Nat) : Int)]) := by
            show _ = _
            rw [List.range_succ, List.map_append, List.map_singleton, Sh.nvl_snoc]
          generalize Sh.wd T k m = wk at *
          go_wp2_with (at_builtin; refine append1x _ rfl (.tmp 33) (.tmp 35) 83 rfl w.heap.size 94 i0 (.int .u64 0) 1 8 Try.underlying83 hi hz0 hz1 hz2 rfl (by decide) (by decide) _ _ _ _ rfl hown rfl rfl (by simp; rfl) (by omega) (by omega) ?_; intro v' w2 hown2 hb2 hg2 hf2)
          go_roundw
          case rel => exact ⟨k + 1, by omega, by go_num, by rw [HSn.out]; exact hown2, hlow.trans hb2⟩
          case measure => simp [intOf]; omega
    · have hkc : k = c := by omega
      subst hkc
      go_wp2
      go_ret
      exact ⟨_, rfl, hown, hlow⟩
end Go.Proofs.Ythhbpofcemoflab
