import Derived.Test.YtfnfnmonnfcpeabW3
import Derived.Test.YtfnfnmonnfcpeabPure2
namespace Go.Proofs.Ytfnfnmonnfcpeab
open Go.RowKit
set_option maxRecDepth 20000

theorem Try.infoInt : (Try.prog.info? 3).map (fun i => (i.zero, i.size, i.bytes)) = some (some (.int .i64 0), 1, 8) := by kernel_rfl
theorem Try.infoU64 : (Try.prog.info? 89).map (fun i => (i.zero, i.size, i.bytes)) = some (some (.int .u64 0), 1, 8) := by kernel_rfl

set_option maxHeartbeats 400000 in
theorem ces_any (d K : Nat) (kind M N good i : Int) (w : World) (h1 : 1 ≤ d) (h4 : d ≤ 4) (hK : 1 ≤ K) (hK' : K ≤ 10) (hM : 0 ≤ M) (hM' : M ≤ 10) :
    Calls Try.prog 66 #[.agg #[.int .i64 d, .int .i64 (Sh.mod d)], .agg #[.int .i64 kind, .int .i64 K, .int .i64 M, .int .i64 N, .int .i64 good], .int .i64 i] w
      fun e w' => ∃ v, e = .returned v ∧ w'.ownsRow w.heap.size 3 1 v K ((Sh.ces d (Sh.mod d) M i K).map (Value.int .i64)) ∧ Below w.heap.size w w' := by
  have Ho := over_any d
  have HO : Hid (∀ (a b : Int) (w : World), 1 ≤ d → d ≤ 4 → Calls Try.prog 71 #[.agg #[.int .i64 d, .int .i64 (Sh.mod d)], .int .i64 a, .int .i64 b] w fun e w' => e = .returned (.int .i64 (Sh.over d (Sh.mod d) a b)) ∧ Below w.heap.size w w') := Ho
  clear Ho
  generalize hm : Sh.mod d = m at *
  clear hm
  obtain ⟨i0, hi, hz0, hz1, hz2⟩ := info_parts Try.infoInt
  go_enter Try.func66, Try.ntmps66
  go_wp2
  go_loopw [7, 9, 13] (fun v _ i' wr => ∃ k : Nat, k ≤ K ∧ i' = .int .i64 k ∧ wr.ownsRow (w.heap.size + 2) 3 1 v k ((Sh.ces d m M i k).map (Value.int .i64)) ∧
     Below (w.heap.size + 2) ((w.alloc (.cells #[.int .i64 d, .int .i64 m] 109)).alloc (.cells #[.int .i64 kind, .int .i64 K, .int .i64 M, .int .i64 N, .int .i64 good] 25)) wr) (fun _ _ i _ => K - (intOf i).toNat)
  case atStart =>
    refine ⟨0, Nat.zero_le _, rfl, ?_, (Below.refl _ _).alloc (by simp) _⟩
    exact own_empty (by simp) (by omega)
  case round =>
    obtain ⟨k, hk, rfl, hown, hbl⟩ := hrel
    have hc0 := box_cell2 hbl (by simp) 0 rfl
    have hc1 := box_cell2 hbl (by simp) 1 rfl
    have hd1 := box_cell2b hbl (by simp) 1 rfl
    have hd2 := box_cell2b hbl (by simp) 2 rfl
    have hsz := box_size2 hbl
    by_cases hlt : k < K
    · go_wp2_with (first | (go_at_call 71; refine (HO.out _ _ _ h1 h4).mono ?_; rintro e w1 ⟨rfl, hb1⟩; have hown1 := own_below hown hb1; have hs1 := hb1.size) | (at_builtin; refine append1 _ rfl (.tmp 24) (.tmp 26) 63 rfl (w.heap.size + 2) 3 i0 (.int .i64 0) 8 Try.underlying63 hi hz0 hz1 hz2 rfl (by decide) _ _ _ _ rfl hown1 rfl rfl (by omega) (by omega) ?_; intro v' w2 hown2 hb2))
      go_roundw
      case rel => exact ⟨k + 1, by omega, by go_num, by rw [Sh.ces_succ, List.map_append]; exact hown2, (hbl.trans (hb1.mono (by omega))).trans hb2⟩
      case measure => simp [intOf]; omega
    · have hkd : k = K := by omega
      subst hkd
      go_wp2
      go_ret
      exact ⟨_, rfl, own_mono hown (by omega), (((Below.refl _ _).alloc (Nat.le_refl _) _).alloc (by simp) _).trans (hbl.mono (by omega))⟩

end Go.Proofs.Ytfnfnmonnfcpeab
