import Derived.Test.YthhbpofcemoflabGg
import Derived.Test.YthhbpofcemoflabGa
namespace Go.Proofs.Ythhbpofcemoflab
open Go.RowKit
set_option maxRecDepth 20000

set_option maxHeartbeats 400000 in
theorem good_any (d K : Nat) (kind M N gd : Int) (i : Int) (w : World) (h1 : 1 ≤ d) (h4 : d ≤ 4) (hK : 1 ≤ K) (hK' : K ≤ 10) (hM : 0 ≤ M) (hM' : M ≤ 10) :
    Calls Try.prog 86 #[.agg #[.int .i64 d, .int .i64 (Sh.mod d)], .agg #[.int .i64 kind, .int .i64 K, .int .i64 M, .int .i64 N, .int .i64 gd], .int .i64 i] w
      fun e w' => ∃ v, e = .returned v ∧ w'.ownsRow w.heap.size 3 1 v K ((Sh.good d (Sh.mod d) M i K).map (Value.int .i64)) ∧ Below w.heap.size w w' := by
  have HE : Hid (∀ w : World, Calls Try.prog 85 #[.agg #[.int .i64 d, .int .i64 (Sh.mod d)], .agg #[.int .i64 kind, .int .i64 K, .int .i64 M, .int .i64 N, .int .i64 gd], .int .i64 i] w
      fun e w' => ∃ v, e = .returned v ∧ w'.ownsRow w.heap.size 3 1 v K ((Sh.ces d (Sh.mod d) M i K).map (Value.int .i64)) ∧ Below w.heap.size w w') := fun w => ces_any d K kind M N gd i w h1 h4 hK hK' hM hM'
  have HT : Hid (∀ (a b : Int) (w : World), Sh.In d a → Calls Try.prog 93 #[.agg #[.int .i64 d, .int .i64 (Sh.mod d)], .int .i64 a, .int .i64 b] w fun e w' => e = .returned (.int .i64 (Sh.times d (Sh.mod d) a b)) ∧ Below w.heap.size w w') := fun a b w h => times_any d a b w h1 h4 h
  have HL : Hid (∀ (v : Value) (base : Nat) (w : World), w.ownsRow base 3 1 v K ((Sh.goodRow d (Sh.mod d) M i K).map (Value.int .i64)) → Calls Try.prog 94 #[.agg #[.int .i64 d, .int .i64 (Sh.mod d)], v] w
      fun e w' => ∃ v', e = .returned v' ∧ w'.ownsRow w.heap.size 3 1 v' K ((Sh.lightest d (Sh.mod d) (Sh.goodRow d (Sh.mod d) M i K)).map (Value.int .i64)) ∧ Below w.heap.size w w') := fun v base w h => by
    have := light_any d v base (Sh.goodRow d (Sh.mod d) M i K) w h1 h4 (by rw [Sh.goodRow_len]; exact hK) (by rw [Sh.goodRow_len]; exact hK') (by rw [Sh.goodRow_len]; exact h)
    rw [Sh.goodRow_len] at this
    exact this
  have HIn : Hid (∀ x ∈ Sh.ces d (Sh.mod d) M i K, Sh.In d x) := Sh.in_ces M i K
  generalize hm : Sh.mod d = m at *
  clear hm
  obtain ⟨i0, hi, hz0, hz1, hz2⟩ := info_parts Try.infoInt
  go_enter Try.func86, Try.ntmps86
  go_wp2_with (go_at_call 85; refine (HE.out _).mono ?_; rintro e w1 ⟨v1, rfl, hown1, hb1⟩; obtain ⟨g, cap, hv1, hgb, hg, hcap, hcells⟩ := own_form hown1 hK; rw [hv1])
  have hgb' : w.heap.size + 2 < g := by simp at hgb; omega
  have HCC : Hid (∀ (j : Nat) (x : Int), (Sh.ces d m M i K)[j]? = some x → w1.cell? ⟨g, j, none⟩ = some (.int .i64 x)) := int_cells hcells
  have hbl0 : Below (w.heap.size + 2) ((w.alloc (.cells #[.int .i64 d, .int .i64 m] 129)).alloc (.cells #[.int .i64 kind, .int .i64 K, .int .i64 M, .int .i64 N, .int .i64 gd] 25)) w1 := ((Below.refl _ _).alloc (by simp) _).trans (hb1.mono (by simp))
  have hown0 : w1.ownsRow (w.heap.size + 2) 3 1 (.slice (some ⟨w.heap.size + 1 + 1, 0, none⟩) 0 0) 0 [] := own_below (own_empty (by simp) (by omega)) hb1
  have hw1 : w.heap.size + 3 ≤ w1.heap.size := by have := hb1.size; simp at this; omega
  clear hown1 hv1 hcells hgb hb1
  go_loopw [7, 8, 9, 10, 17] (fun v _ _ _ i' wr => ∃ k : Nat, k ≤ K ∧ i' = .int .i64 k ∧ wr.ownsRow (w.heap.size + 2) 3 1 v k ((Sh.goodRow d m M i k).map (Value.int .i64)) ∧ (∀ q, v.ownBlock = some q → q ≠ g) ∧ wr.heap[g]? = w1.heap[g]? ∧
     Below (w.heap.size + 2) ((w.alloc (.cells #[.int .i64 d, .int .i64 m] 129)).alloc (.cells #[.int .i64 kind, .int .i64 K, .int .i64 M, .int .i64 N, .int .i64 gd] 25)) wr) (fun _ _ _ _ i _ => K - (intOf i).toNat)
  case atStart => exact ⟨0, Nat.zero_le _, rfl, hown0, by intro q hq; simp [Value.ownBlock] at hq; omega, rfl, hbl0⟩
  case round =>
    obtain ⟨k, hk, rfl, hown, hne, hgg, hbl⟩ := hrel
    have hc0 := box_cell2 hbl (by simp) 0 rfl
    have hc1 := box_cell2 hbl (by simp) 1 rfl
    have hd2 := box_cell2b hbl (by simp) 2 rfl
    have hsz := box_size2 hbl
    have hgr : g < wr.heap.size := by
      have := World.block_lt_of_cell? wr ⟨g, 0, none⟩ (((World.cell?_of_block (w := w1) (w' := wr) (a := ⟨g, 0, none⟩) hgg)).trans (HCC.out 0 _ (List.getElem?_eq_getElem (by rw [Sh.ces_len]; omega))))
      exact this
    clear hown0 hbl0
    by_cases hlt : k < K
    · have hlx : k < (Sh.ces d m M i K).length := by rw [Sh.ces_len]; exact hlt
      have hck : wr.cell? ⟨g, k, none⟩ = some (.int .i64 (Sh.ces d m M i K)[k]) := (World.cell?_of_block (w := w1) (w' := wr) (a := ⟨g, k, none⟩) hgg).trans (HCC.out k _ (List.getElem?_eq_getElem hlx))
      have hin := HIn.out (Sh.ces d m M i K)[k] (List.getElem_mem _)
      have HG : Hid (Sh.goodRow d m M i (k + 1) = Sh.goodRow d m M i k ++ [Sh.times d m (Sh.ces d m M i K)[k] (M + (k : Int))]) := by
        show _ = _
        rw [Sh.goodRow_succ]
        congr 4
        simp [Sh.ces]
      generalize hx0 : (Sh.ces d m M i K)[k] = x0 at *
      clear hx0
      go_wp2_with (first | (go_at_call 93; refine (HT.out _ _ _ hin).mono ?_; rintro e w2 ⟨rfl, hb2⟩; have hown1 := own_below hown hb2; have hs1 := hb2.size) | (at_builtin; refine append1x _ rfl (.tmp 29) (.tmp 31) 63 rfl (w.heap.size + 2) 3 i0 (.int .i64 0) 1 8 Try.underlying63 hi hz0 hz1 hz2 rfl (by decide) (by decide) _ _ _ _ rfl hown1 rfl rfl (by simp; rfl) (by omega) (by omega) ?_; intro v' w3 hown2 hb3 hg3 hf3))
      go_roundw
      case rel =>
        refine ⟨k + 1, by omega, by go_num, by rw [HG.out, List.map_append]; exact hown2, ?_, ?_, (hbl.trans (hb2.mono (by omega))).trans hb3⟩
        · intro q hq
          rcases hf3 q hq with h | h
          · exact hne q h
          · omega
        · refine (hg3.block g (by omega) ?_).trans ((hb2.block g hgr).trans hgg)
          intro h
          exact hne g h.symm rfl
      case measure => simp [intOf]; omega
    · have hkd : k = K := by omega
      subst hkd
      by_cases hi0 : i = 0
      · have hib : (i == 0) = true := by simp [hi0]
        have Hi0 : Hid (i = 0) := hi0
        clear hi0
        go_wp2
        go_ret
        exact ⟨_, rfl, by rw [Sh.good, if_pos hib]; exact own_mono hown (by omega), (((Below.refl _ _).alloc (Nat.le_refl _) _).alloc (by simp) _).trans (hbl.mono (by omega))⟩
      · have hib : (i == 0) = false := by simp [hi0]
        go_wp2_with (go_at_call 94; refine (HL.out _ _ _ hown).mono ?_; rintro e w2 ⟨v2, rfl, hown2, hb2⟩)
        go_ret
        exact ⟨_, rfl, by rw [Sh.good, if_neg (by simp [hib])]; exact own_mono hown2 (by omega), ((((Below.refl _ _).alloc (Nat.le_refl _) _).alloc (by simp) _).trans (hbl.mono (by omega))).trans (hb2.mono (by omega))⟩

theorem pow4 {d : Nat} (h4 : d ≤ 4) : (2 : Int) ^ d ≤ 16 := by
  rcases (by omega : d = 0 ∨ d = 1 ∨ d = 2 ∨ d = 3 ∨ d = 4) with rfl | rfl | rfl | rfl | rfl <;> decide

set_option maxHeartbeats 1000000 in
theorem cpar_any (d K M : Nat) (kind gd : Int) (w : World) (h1 : 1 ≤ d) (h4 : d ≤ 4) (hK : 1 ≤ K) (hM : 1 ≤ M) (hMK10 : M + K ≤ 10) (hMK : (M : Int) + K ≤ 2 ^ d) :
    Calls Try.prog 70 #[.agg #[.int .i64 kind, .int .i64 K, .int .i64 M, .int .i64 d, .int .i64 gd]] w
      fun e w' => ∃ v, e = .returned v ∧ w'.ownsRow w.heap.size 94 1 v (M * d) ((Sh.cpar d (Sh.mod d) M K gd M).map (Value.int .u64)) ∧ Below w.heap.size w w' := by
  have HOf : Hid (∀ w : World, Calls Try.prog 84 #[.int .i64 d] w fun e w' => e = .returned (.agg #[.int .i64 d, .int .i64 (Sh.mod d)]) ∧ Below w.heap.size w w') := fun w => of_any d w h1 h4
  have HC : Hid (∀ (i : Int) (w : World), Calls Try.prog 85 #[.agg #[.int .i64 d, .int .i64 (Sh.mod d)], .agg #[.int .i64 kind, .int .i64 K, .int .i64 M, .int .i64 d, .int .i64 gd], .int .i64 i] w
      fun e w' => ∃ v, e = .returned v ∧ w'.ownsRow w.heap.size 3 1 v K ((Sh.ces d (Sh.mod d) M i K).map (Value.int .i64)) ∧ Below w.heap.size w w') := fun i w => ces_any d K kind M d gd i w h1 h4 hK (by omega) (by omega) (by omega)
  have HG : Hid (∀ (i : Int) (w : World), Calls Try.prog 86 #[.agg #[.int .i64 d, .int .i64 (Sh.mod d)], .agg #[.int .i64 kind, .int .i64 K, .int .i64 M, .int .i64 d, .int .i64 gd], .int .i64 i] w
      fun e w' => ∃ v, e = .returned v ∧ w'.ownsRow w.heap.size 3 1 v K ((Sh.good d (Sh.mod d) M i K).map (Value.int .i64)) ∧ Below w.heap.size w w') := fun i w => good_any d K kind M d gd i w h1 h4 hK (by omega) (by omega) (by omega)
  have HB : Hid (∀ (i : Int) (v : Value) (base : Nat) (r : Nat) (w : World), r ≤ 3 → w.ownsRow base 3 1 v K ((Sh.els d (Sh.mod d) M i K gd).map (Value.int .i64)) →
    Calls Try.prog 87 #[.agg #[.int .i64 d, .int .i64 (Sh.mod d)], .int .i64 d, v, .int .i64 r] w
      fun e w' => e = .returned (.int .u64 (Sh.bitRow d (Sh.mod d) d r (Sh.els d (Sh.mod d) M i K gd))) ∧ Below w.heap.size w w') := fun i v base r w hr h =>
    bit_any d v base (Sh.els d (Sh.mod d) M i K gd) r w h1 h4 hr (by rw [Sh.els_len]; exact hK) (by rw [Sh.els_len]; omega) (Sh.in_els h1 h4 M i K gd (by omega) hMK) (by rw [Sh.els_len]; exact h)
  have HLn : Hid (∀ k, (Sh.cpar d (Sh.mod d) M K gd k).length = k * d) := Sh.cpar_len d (Sh.mod d) M K gd
  clear hMK
  generalize hm : Sh.mod d = m at *
  clear hm
  obtain ⟨i0, hi, hz0, hz1, hz2⟩ := info_parts Try.infoU64
  go_enter Try.func70, Try.ntmps70
  go_wp2_with (go_at_call 84; refine (HOf.out _).mono ?_; rintro e w1 ⟨rfl, hb1⟩; have hk1 := box_cell hb1 (by simp) 1 rfl; have hk2 := box_cell hb1 (by simp) 2 rfl; have hk3 := box_cell hb1 (by simp) 3 rfl; have hk4 := box_cell hb1 (by simp) 4 rfl; have hk0 := box_cell hb1 (by simp) 0 rfl; have hs1 := box_size hb1)
  have hbl0 : Below (w1.heap.size + 1) (w1.alloc (.cells #[.int .i64 d, .int .i64 m] 129)) ((w1.alloc (.cells #[.int .i64 d, .int .i64 m] 129)).alloc (.cells #[] 94)) := (Below.refl _ _).alloc (by simp) _
  have hbw : Below w.heap.size w w1 := ((Below.refl _ _).alloc (Nat.le_refl _) _).trans (hb1.mono (by simp))
  clear hb1
  go_loopw [4, 5, 6, 7, 8, 15] (fun s _ _ _ _ i' wr => ∃ k : Nat, k ≤ M ∧ i' = .int .i64 k ∧ wr.ownsRow (w1.heap.size + 1) 94 1 s (k * d) ((Sh.cpar d m M K gd k).map (Value.int .u64)) ∧ Below (w1.heap.size + 1) (w1.alloc (.cells #[.int .i64 d, .int .i64 m] 129)) wr) (fun _ _ _ _ _ i _ => M - (intOf i).toNat)
  case atStart => exact ⟨0, Nat.zero_le _, rfl, by simp only [Nat.zero_mul]; exact own_empty (by simp) (by omega), hbl0⟩
  case round =>
    obtain ⟨k, hk, rfl, hown, hbl⟩ := hrel
    clear hbl0
    have hf0 := box_cell hbl (by simp) 0 rfl
    have hf1 := box_cell hbl (by simp) 1 rfl
    have hsz := box_size hbl
    have hol : ∀ j, wr.cell? ⟨w.heap.size, j, none⟩ = w1.cell? ⟨w.heap.size, j, none⟩ := fun j => (hbl.cell (p := ⟨w.heap.size, j, none⟩) (by simp; omega)).trans (World.cell?_of_block (Below.heap_alloc _ _ _ hs1))
    have hwz : w.heap.size < wr.heap.size := by omega
    have hr0 := (hol 0).trans hk0
    have hr1 := (hol 1).trans hk1
    have hr2 := (hol 2).trans hk2
    have hr3 := (hol 3).trans hk3
    have hr4 := (hol 4).trans hk4
    clear hol
    by_cases hlt : k < M
    · have hkd : k * d ≤ 40 := by
        have : k * d ≤ 10 * 4 := Nat.mul_le_mul (by omega) h4
        omega
      by_cases hgd : gd = 1
      · have hgb : (gd == 1) = true := by simp [hgd]
        have Hgd : Hid (gd = 1) := hgd
        clear hgd
        go_wp2_with (first | (go_at_call 85; refine (HC.out _ _).mono ?_; rintro e w2 ⟨v2, rfl, hown2, hb2⟩; have hq0 := (hb2.cell (p := ⟨w.heap.size, 0, none⟩) hwz).trans hr0; have hq1 := (hb2.cell (p := ⟨w.heap.size, 1, none⟩) hwz).trans hr1; have hq2 := (hb2.cell (p := ⟨w.heap.size, 2, none⟩) hwz).trans hr2; have hq3 := (hb2.cell (p := ⟨w.heap.size, 3, none⟩) hwz).trans hr3; have hq4 := (hb2.cell (p := ⟨w.heap.size, 4, none⟩) hwz).trans hr4; have hqf0 := (hb2.cell (p := ⟨w1.heap.size, 0, none⟩) hsz).trans hf0; have hqf1 := (hb2.cell (p := ⟨w1.heap.size, 1, none⟩) hsz).trans hf1; have hs2 := hb2.size; have hwz2 := Nat.lt_of_lt_of_le hwz hs2) | (go_at_call 86; refine (HG.out _ _).mono ?_; rintro e w3 ⟨v3, rfl, hown3, hb3⟩; have hp3 := (hb3.cell (p := ⟨w.heap.size, 3, none⟩) hwz2).trans hq3))
        have hel : w3.ownsRow (w1.heap.size + 1) 3 1 v3 K ((Sh.els d m M k K gd).map (Value.int .i64)) := by rw [Sh.els, if_pos hgb]; exact own_mono hown3 (by omega)
        have hsu : w3.ownsRow (w1.heap.size + 1) 94 1 u4 (k * d) ((Sh.cpar d m M K gd k).map (Value.int .u64)) := own_below (own_below hown hb2) hb3
        have hbw3 : Below (w1.heap.size + 1) (w1.alloc (.cells #[.int .i64 d, .int .i64 m] 129)) w3 := (hbl.trans (hb2.mono (by omega))).trans (hb3.mono (by omega))
        clear hown hown2 hb2 hown3 hb3
        go_loopw [4, 7, 8, 31] (fun s _ _ i' wq => ∃ r : Nat, r ≤ d ∧ i' = .int .i64 r ∧ wq.ownsRow (w1.heap.size + 1) 94 1 s (k * d + r) ((Sh.cpar d m M K gd k ++ Sh.cpRow d m M k K gd r).map (Value.int .u64)) ∧ wq.ownsRow (w1.heap.size + 1) 3 1 v3 K ((Sh.els d m M k K gd).map (Value.int .i64)) ∧ Below (w1.heap.size + 1) (w1.alloc (.cells #[.int .i64 d, .int .i64 m] 129)) wq) (fun _ _ _ i _ => d - (intOf i).toNat)
        case atStart => exact ⟨0, Nat.zero_le _, rfl, by simpa [Sh.cpRow] using hsu, hel, hbw3⟩
        case round =>
          obtain ⟨r, hr, rfl, hown, hels, hbq⟩ := hrel
          clear hsu hel hbw3
          have hf0 := box_cell hbq (by simp) 0 rfl
          have hf1 := box_cell hbq (by simp) 1 rfl
          have hszq := box_size hbq
          have hol : ∀ j, wr.cell? ⟨w.heap.size, j, none⟩ = w1.cell? ⟨w.heap.size, j, none⟩ := fun j => (hbq.cell (p := ⟨w.heap.size, j, none⟩) (by simp; omega)).trans (World.cell?_of_block (Below.heap_alloc _ _ _ hs1))
          have hq3 := (hol 3).trans hk3
          clear hol
          by_cases hlr : r < d
          · go_wp2_with (first | (go_at_call 87; refine (HB.out _ _ _ _ _ (by omega) hels).mono ?_; rintro e w4 ⟨rfl, hb4⟩; have hs4 := hb4.size; have hown4 := own_below hown hb4; have hels4 := own_below hels hb4) | (at_builtin; refine append1x _ rfl (.tmp 40) (.tmp 42) 83 rfl (w1.heap.size + 1) 94 i0 (.int .u64 0) 1 8 Try.underlying83 hi hz0 hz1 hz2 rfl (by decide) (by decide) _ _ _ _ rfl hown4 rfl rfl (by simp; rfl) (by omega) (by omega) ?_; intro v5 w5 hown5 hb5 hg5 hf5))
            go_roundw
            case rel => exact ⟨r + 1, by omega, by go_num, by rw [Sh.cpRow_succ, ← List.append_assoc, List.map_append]; exact hown5, hels4.kept hg5 (own_ne hels4 hown4 (by decide)), (hbq.trans (hb4.mono (by omega))).trans hb5⟩
            case measure => simp [intOf]; omega
          · have hrd : r = d := by omega
            subst hrd
            go_wp2
            go_roundw
            case rel => exact ⟨k + 1, by omega, by go_num, by rw [Nat.add_mul, Nat.one_mul]; exact hown, hbq⟩
            case measure => simp [intOf]; omega
      · have hgb : (gd == 1) = false := by simp [hgd]
        go_wp2_with (go_at_call 85; refine (HC.out _ _).mono ?_; rintro e w2 ⟨v2, rfl, hown2, hb2⟩; have hq3 := (hb2.cell (p := ⟨w.heap.size, 3, none⟩) hwz).trans hr3; have hq4 := (hb2.cell (p := ⟨w.heap.size, 4, none⟩) hwz).trans hr4; have hs2 := hb2.size)
        have hel : w2.ownsRow (w1.heap.size + 1) 3 1 v2 K ((Sh.els d m M k K gd).map (Value.int .i64)) := by rw [Sh.els, if_neg (by simp [hgb])]; exact own_mono hown2 (by omega)
        have hsu : w2.ownsRow (w1.heap.size + 1) 94 1 u4 (k * d) ((Sh.cpar d m M K gd k).map (Value.int .u64)) := own_below hown hb2
        have hbw3 : Below (w1.heap.size + 1) (w1.alloc (.cells #[.int .i64 d, .int .i64 m] 129)) w2 := hbl.trans (hb2.mono (by omega))
        clear hown hown2 hb2 
        go_loopw [4, 7, 8, 31] (fun s _ _ i' wq => ∃ r : Nat, r ≤ d ∧ i' = .int .i64 r ∧ wq.ownsRow (w1.heap.size + 1) 94 1 s (k * d + r) ((Sh.cpar d m M K gd k ++ Sh.cpRow d m M k K gd r).map (Value.int .u64)) ∧ wq.ownsRow (w1.heap.size + 1) 3 1 v2 K ((Sh.els d m M k K gd).map (Value.int .i64)) ∧ Below (w1.heap.size + 1) (w1.alloc (.cells #[.int .i64 d, .int .i64 m] 129)) wq) (fun _ _ _ i _ => d - (intOf i).toNat)
        case atStart => exact ⟨0, Nat.zero_le _, rfl, by simpa [Sh.cpRow] using hsu, hel, hbw3⟩
        case round =>
          obtain ⟨r, hr, rfl, hown, hels, hbq⟩ := hrel
          clear hsu hel hbw3
          have hf0 := box_cell hbq (by simp) 0 rfl
          have hf1 := box_cell hbq (by simp) 1 rfl
          have hszq := box_size hbq
          have hol : ∀ j, wr.cell? ⟨w.heap.size, j, none⟩ = w1.cell? ⟨w.heap.size, j, none⟩ := fun j => (hbq.cell (p := ⟨w.heap.size, j, none⟩) (by simp; omega)).trans (World.cell?_of_block (Below.heap_alloc _ _ _ hs1))
          have hq3 := (hol 3).trans hk3
          clear hol
          by_cases hlr : r < d
          · go_wp2_with (first | (go_at_call 87; refine (HB.out _ _ _ _ _ (by omega) hels).mono ?_; rintro e w4 ⟨rfl, hb4⟩; have hs4 := hb4.size; have hown4 := own_below hown hb4; have hels4 := own_below hels hb4) | (at_builtin; refine append1x _ rfl (.tmp 40) (.tmp 42) 83 rfl (w1.heap.size + 1) 94 i0 (.int .u64 0) 1 8 Try.underlying83 hi hz0 hz1 hz2 rfl (by decide) (by decide) _ _ _ _ rfl hown4 rfl rfl (by simp; rfl) (by omega) (by omega) ?_; intro v5 w5 hown5 hb5 hg5 hf5))
            go_roundw
            case rel => exact ⟨r + 1, by omega, by go_num, by rw [Sh.cpRow_succ, ← List.append_assoc, List.map_append]; exact hown5, hels4.kept hg5 (own_ne hels4 hown4 (by decide)), (hbq.trans (hb4.mono (by omega))).trans hb5⟩
            case measure => simp [intOf]; omega
          · have hrd : r = d := by omega
            subst hrd
            go_wp2
            go_roundw
            case rel => exact ⟨k + 1, by omega, by go_num, by rw [Nat.add_mul, Nat.one_mul]; exact hown, hbq⟩
            case measure => simp [intOf]; omega
    · have hkd : k = M := by omega
      subst hkd
      go_wp2
      go_ret
      exact ⟨_, rfl, own_mono hown (by have := hbw.size; omega), hbw.trans ((((Below.refl _ _).alloc (Nat.le_refl _) _).trans (hbl.mono (by omega))).mono (by have := hbw.size; omega))⟩
end Go.Proofs.Ythhbpofcemoflab
