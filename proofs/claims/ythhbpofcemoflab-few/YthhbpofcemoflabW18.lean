import Derived.Test.YthhbpofcemoflabGh
import Derived.Test.YthhbpofcemoflabGj
namespace Go.Proofs.Ythhbpofcemoflab
open Go.RowKit
set_option maxRecDepth 20000

theorem Sh.Ok.bounds {kind : Int} {K M : Nat} {N gd : Int} (h : Sh.Ok kind K M N gd) : 1 ≤ K ∧ 1 ≤ M ∧ M + K ≤ 10 ∧ 1 ≤ Sh.R kind N ∧ Sh.R kind N ≤ 6 ∧ K * Sh.R kind N ≤ 48 ∧ M * Sh.R kind N ≤ 40 ∧ (Sh.parity kind K M N gd).length = M * Sh.R kind N := by
  rcases h.tab with ⟨h0, d, hd, h'⟩ | ⟨h0, n1, hn, h'⟩
  · obtain ⟨_, _, h1, h4, hK, hM, h10, hp, _⟩ := h'
    rw [Sh.parity, if_pos h0, Sh.R, if_pos h0, hd, Int.toNat_natCast]
    have a : K * d ≤ 9 * 4 := Nat.mul_le_mul (by omega) h4
    have b : M * d ≤ 9 * 4 := Nat.mul_le_mul (by omega) h4
    exact ⟨hK, hM, h10, h1, by omega, by omega, by omega, Sh.cpar_len _ _ _ _ _ _⟩
  · obtain ⟨_, hK, h10, hN, hk⟩ := h'
    have hR : (N - 1).toNat = n1 := by omega
    rw [Sh.parity, if_neg h0, Sh.R, if_neg h0, hR]
    have a : K * n1 ≤ 7 * 6 := Nat.mul_le_mul (by omega) (by omega)
    have b : M * n1 ≤ 3 * 6 := Nat.mul_le_mul (by omega) (by omega)
    exact ⟨hK, by omega, h10, by omega, by omega, by omega, by omega, Sh.tpar_len kind n1 K M (by split <;> omega)⟩

/-- the sums of the parity -/
def Sh.pn (kind : Int) (K M : Nat) (N gd : Int) : List Nat := (Sh.parity kind K M N gd).map Int.toNat
theorem Sh.pn_int {kind : Int} {K M : Nat} {N gd : Int} (h : Sh.Ok kind K M N gd) : (Sh.pn kind K M N gd).map Int.ofNat = Sh.parity kind K M N gd := by
  unfold Sh.pn
  rw [List.map_map]
  conv => rhs; rw [← List.map_id (Sh.parity kind K M N gd)]
  apply List.map_congr_left
  intro s hs
  have := (h.pb s hs).1
  simp only [Function.comp, id]
  exact Int.toNat_of_nonneg this
theorem Sh.pn_nvl {kind : Int} {K M : Nat} {N gd : Int} (h : Sh.Ok kind K M N gd) : (Sh.parity kind K M N gd).map (Value.int .u64) = Sh.nvl (Sh.pn kind K M N gd) := by
  conv => lhs; rw [← Sh.pn_int h]
  rw [List.map_map]
  rfl
theorem Sh.pn_lt {kind : Int} {K M : Nat} {N gd : Int} (h : Sh.Ok kind K M N gd) : ∀ s ∈ Sh.pn kind K M N gd, s < 2 ^ (K * Sh.R kind N) := by
  intro s hs
  obtain ⟨x, hx, rfl⟩ := List.mem_map.1 hs
  have h1 := h.pb x hx
  have h2 : (x.toNat : Int) < ((2 ^ (K * Sh.R kind N) : Nat) : Int) := by
    rw [Int.toNat_of_nonneg h1.1]
    have := h1.2
    simpa using this
  exact_mod_cast h2
theorem Sh.pn_len {kind : Int} {K M : Nat} {N gd : Int} (h : Sh.Ok kind K M N gd) : (Sh.pn kind K M N gd).length = M * Sh.R kind N := by
  have := h.bounds
  unfold Sh.pn
  rw [List.length_map]
  exact this.2.2.2.2.2.2.2
/-- a program of a level: its registers besides, its operations -/
def Sh.prog (kind : Int) (K M : Nat) (N gd lev scr : Int) : List (Int × Int × Int) := (Sh.opt lev scr (K * Sh.R kind N) (Sh.pn kind K M N gd)).2
def Sh.prz (kind : Int) (K M : Nat) (N gd lev scr : Int) : Nat := (Sh.opt lev scr (K * Sh.R kind N) (Sh.pn kind K M N gd)).1
theorem Sh.prog_good {kind : Int} {K M : Nat} {N gd : Int} (h : Sh.Ok kind K M N gd) (lev scr : Int) : Sh.Good (K * Sh.R kind N) (Sh.pn kind K M N gd) (Sh.prz kind K M N gd lev scr) (Sh.prog kind K M N gd lev scr) := by
  obtain ⟨hK, hM, h10, hR1, hR2, hKR, hMR, hPL⟩ := h.bounds
  exact Sh.opt_good lev scr (Nat.mul_pos hK hR1) hKR (Sh.pn_lt h) (by rw [Sh.pn_len h]; exact Nat.mul_pos hM hR1) (by rw [Sh.pn_len h]; exact hMR)

set_option maxHeartbeats 4000000 in
theorem programOf_gen (cb : Nat) (kind : Int) (K M : Nat) (N gd lev scr q : Int) (S : List Nat) (w : World) (h : Sh.Ok kind K M N gd) (hcb : cb < w.heap.size)
    (c0 : w.cell? ⟨cb, 0, none⟩ = some (.int .i64 kind)) (c1 : w.cell? ⟨cb, 1, none⟩ = some (.int .i64 K)) (c2 : w.cell? ⟨cb, 2, none⟩ = some (.int .i64 M)) (c3 : w.cell? ⟨cb, 3, none⟩ = some (.int .i64 N)) (c4 : w.cell? ⟨cb, 4, none⟩ = some (.int .i64 gd)) (c5 : w.cell? ⟨cb, 5, none⟩ = some (.int .i64 lev)) (c6 : w.cell? ⟨cb, 6, none⟩ = some (.int .i64 scr))
    (hL1 : 1 ≤ S.length) (hL2 : S.length ≤ 40) (hS : ∀ s ∈ S, s < 2 ^ (K * Sh.R kind N))
    (hq0 : q = 0 → ∀ w : World, Calls Try.prog 60 #[.agg #[.int .i64 kind, .int .i64 K, .int .i64 M, .int .i64 N, .int .i64 gd]] w fun e w' => ∃ v, e = .returned v ∧ w'.ownsRow w.heap.size 94 1 v S.length (Sh.nvl S) ∧ Below w.heap.size w w')
    (hq1 : q ≠ 0 → ∀ w : World, Calls Try.prog 66 #[.agg #[.int .i64 kind, .int .i64 K, .int .i64 M, .int .i64 N, .int .i64 gd], .int .i64 q] w fun e w' => ∃ v, e = .returned v ∧ w'.ownsRow w.heap.size 94 1 v S.length (Sh.nvl S) ∧ Below w.heap.size w w') :
    Calls Try.prog 57 #[.pointer (some ⟨cb, 0, none⟩), .int .i64 q] w fun e w' => ∃ vo, e = .returned (.agg #[.int .i64 ((K * Sh.R kind N : Nat) : Int), .int .i64 (S.length : Int), .int .i64 ((Sh.opt lev scr (K * Sh.R kind N) S).1 : Int), vo]) ∧
      w'.ownsRow w.heap.size 98 3 vo (Sh.opt lev scr (K * Sh.R kind N) S).2.length (Sh.opCells (Sh.opt lev scr (K * Sh.R kind N) S).2) ∧ Below w.heap.size w w' := by
  obtain ⟨hK, hM, h10, hR1, hR2, hKR, hMR, hPL⟩ := h.bounds
  have HPa := hide (fun w => parity_ok kind K M N gd w h)
  have HRw := hide (fun w => rows_ok kind K M N gd w h)
  have hG1 : 1 ≤ K * Sh.R kind N := Nat.mul_pos hK hR1
  have hgood := Sh.opt_good lev scr hG1 hKR hS hL1 hL2
  have hpos := hgood.pos
  have HD := hide (fun (v : Value) (base : Nat) (w : World) (hv : w.ownsRow base 94 1 v S.length (Sh.nvl S)) => dif_ok (K * Sh.R kind N) v base S w hG1 hKR hL1 hL2 hS hv)
  have HP := hide (fun (v : Value) (base : Nat) (w : World) (hv : w.ownsRow base 94 1 v S.length (Sh.nvl S)) => pairs_ok (K * Sh.R kind N) v base S scr w hG1 hKR hL1 hL2 hS hv)
  have HB := hide (fun (v : Value) (base : Nat) (w : World) (hv : w.ownsRow base 94 1 v S.length (Sh.nvl S)) => best2_ok (K * Sh.R kind N) v base S scr w hG1 hKR hL1 hL2 hS hv)
  have HN := hide (fun (v : Value) (base : Nat) (w : World) (hv : w.ownsRow base 94 1 v S.length (Sh.nvl S)) => plainN_ok (K * Sh.R kind N) v base S w hKR hL1 hL2 (fun s hs => Nat.lt_of_lt_of_le (hS s hs) (Nat.pow_le_pow_right (by decide) (by omega))) hv)
  have HO : Hid (Sh.opt lev scr (K * Sh.R kind N) S = if lev = 1 then (0, Sh.dif (K * Sh.R kind N) S) else if lev = 2 then ((Sh.parN (K * Sh.R kind N) S (Sh.rnd scr)).1, Sh.parO (K * Sh.R kind N) S (Sh.rnd scr)) else if lev = 3 then Sh.bst (K * Sh.R kind N) S (Sh.rnd scr) else (0, Sh.sumsO (K * Sh.R kind N) S.length S S.length)) := rfl
  generalize Sh.dif (K * Sh.R kind N) S = dd at *
  generalize (Sh.parN (K * Sh.R kind N) S (Sh.rnd scr)).1 = pz at *
  generalize Sh.parO (K * Sh.R kind N) S (Sh.rnd scr) = pp at *
  generalize Sh.bst (K * Sh.R kind N) S (Sh.rnd scr) = bs at *
  generalize Sh.sumsO (K * Sh.R kind N) S.length S S.length = nn at *
  generalize Sh.opt lev scr (K * Sh.R kind N) S = op at *
  have HQ0 := hide hq0
  have HQ1 := hide hq1
  clear h hPL hgood hq0 hq1
  generalize Sh.parity kind K M N gd = pa at *
  generalize hR : Sh.R kind N = R at *
  clear hR
  have hcast : ((K * R : Nat) : Int) = (K : Int) * (R : Int) := Int.natCast_mul _ _
  rw [hcast] at HD HP HB HN ⊢
  have hKI : 0 ≤ (K : Int) * (R : Int) ∧ (K : Int) * (R : Int) ≤ 48 := by omega
  clear hcast hS hG1 hKR
  by_cases hq : q = 0
  · subst hq
    have HP0 := hide (HQ0.out rfl)
    clear HQ0 HQ1 HPa
    go_enter Try.func57, Try.ntmps57
    go_wp2_with fail
    refine (HP0.out _).mono ?_
    rintro e w2 ⟨v2, rfl, hown2, hb2⟩
    have hB2 := ((Below.refl w.heap.size w).alloc (Nat.le_refl _) _).trans (hb2.mono (by simp))
    have hr2 := (hb2.block w.heap.size (by simp)).trans (heap_alloc_new w _)
    have hs2 := hb2.size
    obtain ⟨va, vc, hva⟩ := own_sl hown2
    subst hva
    have hnb : Nonempty (BW w2) := ⟨⟨w2, Below.refl _ _⟩⟩
    have hcb2 : cb < w2.heap.size := Nat.lt_of_lt_of_le hcb hB2.size
    have b0 : ∀ s : BW w2, s.out.cell? ⟨cb, 0, none⟩ = some (.int .i64 kind) := fun s => keepc s.low hcb2 0 (keepc hB2 hcb 0 c0)
    have b1 : ∀ s : BW w2, s.out.cell? ⟨cb, 1, none⟩ = some (.int .i64 K) := fun s => keepc s.low hcb2 1 (keepc hB2 hcb 1 c1)
    have b2 : ∀ s : BW w2, s.out.cell? ⟨cb, 2, none⟩ = some (.int .i64 M) := fun s => keepc s.low hcb2 2 (keepc hB2 hcb 2 c2)
    have b3 : ∀ s : BW w2, s.out.cell? ⟨cb, 3, none⟩ = some (.int .i64 N) := fun s => keepc s.low hcb2 3 (keepc hB2 hcb 3 c3)
    have b4 : ∀ s : BW w2, s.out.cell? ⟨cb, 4, none⟩ = some (.int .i64 gd) := fun s => keepc s.low hcb2 4 (keepc hB2 hcb 4 c4)
    have Hr2 := hide hr2
    have Hown2 := hide hown2
    clear hr2 hown2
    go_wp2
    refine wp_region_low_lit (by kernel_rfl) (by kernel_rfl) ?_
    repeat (go_big_quiet_step ((refine (HRw.out _).mono ?_; rintro e w9 ⟨rfl, hb9⟩; exact ⟨rfl, ⟨w9, (BW.low _).trans (hb9.mono (BW.low _).size)⟩, rfl⟩)))
    refine wpQuiet_nil ?_
    rintro w3 ⟨s3, rfl⟩
    have hl3 := s3.low
    generalize s3.out = w3 at *
    have hB3 : Below w.heap.size w w3 := hB2.trans (hl3.mono hB2.size)
    have hr3 := (hl3.block _ (blk_lt Hr2.out)).trans Hr2.out
    have hown3 := own_below Hown2.out hl3
    have e5 := keepc hB3 hcb 5 c5
    have e6 := keepc hB3 hcb 6 c6
    have hs3 := hl3.size
    have Hr3 := hide hr3
    have Hown3 := hide hown3
    clear b0 b1 b2 b3 b4 c0 c1 c2 c3 c4 c5 c6 hr3 hown3
    by_cases h1 : lev = 1
    · subst h1
      have HO2 : Hid (op = (0, dd)) := by show _ = _; rw [HO.out]; rw [if_pos rfl]
      rw [HO2.out] at hpos
      simp only at hpos
      clear HO
      go_wp2_with fail
      refine (HD.out _ _ _ Hown3.out).mono ?_
      rintro e w4 ⟨v4, rfl, hown4, hb4⟩
      obtain ⟨g4, cap4, rfl, hgb4, hgw4⟩ := own_form3 hown4 hpos
      have hr := (hb4.block _ (blk_lt Hr3.out)).trans Hr3.out
      have q0 := blk_cell (j := 0) hr rfl
      have q1 := blk_cell (j := 1) hr rfl
      have q2 := blk_cell (j := 2) hr rfl
      have q3 := blk_cell (j := 3) hr rfl
      have qf := blk_frozen hr
      have qz := blk_lt hr
      have hw3z := blk_lt Hr3.out
      have hB4 := hB3.trans (hb4.mono hB3.size)
      clear hr
      go_wp2
      refine bodyPost_ret (v := .agg #[.int .i64 ((K : Int) * (R : Int)), .int .i64 (S.length : Int), .int .i64 0, .slice (some ⟨g4, 0, none⟩) dd.length cap4]) (by simp [results, Try.results57, go_sem, q0, q1, q2, q3]) rfl ⟨_, by rw [HO2.out]; rfl, ?_, ?_⟩
      · rw [HO2.out]
        exact own_mono (ownsRow_setCell_below (ownsRow_setCell_below (ownsRow_setCell_below (ownsRow_setCell_below hown4 (by simp; omega) _) (by simp; omega) _) (by simp; omega) _) (by simp; omega) _) (by omega)
      · exact (((hB4.setCell (by simp) _).setCell (by simp) _).setCell (by simp) _).setCell (by simp) _
    · by_cases h2 : lev = 2
      · subst h2
        have HO2 : Hid (op = (pz, pp)) := by show _ = _; rw [HO.out]; rw [if_neg (by decide), if_pos rfl]
        rw [HO2.out] at hpos
        simp only at hpos
        clear HO
        go_wp2_with fail
        refine (HP.out _ _ _ Hown3.out).mono ?_
        rintro e w4 ⟨v4, rfl, hown4, hb4⟩
        obtain ⟨g4, cap4, rfl, hgb4, hgw4⟩ := own_form3 hown4 hpos
        have hr := (hb4.block _ (blk_lt Hr3.out)).trans Hr3.out
        have q0 := blk_cell (j := 0) hr rfl
        have q1 := blk_cell (j := 1) hr rfl
        have q2 := blk_cell (j := 2) hr rfl
        have q3 := blk_cell (j := 3) hr rfl
        have qf := blk_frozen hr
        have qz := blk_lt hr
        have hw3z := blk_lt Hr3.out
        have hB4 := hB3.trans (hb4.mono hB3.size)
        clear hr
        go_wp2
        refine bodyPost_ret (v := .agg #[.int .i64 ((K : Int) * (R : Int)), .int .i64 (S.length : Int), .int .i64 (pz : Int), .slice (some ⟨g4, 0, none⟩) pp.length cap4]) (by simp [results, Try.results57, go_sem, q0, q1, q2, q3]) rfl ⟨_, by rw [HO2.out], ?_, ?_⟩
        · rw [HO2.out]
          exact own_mono (ownsRow_setCell_below (ownsRow_setCell_below (ownsRow_setCell_below (ownsRow_setCell_below hown4 (by simp; omega) _) (by simp; omega) _) (by simp; omega) _) (by simp; omega) _) (by omega)
        · exact (((hB4.setCell (by simp) _).setCell (by simp) _).setCell (by simp) _).setCell (by simp) _
      · by_cases h3 : lev = 3
        · subst h3
          have HO2 : Hid (op = bs) := by show _ = _; rw [HO.out]; rw [if_neg (by decide), if_neg (by decide), if_pos rfl]
          rw [HO2.out] at hpos
          clear HO
          go_wp2_with fail
          refine (HB.out _ _ _ Hown3.out).mono ?_
          rintro e w4 ⟨v4, rfl, hown4, hb4⟩
          obtain ⟨g4, cap4, rfl, hgb4, hgw4⟩ := own_form3 hown4 hpos
          have hr := (hb4.block _ (blk_lt Hr3.out)).trans Hr3.out
          have q0 := blk_cell (j := 0) hr rfl
          have q1 := blk_cell (j := 1) hr rfl
          have q2 := blk_cell (j := 2) hr rfl
          have q3 := blk_cell (j := 3) hr rfl
          have qf := blk_frozen hr
          have qz := blk_lt hr
          have hw3z := blk_lt Hr3.out
          have hB4 := hB3.trans (hb4.mono hB3.size)
          clear hr
          go_wp2
          refine bodyPost_ret (v := .agg #[.int .i64 ((K : Int) * (R : Int)), .int .i64 (S.length : Int), .int .i64 (bs.1 : Int), .slice (some ⟨g4, 0, none⟩) bs.2.length cap4]) (by simp [results, Try.results57, go_sem, q0, q1, q2, q3]) rfl ⟨_, by rw [HO2.out], ?_, ?_⟩
          · rw [HO2.out]
            exact own_mono (ownsRow_setCell_below (ownsRow_setCell_below (ownsRow_setCell_below (ownsRow_setCell_below hown4 (by simp; omega) _) (by simp; omega) _) (by simp; omega) _) (by simp; omega) _) (by omega)
          · exact (((hB4.setCell (by simp) _).setCell (by simp) _).setCell (by simp) _).setCell (by simp) _
        · have l1 : (lev == 1) = false := beq_eq_false_iff_ne.2 h1
          have l2 : (lev == 2) = false := beq_eq_false_iff_ne.2 h2
          have l3 : (lev == 3) = false := beq_eq_false_iff_ne.2 h3
          have HO2 : Hid (op = (0, nn)) := by show _ = _; rw [HO.out]; rw [if_neg h1, if_neg h2, if_neg h3]
          rw [HO2.out] at hpos
          simp only at hpos
          clear HO
          go_wp2_with fail
          refine (HN.out _ _ _ Hown3.out).mono ?_
          rintro e w4 ⟨v4, rfl, hown4, hb4⟩
          obtain ⟨g4, cap4, rfl, hgb4, hgw4⟩ := own_form3 hown4 hpos
          have hr := (hb4.block _ (blk_lt Hr3.out)).trans Hr3.out
          have q0 := blk_cell (j := 0) hr rfl
          have q1 := blk_cell (j := 1) hr rfl
          have q2 := blk_cell (j := 2) hr rfl
          have q3 := blk_cell (j := 3) hr rfl
          have qf := blk_frozen hr
          have qz := blk_lt hr
          have hw3z := blk_lt Hr3.out
          have hB4 := hB3.trans (hb4.mono hB3.size)
          clear hr
          go_wp2
          refine bodyPost_ret (v := .agg #[.int .i64 ((K : Int) * (R : Int)), .int .i64 (S.length : Int), .int .i64 0, .slice (some ⟨g4, 0, none⟩) nn.length cap4]) (by simp [results, Try.results57, go_sem, q0, q1, q2, q3]) rfl ⟨_, by rw [HO2.out]; rfl, ?_, ?_⟩
          · rw [HO2.out]
            exact own_mono (ownsRow_setCell_below (ownsRow_setCell_below (ownsRow_setCell_below (ownsRow_setCell_below hown4 (by simp; omega) _) (by simp; omega) _) (by simp; omega) _) (by simp; omega) _) (by omega)
          · exact (((hB4.setCell (by simp) _).setCell (by simp) _).setCell (by simp) _).setCell (by simp) _
  · have HP1 := hide (HQ1.out hq)
    clear HQ0 HQ1
    have hqb : (q == 0) = false := beq_eq_false_iff_ne.2 hq
    go_enter Try.func57, Try.ntmps57
    go_wp2_with fail
    refine (HPa.out _).mono ?_
    rintro e w1 ⟨v1, rfl, hown1, hb1⟩
    have hB1 := ((Below.refl w.heap.size w).alloc (Nat.le_refl _) _).trans (hb1.mono (by simp))
    have hr1 := (hb1.block w.heap.size (by simp)).trans (heap_alloc_new w _)
    have hs1 := hb1.size
    have ea0 := keepc hB1 hcb 0 c0
    have ea1 := keepc hB1 hcb 1 c1
    have ea2 := keepc hB1 hcb 2 c2
    have ea3 := keepc hB1 hcb 3 c3
    have ea4 := keepc hB1 hcb 4 c4
    have Hr1 := hide hr1
    clear hown1 HPa hr1
    go_wp2_with fail
    refine (HP1.out _).mono ?_
    rintro e w2 ⟨v2, rfl, hown2, hb2⟩
    have hB2 := hB1.trans (hb2.mono hB1.size)
    have hr2 := (hb2.block w.heap.size (by simp at hs1; omega)).trans Hr1.out
    have hs2 := hb2.size
    clear ea0 ea1 ea2 ea3 ea4
    obtain ⟨va, vc, hva⟩ := own_sl hown2
    subst hva
    have hnb : Nonempty (BW w2) := ⟨⟨w2, Below.refl _ _⟩⟩
    have hcb2 : cb < w2.heap.size := Nat.lt_of_lt_of_le hcb hB2.size
    have b0 : ∀ s : BW w2, s.out.cell? ⟨cb, 0, none⟩ = some (.int .i64 kind) := fun s => keepc s.low hcb2 0 (keepc hB2 hcb 0 c0)
    have b1 : ∀ s : BW w2, s.out.cell? ⟨cb, 1, none⟩ = some (.int .i64 K) := fun s => keepc s.low hcb2 1 (keepc hB2 hcb 1 c1)
    have b2 : ∀ s : BW w2, s.out.cell? ⟨cb, 2, none⟩ = some (.int .i64 M) := fun s => keepc s.low hcb2 2 (keepc hB2 hcb 2 c2)
    have b3 : ∀ s : BW w2, s.out.cell? ⟨cb, 3, none⟩ = some (.int .i64 N) := fun s => keepc s.low hcb2 3 (keepc hB2 hcb 3 c3)
    have b4 : ∀ s : BW w2, s.out.cell? ⟨cb, 4, none⟩ = some (.int .i64 gd) := fun s => keepc s.low hcb2 4 (keepc hB2 hcb 4 c4)
    have Hr2 := hide hr2
    have Hown2 := hide hown2
    clear hr2 hown2
    go_wp2
    refine wp_region_low_lit (by kernel_rfl) (by kernel_rfl) ?_
    repeat (go_big_quiet_step ((refine (HRw.out _).mono ?_; rintro e w9 ⟨rfl, hb9⟩; exact ⟨rfl, ⟨w9, (BW.low _).trans (hb9.mono (BW.low _).size)⟩, rfl⟩)))
    refine wpQuiet_nil ?_
    rintro w3 ⟨s3, rfl⟩
    have hl3 := s3.low
    generalize s3.out = w3 at *
    have hB3 : Below w.heap.size w w3 := hB2.trans (hl3.mono hB2.size)
    have hr3 := (hl3.block _ (blk_lt Hr2.out)).trans Hr2.out
    have hown3 := own_below Hown2.out hl3
    have e5 := keepc hB3 hcb 5 c5
    have e6 := keepc hB3 hcb 6 c6
    have hs3 := hl3.size
    have Hr3 := hide hr3
    have Hown3 := hide hown3
    clear b0 b1 b2 b3 b4 c0 c1 c2 c3 c4 c5 c6 hr3 hown3
    by_cases h1 : lev = 1
    · subst h1
      have HO2 : Hid (op = (0, dd)) := by show _ = _; rw [HO.out]; rw [if_pos rfl]
      rw [HO2.out] at hpos
      simp only at hpos
      clear HO
      go_wp2_with fail
      refine (HD.out _ _ _ Hown3.out).mono ?_
      rintro e w4 ⟨v4, rfl, hown4, hb4⟩
      obtain ⟨g4, cap4, rfl, hgb4, hgw4⟩ := own_form3 hown4 hpos
      have hr := (hb4.block _ (blk_lt Hr3.out)).trans Hr3.out
      have q0 := blk_cell (j := 0) hr rfl
      have q1 := blk_cell (j := 1) hr rfl
      have q2 := blk_cell (j := 2) hr rfl
      have q3 := blk_cell (j := 3) hr rfl
      have qf := blk_frozen hr
      have qz := blk_lt hr
      have hw3z := blk_lt Hr3.out
      have hB4 := hB3.trans (hb4.mono hB3.size)
      clear hr
      go_wp2
      refine bodyPost_ret (v := .agg #[.int .i64 ((K : Int) * (R : Int)), .int .i64 (S.length : Int), .int .i64 0, .slice (some ⟨g4, 0, none⟩) dd.length cap4]) (by simp [results, Try.results57, go_sem, q0, q1, q2, q3]) rfl ⟨_, by rw [HO2.out]; rfl, ?_, ?_⟩
      · rw [HO2.out]
        exact own_mono (ownsRow_setCell_below (ownsRow_setCell_below (ownsRow_setCell_below (ownsRow_setCell_below hown4 (by simp; omega) _) (by simp; omega) _) (by simp; omega) _) (by simp; omega) _) (by omega)
      · exact (((hB4.setCell (by simp) _).setCell (by simp) _).setCell (by simp) _).setCell (by simp) _
    · by_cases h2 : lev = 2
      · subst h2
        have HO2 : Hid (op = (pz, pp)) := by show _ = _; rw [HO.out]; rw [if_neg (by decide), if_pos rfl]
        rw [HO2.out] at hpos
        simp only at hpos
        clear HO
        go_wp2_with fail
        refine (HP.out _ _ _ Hown3.out).mono ?_
        rintro e w4 ⟨v4, rfl, hown4, hb4⟩
        obtain ⟨g4, cap4, rfl, hgb4, hgw4⟩ := own_form3 hown4 hpos
        have hr := (hb4.block _ (blk_lt Hr3.out)).trans Hr3.out
        have q0 := blk_cell (j := 0) hr rfl
        have q1 := blk_cell (j := 1) hr rfl
        have q2 := blk_cell (j := 2) hr rfl
        have q3 := blk_cell (j := 3) hr rfl
        have qf := blk_frozen hr
        have qz := blk_lt hr
        have hw3z := blk_lt Hr3.out
        have hB4 := hB3.trans (hb4.mono hB3.size)
        clear hr
        go_wp2
        refine bodyPost_ret (v := .agg #[.int .i64 ((K : Int) * (R : Int)), .int .i64 (S.length : Int), .int .i64 (pz : Int), .slice (some ⟨g4, 0, none⟩) pp.length cap4]) (by simp [results, Try.results57, go_sem, q0, q1, q2, q3]) rfl ⟨_, by rw [HO2.out], ?_, ?_⟩
        · rw [HO2.out]
          exact own_mono (ownsRow_setCell_below (ownsRow_setCell_below (ownsRow_setCell_below (ownsRow_setCell_below hown4 (by simp; omega) _) (by simp; omega) _) (by simp; omega) _) (by simp; omega) _) (by omega)
        · exact (((hB4.setCell (by simp) _).setCell (by simp) _).setCell (by simp) _).setCell (by simp) _
      · by_cases h3 : lev = 3
        · subst h3
          have HO2 : Hid (op = bs) := by show _ = _; rw [HO.out]; rw [if_neg (by decide), if_neg (by decide), if_pos rfl]
          rw [HO2.out] at hpos
          clear HO
          go_wp2_with fail
          refine (HB.out _ _ _ Hown3.out).mono ?_
          rintro e w4 ⟨v4, rfl, hown4, hb4⟩
          obtain ⟨g4, cap4, rfl, hgb4, hgw4⟩ := own_form3 hown4 hpos
          have hr := (hb4.block _ (blk_lt Hr3.out)).trans Hr3.out
          have q0 := blk_cell (j := 0) hr rfl
          have q1 := blk_cell (j := 1) hr rfl
          have q2 := blk_cell (j := 2) hr rfl
          have q3 := blk_cell (j := 3) hr rfl
          have qf := blk_frozen hr
          have qz := blk_lt hr
          have hw3z := blk_lt Hr3.out
          have hB4 := hB3.trans (hb4.mono hB3.size)
          clear hr
          go_wp2
          refine bodyPost_ret (v := .agg #[.int .i64 ((K : Int) * (R : Int)), .int .i64 (S.length : Int), .int .i64 (bs.1 : Int), .slice (some ⟨g4, 0, none⟩) bs.2.length cap4]) (by simp [results, Try.results57, go_sem, q0, q1, q2, q3]) rfl ⟨_, by rw [HO2.out], ?_, ?_⟩
          · rw [HO2.out]
            exact own_mono (ownsRow_setCell_below (ownsRow_setCell_below (ownsRow_setCell_below (ownsRow_setCell_below hown4 (by simp; omega) _) (by simp; omega) _) (by simp; omega) _) (by simp; omega) _) (by omega)
          · exact (((hB4.setCell (by simp) _).setCell (by simp) _).setCell (by simp) _).setCell (by simp) _
        · have l1 : (lev == 1) = false := beq_eq_false_iff_ne.2 h1
          have l2 : (lev == 2) = false := beq_eq_false_iff_ne.2 h2
          have l3 : (lev == 3) = false := beq_eq_false_iff_ne.2 h3
          have HO2 : Hid (op = (0, nn)) := by show _ = _; rw [HO.out]; rw [if_neg h1, if_neg h2, if_neg h3]
          rw [HO2.out] at hpos
          simp only at hpos
          clear HO
          go_wp2_with fail
          refine (HN.out _ _ _ Hown3.out).mono ?_
          rintro e w4 ⟨v4, rfl, hown4, hb4⟩
          obtain ⟨g4, cap4, rfl, hgb4, hgw4⟩ := own_form3 hown4 hpos
          have hr := (hb4.block _ (blk_lt Hr3.out)).trans Hr3.out
          have q0 := blk_cell (j := 0) hr rfl
          have q1 := blk_cell (j := 1) hr rfl
          have q2 := blk_cell (j := 2) hr rfl
          have q3 := blk_cell (j := 3) hr rfl
          have qf := blk_frozen hr
          have qz := blk_lt hr
          have hw3z := blk_lt Hr3.out
          have hB4 := hB3.trans (hb4.mono hB3.size)
          clear hr
          go_wp2
          refine bodyPost_ret (v := .agg #[.int .i64 ((K : Int) * (R : Int)), .int .i64 (S.length : Int), .int .i64 0, .slice (some ⟨g4, 0, none⟩) nn.length cap4]) (by simp [results, Try.results57, go_sem, q0, q1, q2, q3]) rfl ⟨_, by rw [HO2.out]; rfl, ?_, ?_⟩
          · rw [HO2.out]
            exact own_mono (ownsRow_setCell_below (ownsRow_setCell_below (ownsRow_setCell_below (ownsRow_setCell_below hown4 (by simp; omega) _) (by simp; omega) _) (by simp; omega) _) (by simp; omega) _) (by omega)
          · exact (((hB4.setCell (by simp) _).setCell (by simp) _).setCell (by simp) _).setCell (by simp) _

theorem programOf_ok (cb : Nat) (kind : Int) (K M : Nat) (N gd lev scr : Int) (w : World) (h : Sh.Ok kind K M N gd) (hcb : cb < w.heap.size)
    (c0 : w.cell? ⟨cb, 0, none⟩ = some (.int .i64 kind)) (c1 : w.cell? ⟨cb, 1, none⟩ = some (.int .i64 K)) (c2 : w.cell? ⟨cb, 2, none⟩ = some (.int .i64 M)) (c3 : w.cell? ⟨cb, 3, none⟩ = some (.int .i64 N)) (c4 : w.cell? ⟨cb, 4, none⟩ = some (.int .i64 gd)) (c5 : w.cell? ⟨cb, 5, none⟩ = some (.int .i64 lev)) (c6 : w.cell? ⟨cb, 6, none⟩ = some (.int .i64 scr)) :
    Calls Try.prog 57 #[.pointer (some ⟨cb, 0, none⟩), .int .i64 0] w fun e w' => ∃ vo, e = .returned (.agg #[.int .i64 ((K * Sh.R kind N : Nat) : Int), .int .i64 ((M * Sh.R kind N : Nat) : Int), .int .i64 (Sh.prz kind K M N gd lev scr : Int), vo]) ∧
      w'.ownsRow w.heap.size 98 3 vo (Sh.prog kind K M N gd lev scr).length (Sh.opCells (Sh.prog kind K M N gd lev scr)) ∧ Below w.heap.size w w' := by
  obtain ⟨hK, hM, h10, hR1, hR2, hKR, hMR, hPL⟩ := h.bounds
  have hl := Sh.pn_len h
  have := programOf_gen cb kind K M N gd lev scr 0 (Sh.pn kind K M N gd) w h hcb c0 c1 c2 c3 c4 c5 c6 (by rw [hl]; exact Nat.mul_pos hM hR1) (by rw [hl]; exact hMR) (Sh.pn_lt h)
    (fun _ w => by have := parity_ok kind K M N gd w h; rw [Sh.pn_nvl h] at this; rw [hl]; exact this) (fun h0 => absurd rfl h0)
  rw [hl] at this
  exact this

end Go.Proofs.Ythhbpofcemoflab
