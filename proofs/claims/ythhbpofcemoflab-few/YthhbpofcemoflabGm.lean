import Derived.Test.YthhbpofcemoflabGk
import Derived.Test.YthhbpofcemoflabT1
import Derived.Deep.RegionHeld3
import Derived.Deep.RegionLaw
namespace Go.Proofs.Ythhbpofcemoflab
open Go.RowKit
set_option maxRecDepth 20000
set_option maxHeartbeats 1000000 in
theorem reduce_nil (sb : Nat) (d g : Nat) (w : World) (hsb : sb < w.heap.size) (c0 : w.cell? ⟨sb, 0, none⟩ = some (.slice none 0 0)) :
    Calls Try.prog 77 #[.pointer (some ⟨sb, 0, none⟩), .agg #[.int .u64 (d : Int), .int .u64 (g : Int)]] w fun e w' => e = .returned (.agg #[.int .u64 (d : Int), .int .u64 (g : Int)]) ∧ Below w.heap.size w w' := by
  go_enter Try.func77, Try.ntmps77
  go_wp2
  go_loop [6, 7, 13] (fun _ _ i => i = .int .i64 0) (fun _ _ _ => 0)
  case atStart => exact rfl
  case round =>
    subst hrel
    go_wp2
    exact bodyPost_ret (v := .agg #[.int .u64 (d : Int), .int .u64 (g : Int)]) (by simp [results, Try.results77, go_sem]) rfl ⟨rfl, ((Below.refl _ _).alloc (Nat.le_refl _) _).alloc (by simp) _⟩
set_option maxHeartbeats 2000000 in
theorem reduce_some (sb : Nat) (base : Nat) (v : Value) (ks : List (Nat × Nat)) (d g : Nat) (w : World) (hsb : sb < w.heap.size) (c0 : w.cell? ⟨sb, 0, none⟩ = some v) (hv : w.ownsRow base 116 2 v ks.length (Sh.eqCells ks)) (h1 : 1 ≤ ks.length) (h2 : ks.length ≤ 48)
    (hk : ∀ k ∈ ks, k.1 < 2 ^ 48 ∧ k.2 < 2 ^ 48) (hd : d < 2 ^ 48) (hg : g < 2 ^ 48) :
    Calls Try.prog 77 #[.pointer (some ⟨sb, 0, none⟩), .agg #[.int .u64 (d : Int), .int .u64 (g : Int)]] w fun e w' => e = .returned (.agg #[.int .u64 ((Sh.red ks (d, g)).1 : Int), .int .u64 ((Sh.red ks (d, g)).2 : Int)]) ∧ Below w.heap.size w w' := by
  obtain ⟨gk, cap, rfl, _, hgk⟩ := own_form3 hv h1
  have HC := hide (own_cells hv)
  have Hk := hide hk
  clear hv hk
  go_enter Try.func77, Try.ntmps77
  go_wp2
  go_loopw [6, 7, 13] (fun _ _ i wr => ∃ k : Nat, k ≤ ks.length ∧ i = .int .i64 k ∧ Below w.heap.size w wr ∧
      wr.heap[w.heap.size]? = some (.cells #[.int .u64 ((Sh.red (ks.take k) (d, g)).1 : Int), .int .u64 ((Sh.red (ks.take k) (d, g)).2 : Int)] 116 (0, 0)) ∧ wr.heap[w.heap.size + 1]? = some (.cells #[.int .u64 0, .int .u64 0] 116 (0, 0))) (fun _ _ i _ => ks.length - (intOf i).toNat)
  case atStart =>
    refine ⟨0, Nat.zero_le _, rfl, ((Below.refl _ _).alloc (Nat.le_refl _) _).alloc (by simp) _, ?_, ?_⟩
    · rw [Below.heap_alloc _ _ _ (by simp)]
      exact heap_alloc_new w _
    · have := heap_alloc_new (w.alloc (.cells #[.int .u64 (d : Int), .int .u64 (g : Int)] 116)) (.cells #[.int .u64 0, .int .u64 0] 116)
      simpa using this
  case round =>
    obtain ⟨k, hkl, rfl, hbl, he, hr⟩ := hrel
    have hsz := blk_lt hr
    have hlt := Sh.red_lt (n := 48) (ks := ks.take k) (fun x hx => Hk.out x (List.mem_of_mem_take hx)) (e := (d, g)) ⟨hd, hg⟩
    have hsz0 : w.heap.size < wr.heap.size := by omega
    have ef := blk_frozen he
    have rf := blk_frozen hr
    have r0 : wr.cell? ⟨w.heap.size + 1, 0, none⟩ = some (.int .u64 0) := blk_cell hr rfl
    have r1 : wr.cell? ⟨w.heap.size + 1, 1, none⟩ = some (.int .u64 0) := blk_cell hr rfl
    by_cases hlk : k < ks.length
    · obtain ⟨o, ho⟩ : ∃ o, ks[k]? = some o := ⟨_, List.getElem?_eq_getElem hlk⟩
      have hoc := Sh.eqCells_get ho
      have hob := Hk.out o (List.mem_of_getElem? ho)
      have hq0 := keepc hbl hgk (k * 2) (HC.out (k * 2) _ hoc.1)
      have hq1 := keepc hbl hgk (k * 2 + 1) (HC.out (k * 2 + 1) _ hoc.2)
      have Hst := hide (show Sh.red (ks.take (k + 1)) (d, g) = Sh.stepR (Sh.red (ks.take k) (d, g)) o by rw [List.take_add_one, ho, Option.toList_some, Sh.red_snoc])
      have hlow := Sh.low_val o.1 hob.1
      have hlb := Sh.low_lt48 o.1 hob.1
      clear ho hoc
      have HE := hide he
      have HRr := hide hr
      clear hr
      generalize hee : Sh.red (ks.take k) (d, g) = ee at *
      clear hee
      obtain ⟨a, b⟩ := ee
      obtain ⟨oa, ob⟩ := o
      simp only at hlt hob hlow hlb hq0 hq1
      have e0 : wr.cell? ⟨w.heap.size, 0, none⟩ = some (.int .u64 (a : Int)) := blk_cell he rfl
      have e1 : wr.cell? ⟨w.heap.size, 1, none⟩ = some (.int .u64 (b : Int)) := blk_cell he rfl
      have hoo : (oa : Int) < 281474976710656 ∧ (ob : Int) < 281474976710656 := by omega
      clear he
      have hand := Sh.bits_andu a (Sh.low oa) (by omega) (by omega)
      have hxa := Sh.bits_xoru a oa (by omega) (by omega)
      have hxb := Sh.bits_xoru b ob (by omega) (by omega)
      by_cases hz : a &&& Sh.low oa = 0
      · have hz' : (((a &&& Sh.low oa : Nat) : Int) == 0) = true := by simp [hz]
        have hz2 : (((a &&& Sh.low oa : Nat) : Int) = 0) := by simp [hz]
        have Hs2 := hide (show Sh.stepR (a, b) (oa, ob) = (a, b) by unfold Sh.stepR; exact if_pos hz)
        clear hz
        go_wp2
        refine ⟨⟨k + 1, by omega, by go_num, hbl.alloc (by omega) _, ?_, ?_⟩, by simp only [intOf]; omega⟩
        · rw [Hst.out, Hs2.out]
          exact (Below.heap_alloc _ _ _ hsz0).trans HE.out
        · exact (Below.heap_alloc _ _ _ hsz).trans HRr.out
      · have hz' : (((a &&& Sh.low oa : Nat) : Int) == 0) = false := by
          have : ((a &&& Sh.low oa : Nat) : Int) ≠ 0 := by omega
          simpa using this
        have hz2 : ¬ (((a &&& Sh.low oa : Nat) : Int) = 0) := by omega
        have Hs2 := hide (show Sh.stepR (a, b) (oa, ob) = (a ^^^ oa, b ^^^ ob) by unfold Sh.stepR; exact if_neg hz)
        clear hz
        go_wp2
        refine ⟨⟨k + 1, by omega, by go_num, ((hbl.setCell (by simp) _).setCell (by simp) _).alloc (by simp [World.setCell]; omega) _, ?_, ?_⟩, by simp only [intOf]; omega⟩
        · rw [Hst.out, Hs2.out, Below.heap_alloc _ _ _ (by simpa [World.setCell] using hsz0), blk_set (blk_set HE.out)]
          simp
        · rw [Below.heap_alloc _ _ _ (by simpa [World.setCell] using hsz), Below.heap_setCell _ _ _ _ (by simp), Below.heap_setCell _ _ _ _ (by simp)]
          exact HRr.out
    · have hkn : k = ks.length := by omega
      subst hkn
      rw [List.take_length] at he hlt
      obtain ⟨ee, hee⟩ : ∃ ee, Sh.red ks (d, g) = ee := ⟨_, rfl⟩
      rw [hee] at he hlt
      have Hee := hide hee
      clear hee
      obtain ⟨a, b⟩ := ee
      have e0 : wr.cell? ⟨w.heap.size, 0, none⟩ = some (.int .u64 (a : Int)) := blk_cell he rfl
      have e1 : wr.cell? ⟨w.heap.size, 1, none⟩ = some (.int .u64 (b : Int)) := blk_cell he rfl
      have HRr := hide hr
      clear hr he
      go_wp2
      have hfin := (blk_set (j := 1) (u := .int .u64 (b : Int)) (blk_set (j := 0) (u := .int .u64 (a : Int)) HRr.out))
      have q0 : ((wr.setCell ⟨w.heap.size + 1, 0, none⟩ (.int .u64 (a : Int))).setCell ⟨w.heap.size + 1, 1, none⟩ (.int .u64 (b : Int))).cell? ⟨w.heap.size + 1, 0, none⟩ = some (.int .u64 (a : Int)) := blk_cell hfin rfl
      have q1 : ((wr.setCell ⟨w.heap.size + 1, 0, none⟩ (.int .u64 (a : Int))).setCell ⟨w.heap.size + 1, 1, none⟩ (.int .u64 (b : Int))).cell? ⟨w.heap.size + 1, 1, none⟩ = some (.int .u64 (b : Int)) := blk_cell hfin rfl
      have hBf : Below w.heap.size w ((wr.setCell ⟨w.heap.size + 1, 0, none⟩ (.int .u64 (a : Int))).setCell ⟨w.heap.size + 1, 1, none⟩ (.int .u64 (b : Int))) := (hbl.setCell (by simp) _).setCell (by simp) _
      generalize hWf : (wr.setCell ⟨w.heap.size + 1, 0, none⟩ (.int .u64 (a : Int))).setCell ⟨w.heap.size + 1, 1, none⟩ (.int .u64 (b : Int)) = Wf at *
      clear hWf
      exact bodyPost_ret (v := .agg #[.int .u64 (a : Int), .int .u64 (b : Int)]) (by simp [results, Try.results77, go_sem, q0, q1]) rfl ⟨by rw [Hee.out], hBf⟩
end Go.Proofs.Ythhbpofcemoflab
namespace Go.Proofs.Ythhbpofcemoflab
open Go.RowKit
set_option maxRecDepth 20000
/-- what is known -/
def Sh.Sol (w : World) (sb : Nat) (ks : List (Nat × Nat)) : Prop :=
  ∃ v, w.heap[sb]? = some (.cells #[v] 113 (0, 0)) ∧ w.ownsRow (sb + 1) 116 2 v ks.length (Sh.eqCells ks) ∧ (ks = [] → v = .slice none 0 0)
theorem Sh.Sol.below {w w' : World} {sb : Nat} {ks : List (Nat × Nat)} (h : Sh.Sol w sb ks) (hb : Below w.heap.size w w') : Sh.Sol w' sb ks := by
  obtain ⟨v, h1, h2, h3⟩ := h
  exact ⟨v, (hb.block sb (blk_lt h1)).trans h1, own_below h2 hb, h3⟩
theorem Try.infoEq : (Try.prog.info? 116).map (fun i => (i.zero, i.size, i.bytes)) = some (some (.agg #[.int .u64 0, .int .u64 0]), 2, 16) := by kernel_rfl
theorem reduce_ok (sb : Nat) (ks : List (Nat × Nat)) (d g : Nat) (w : World) (hs : Sh.Sol w sb ks) (h2 : ks.length ≤ 48) (hk : ∀ k ∈ ks, k.1 < 2 ^ 48 ∧ k.2 < 2 ^ 48) (hd : d < 2 ^ 48) (hg : g < 2 ^ 48) :
    Calls Try.prog 77 #[.pointer (some ⟨sb, 0, none⟩), .agg #[.int .u64 (d : Int), .int .u64 (g : Int)]] w fun e w' => e = .returned (.agg #[.int .u64 ((Sh.red ks (d, g)).1 : Int), .int .u64 ((Sh.red ks (d, g)).2 : Int)]) ∧ Below w.heap.size w w' := by
  obtain ⟨v, h1, h3, h4⟩ := hs
  rcases Nat.eq_zero_or_pos ks.length with h0 | h0
  · have e : ks = [] := List.eq_nil_of_length_eq_zero h0
    subst e
    have := h4 rfl
    subst this
    exact reduce_nil sb d g w (blk_lt h1) (blk_cell h1 rfl)
  · exact reduce_some sb (sb + 1) v ks d g w (blk_lt h1) (blk_cell h1 rfl) h3 h0 h2 hk hd hg
set_option maxHeartbeats 2000000 in
theorem add_ok (sb : Nat) (ks : List (Nat × Nat)) (d g : Nat) (w : World) (hs : Sh.Sol w sb ks) (h2 : ks.length ≤ 47) (hk : ∀ k ∈ ks, k.1 < 2 ^ 48 ∧ k.2 < 2 ^ 48) (hd : d < 2 ^ 48) (hg : g < 2 ^ 48) :
    Calls Try.prog 76 #[.pointer (some ⟨sb, 0, none⟩), .agg #[.int .u64 (d : Int), .int .u64 (g : Int)]] w fun e w' => e = .returned (.tuple #[]) ∧ Sh.Sol w' sb (Sh.addE ks (d, g)) ∧ Below sb w w' := by
  obtain ⟨i0, hi, hz0, hz1, hz2⟩ := info_parts Try.infoEq
  have HR := hide (fun (wx : World) (hx : Sh.Sol wx sb ks) => reduce_ok sb ks d g wx hx (by omega) hk hd hg)
  have HA : Hid (Sh.addE ks (d, g) = if (Sh.red ks (d, g)).1 = 0 then ks else ks ++ [Sh.red ks (d, g)]) := rfl
  have hlt := Sh.red_lt (n := 48) hk (e := (d, g)) ⟨hd, hg⟩
  obtain ⟨ee, hee⟩ : ∃ ee, Sh.red ks (d, g) = ee := ⟨_, rfl⟩
  rw [hee] at HA HR hlt
  rw [HA.out]
  clear HA hee hk
  obtain ⟨a, b⟩ := ee
  simp only at hlt ⊢
  obtain ⟨v, hb0, hown, hnil⟩ := hs
  have hsb := blk_lt hb0
  have Hb0 := hide hb0
  have Hnil := hide hnil
  clear hb0 hnil
  have HS0 : Hid (Sh.Sol w sb ks) := ⟨v, Hb0.out, hown, Hnil.out⟩
  by_cases hz : a = 0
  · subst hz
    rw [if_pos rfl]
    go_enter Try.func76, Try.ntmps76
    go_wp2_with fail
    refine (HR.out _ (HS0.out.below ((Below.refl _ _).alloc (Nat.le_refl _) _))).mono ?_
    rintro e w1 ⟨rfl, hb1⟩
    have hB1 : Below w.heap.size w w1 := ((Below.refl _ _).alloc (Nat.le_refl _) _).trans (hb1.mono (by simp))
    have hs1 := hb1.size
    simp only [World.size_alloc] at hs1
    go_wp2
    have hBx : Below w.heap.size w (w1.alloc (.cells #[.int .u64 0, .int .u64 (b : Int)] 116)) := hB1.alloc (by omega) _
    go_end0
    exact ⟨rfl, HS0.out.below hBx, hBx.mono (by omega)⟩
  · rw [if_neg hz]
    have hz1' : ¬ ((a : Int) = 0) := by omega
    have hz2' : ((a : Int) == 0) = false := by simp; omega
    go_enter Try.func76, Try.ntmps76
    go_wp2_with fail
    refine (HR.out _ (HS0.out.below ((Below.refl _ _).alloc (Nat.le_refl _) _))).mono ?_
    rintro e w1 ⟨rfl, hb1⟩
    have hB1 : Below w.heap.size w w1 := ((Below.refl _ _).alloc (Nat.le_refl _) _).trans (hb1.mono (by simp))
    have hs1 := hb1.size
    simp only [World.size_alloc] at hs1
    have hw1 := (hB1.block sb hsb).trans Hb0.out
    have c0 : w1.cell? ⟨sb, 0, none⟩ = some v := blk_cell hw1 rfl
    have cf := blk_frozen hw1
    have hsb1 := blk_lt hw1
    have hown1 := own_below hown hB1
    have Hw1 := hide hw1
    have hnb : some sb ≠ v.ownBlock := fun h => by
      have := (hown.lt sb h.symm).1
      omega
    clear hw1
    go_wp2
    go_region_law ((refine step_append_lies _ (by rfl) (.tmp 15) (.tmp 17) 111 (by rfl) (sb + 1) 116 i0 (.agg #[.int .u64 0, .int .u64 0]) 2 16 Try.underlying111 hi hz0 hz1 hz2 (by rfl) (by decide) v ks.length _ (by rfl) (by exact (hown1.alloc _).alloc _) ⟨w1.heap.size + 1, 0, none⟩ 1 1 [.int .u64 (a : Int), .int .u64 (b : Int)] (by rfl) (by rfl) (by exact World.news_of_block (cs := #[.int .u64 (a : Int), .int .u64 (b : Int)]) (t := 116) (fr := (0, 0)) (heap_new2 w1 _ _)) (by intro u hu; simp at hu; rcases hu with rfl | rfl <;> rfl) (by omega) (by unfold maxLen; omega) (by omega) (by simp; omega) (w1.heap.size + 2) (by simp) ?_; intro g2 cap2 w2 hown2 hgrow2 hat2 hlt2; have hm2 := (hgrow2.block sb (by simp; omega) hnb).trans (((Below.heap_alloc _ _ _ (by simp; omega)).trans (Below.heap_alloc _ _ _ hsb1)).trans Hw1.out); have hm20 := blk_cell (j := 0) hm2 rfl; have hm2f := blk_frozen hm2 0; have Hm2 := hide hm2; clear hm2))
    all_goals
      have hBg := ((((hB1.mono (show sb ≤ w.heap.size by omega)).alloc (by omega) (.cells #[.int .u64 (a : Int), .int .u64 (b : Int)] 116)).alloc (by simp; omega) (.cells #[.int .u64 (a : Int), .int .u64 (b : Int)] 116)).grown ⟨hgrow2.os, hgrow2.tape, hgrow2.output, hgrow2.size, hgrow2.block⟩ (by simp; omega) (fun k hk => by have := (hown.lt k hk).1; omega))
      have hSol : Sh.Sol (w2.setCell ⟨sb, 0, none⟩ (.slice (some ⟨g2, 0, none⟩) (ks.length + 1) cap2)) sb (ks ++ [(a, b)]) := by
        refine ⟨_, blk_set (j := 0) Hm2.out, ?_, fun h => by simp at h⟩
        rw [Sh.eqCells_snoc, List.length_append]
        exact ownsRow_setCell_below hown2 (by simp) _
      go_wp2
      go_end0
      exact ⟨rfl, hSol, hBg.setCell (by simp) _⟩
end Go.Proofs.Ythhbpofcemoflab
namespace Go.Proofs.Ythhbpofcemoflab
open Go.RowKit
set_option maxRecDepth 20000
theorem Sh.pow64 (n : Nat) (h : n < 64) : IntKind.u64.wrap (2 ^ n) = ((2 ^ n : Nat) : Int) := by
  rw [show (2 : Int) ^ n = ((2 ^ n : Nat) : Int) by simp]
  have := Nat.pow_lt_pow_right (a := 2) (by decide) h
  exact Sh.wrapu64 _ (Int.natCast_nonneg _) (by omega)
def Sh.nv64 (l : List Nat) : List Value := l.map fun (n : Nat) => Value.int .u64 (n : Int)
set_option maxHeartbeats 2000000 in
theorem every_ok (kind : Int) (K M : Nat) (N gd : Int) (w : World) (h : Sh.Ok kind K M N gd) (hP : Sh.Pb kind K M N gd) :
    Calls Try.prog 75 #[.agg #[.int .i64 kind, .int .i64 K, .int .i64 M, .int .i64 N, .int .i64 gd]] w fun e w' => ∃ v, e = .returned v ∧ w'.ownsRow w.heap.size 94 1 v ((K + M) * Sh.R kind N) (Sh.nv64 (Sh.every kind K M N gd)) ∧ Below w.heap.size w w' := by
  obtain ⟨hK, hM, h10, hR1, hR2, hKR, hMR, hPL⟩ := h.bounds
  obtain ⟨i0, hi, hz0, hz1, hz2⟩ := info_parts Try.infoU64
  have HPa := hide (fun w => parity_ok kind K M N gd w h)
  have HRw := hide (fun w => rows_ok kind K M N gd w h)
  have hMR1 : 1 ≤ M * Sh.R kind N := Nat.mul_pos hM hR1
  have HE : Hid (Sh.nv64 (Sh.every kind K M N gd) = Sh.nv64 ((List.range (K * Sh.R kind N)).map (2 ^ ·)) ++ (Sh.parity kind K M N gd).map (Value.int .u64)) := by
    show _ = _
    unfold Sh.nv64 Sh.every
    rw [List.map_append, List.map_map (f := Int.toNat)]
    congr 1
    apply List.map_congr_left
    intro s hs
    show Value.int .u64 ((s.toNat : Nat) : Int) = _
    rw [Int.toNat_of_nonneg (hP s hs).1]
  rw [HE.out]
  have HPl : Hid (((Sh.parity kind K M N gd).map (Value.int .u64)).length = (M * Sh.R kind N) * 1) := by show _ = _; rw [List.length_map, hPL, Nat.mul_one]
  have HPo : Hid (∀ u ∈ (Sh.parity kind K M N gd).map (Value.int .u64), u.oneCell' = true) := by
    intro u hu
    simp only [List.mem_map] at hu
    obtain ⟨x, _, rfl⟩ := hu
    rfl
  clear h hP HE hPL
  generalize Sh.parity kind K M N gd = P at *
  generalize hR : Sh.R kind N = R at *
  clear hR
  obtain ⟨a, ha⟩ : ∃ a, K * R = a := ⟨_, rfl⟩
  obtain ⟨b, hb⟩ : ∃ b, M * R = b := ⟨_, rfl⟩
  have hka : (K : Int) * (R : Int) = (a : Int) := by rw [← ha, Int.natCast_mul]
  rw [Nat.add_mul, ha, hb]
  rw [hb] at HPa HPl hMR1 hMR
  rw [ha] at hKR
  clear ha hb
  go_enter Try.func75, Try.ntmps75
  go_wp2_with fail
  refine (HRw.out _).mono ?_
  rintro e w1 ⟨rfl, hb1⟩
  have hc0 := box_cell hb1 (by simp) 0 rfl
  have hc1 := box_cell hb1 (by simp) 1 rfl
  have hc2 := box_cell hb1 (by simp) 2 rfl
  have hc3 := box_cell hb1 (by simp) 3 rfl
  have hc4 := box_cell hb1 (by simp) 4 rfl
  have hsz := box_size hb1
  go_wp2_with fail
  go_loopw [4, 5, 14] (fun s _ i wr => ∃ k : Nat, k ≤ a ∧ i = .int .i64 k ∧ wr.ownsRow w1.heap.size 94 1 s k (Sh.nv64 ((List.range k).map (2 ^ ·))) ∧ Below w1.heap.size w1 wr) (fun _ _ i _ => a - (intOf i).toNat)
  case atStart => exact ⟨0, Nat.zero_le _, rfl, own_empty rfl (Nat.le_refl _), (Below.refl _ _).alloc (Nat.le_refl _) _⟩
  case round =>
    obtain ⟨k, hk, rfl, hown, hbl⟩ := hrel
    have hsr := hbl.size
    by_cases hlt : k < a
    · have hpow := Sh.pow64 k (by omega)
      have HN := hide (show Sh.nv64 ((List.range (k + 1)).map (2 ^ ·)) = Sh.nv64 ((List.range k).map (2 ^ ·)) ++ [.int .u64 ((2 ^ k : Nat) : Int)] by unfold Sh.nv64; rw [List.range_succ, List.map_append, List.map_append]; rfl)
      generalize hT : 2 ^ k = T at *
      clear hT
      go_wp2_with (at_builtin; refine append1x _ rfl (.tmp 17) (.tmp 21) 83 rfl w1.heap.size 94 i0 (.int .u64 0) 1 8 Try.underlying83 hi hz0 hz1 hz2 rfl (by decide) (by decide) _ _ _ _ rfl hown rfl rfl (by simp; rfl) (by omega) (by omega) ?_; intro v' w3 hown3 hb3 hg3 hf3)
      go_roundw
      case rel => exact ⟨k + 1, by omega, by go_num, by rw [HN.out]; exact hown3, hbl.trans hb3⟩
      case measure => simp [intOf]; omega
    · have hka' : k = a := by omega
      subst hka'
      have e0 := keepc hbl hsz 0 hc0
      have e1 := keepc hbl hsz 1 hc1
      have e2 := keepc hbl hsz 2 hc2
      have e3 := keepc hbl hsz 3 hc3
      have e4 := keepc hbl hsz 4 hc4
      clear hc0 hc1 hc2 hc3 hc4
      go_wp2_with fail
      refine (HPa.out _).mono ?_
      rintro e w2 ⟨v2, rfl, hown2, hb2⟩
      obtain ⟨g, cap, rfl, hgb, hg, hcap, hcells⟩ := own_form hown2 hMR1
      have hs2 := hb2.size
      have HC := hide hcells
      have hown' := own_below hown hb2
      clear hcells hown2
      go_wp2_with (at_builtin; refine appendX _ rfl (.tmp 26) (.tmp 27) 83 rfl w1.heap.size 94 i0 (.int .u64 0) 1 8 Try.underlying83 hi hz0 hz1 hz2 rfl (by decide) _ _ _ rfl hown' ⟨g, 0, none⟩ b cap (P.map (Value.int .u64)) rfl HPl.out (fun j u hu => by rw [addr_add]; exact HC.out j u hu) HPo.out hMR1 (by unfold maxLen; omega) (by omega) (by omega) ?_; intro v3 w3 hown3 hb3 hg3 hf3)
      go_ret
      exact ⟨_, rfl, own_mono hown3 (by omega), ((((Below.refl _ _).alloc (Nat.le_refl _) _).trans (hb1.mono (by simp))).trans (hbl.mono (by omega))).trans ((hb2.mono (by omega)).trans (hb3.mono (by omega)))⟩
end Go.Proofs.Ythhbpofcemoflab
