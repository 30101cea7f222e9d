import Derived.Test.YthhbpofcemoflabN2
namespace Go.Proofs.Ythhbpofcemoflab
open Go.RowKit
set_option maxRecDepth 20000
theorem row_set {w : World} {base : Nat} {e : TypeId} {g n cap j : Nat} {xs : List Value} (h : w.ownsRow base e 1 (.slice (some ⟨g, 0, none⟩) n cap) n xs) (u : Value) : (w.setCell ⟨g, j, none⟩ u).ownsRow base e 1 (.slice (some ⟨g, 0, none⟩) n cap) n (xs.set j u) := by
  obtain ⟨hl, h⟩ := h
  refine ⟨by rw [List.length_set]; exact hl, ?_⟩
  rcases h with ⟨hc, _⟩ | ⟨g', cap', cur, hv, hb, hgg, h1, h2, h3, h4⟩
  · cases hc
  · injection hv with hv1 hv2 hv3
    injection hv1 with hv1
    injection hv1 with hv1
    subst hv1
    subst hv3
    exact Or.inr ⟨g, cap, cur.setIfInBounds j u, rfl, hb, blk_set hgg, h1, h2, by rw [Array.size_setIfInBounds]; exact h3, by rw [Array.toList_setIfInBounds, ← h4, List.take_set]⟩
theorem row_frozen {w : World} {base : Nat} {e : TypeId} {g n cap : Nat} {xs : List Value} (h : w.ownsRow base e 1 (.slice (some ⟨g, 0, none⟩) n cap) n xs) (j : Nat) : w.frozen? ⟨g, j, none⟩ = false := by
  rcases h.2 with ⟨hc, _⟩ | ⟨g', cap', cur, hv, hb, hgg, h1, h2, h3, h4⟩
  · cases hc
  · injection hv with hv1 hv2 hv3
    injection hv1 with hv1
    injection hv1 with hv1
    subst hv1
    exact blk_frozen hgg j
set_option maxHeartbeats 4000000 in
theorem more_any (c b : Int) (w : World) (hl : -9223372036854775808 ≤ c) (hlb : -9223372036854775808 ≤ b) : Calls Try.prog 20 #[.int .i64 c, .int .i64 b] w fun e w' => e = .returned (.bool true) ∧ Below w.heap.size w w' := by
  obtain ⟨i0, hi, hz0, hz1, hz2⟩ := info_parts Try.infoInt
  go_enter Try.func20, Try.ntmps20
  go_wp2_with fail
  refine (codes_any c _ hl).mono ?_
  rintro e w1 ⟨t, ht, rfl, hb1⟩
  have hOk0 := Sh.cds_ok t ht
  obtain ⟨kind, K, M, N, gd⟩ := t
  simp only at hOk0
  clear ht
  have HOk := hide hOk0
  clear hOk0
  go_wp2_with fail
  refine (best_ok kind K M N gd _ HOk.out).mono ?_
  rintro e w2 ⟨cb, rfl, hcb, hco, hb2⟩
  obtain ⟨hK, hM, h10, hR1, hR2, hKR, hMR, hPL⟩ := HOk.out.bounds
  have hsv := (hb2.block w1.heap.size (by simp)).trans (heap_alloc_new w1 _)
  have hsz2 := hb2.size
  simp only [World.size_alloc] at hsz2 hcb
  have s1 : w2.cell? ⟨w1.heap.size, 1, none⟩ = some (.int .i64 K) := blk_cell hsv rfl
  have s2 : w2.cell? ⟨w1.heap.size, 2, none⟩ = some (.int .i64 M) := blk_cell hsv rfl
  have hcbz := blk_lt hco
  have HPr := hide (fun (wx : World) (v : Value) (base : Nat) (l : List Int) (hbx : Below w2.heap.size w2 wx) => program_err cb kind K M N gd v base l wx HOk.out (Nat.lt_of_lt_of_le hcbz hbx.size) (keepc hbx hcbz 0 (blk_cell hco rfl)) (keepc hbx hcbz 1 (blk_cell hco rfl)) (keepc hbx hcbz 2 (blk_cell hco rfl)) (keepc hbx hcbz 3 (blk_cell hco rfl)) (keepc hbx hcbz 4 (blk_cell hco rfl)))
  have HRe := hide (fun (wx : World) (v : Value) (base : Nat) (l : List Int) (hbx : Below w2.heap.size w2 wx) => reconstruct_err cb kind K M N gd (.slice none 0 0) v base l wx HOk.out (Nat.lt_of_lt_of_le hcbz hbx.size) (keepc hbx hcbz 0 (blk_cell hco rfl)) (keepc hbx hcbz 1 (blk_cell hco rfl)) (keepc hbx hcbz 2 (blk_cell hco rfl)) (keepc hbx hcbz 3 (blk_cell hco rfl)) (keepc hbx hcbz 4 (blk_cell hco rfl)))
  have hlow2 : Below w.heap.size w w2 := (hb1.trans (((Below.refl w1.heap.size w1).alloc (Nat.le_refl _) _).mono hb1.size)).trans (hb2.mono (by have := hb1.size; simp; omega))
  have hb1s := hb1.size
  have hrp := Sh.pk_in b ((K : Int) + (M : Int)) (by omega)
  have HPk := hide (fun (wx : World) => pick_eq b ((K : Int) + (M : Int)) wx hlb (by omega))
  have HP9 := hide (fun (wx : World) => pick_eq b 9 wx hlb (by decide))
  have hr9 := Sh.pk_in b 9 (by decide)
  generalize hr0 : Sh.pk b ((K : Int) + (M : Int)) = r at *
  generalize hr9' : Sh.pk b 9 = r9 at *
  have eK : ((K : Int) + (M : Int) == 0) = false := by simp; omega
  clear hsv hco hb2
  go_wp2_with fail
  go_loopw [8, 9] (fun v ki wr => ∃ k : Nat, k ≤ M + 1 ∧ ki = .int .i64 k ∧ wr.ownsRow w2.heap.size 3 1 v k ((Sh.turns (K + M) r k).map (Value.int .i64)) ∧ Below w2.heap.size w2 wr) (fun _ ki _ => M + 1 - (intOf ki).toNat)
  case atStart => exact ⟨0, Nat.zero_le _, rfl, World.ownsRow_nil _ _ _ _, Below.refl _ _⟩
  case round =>
    obtain ⟨k, hk, rfl, hown, hbl⟩ := hrel
    have hsr := hbl.size
    have q1 := keepc hbl (by omega) 1 s1
    have q2 := keepc hbl (by omega) 2 s2
    by_cases hlk : k ≤ M
    · have Hown := hide hown
      clear hown
      go_wp2_with (first | (go_at_call 11; refine (HPk.out _).mono ?_; rintro e w3 ⟨rfl, rfl⟩) | (at_builtin; refine append1x _ rfl (.tmp 33) (.tmp 41) 63 rfl w2.heap.size 3 i0 (.int .i64 0) 1 8 Try.underlying63 hi hz0 hz1 hz2 rfl (by decide) (by decide) _ _ _ _ rfl Hown.out rfl rfl (by simp; rfl) (by omega) (by omega) ?_; intro v' w4 hown4 hb4 hg4 hf4))
      go_roundw
      case rel => exact ⟨k + 1, by omega, by go_num, by rw [Sh.turns_take]; simpa using hown4, hbl.trans hb4⟩
      case measure => simp [intOf]; omega
    · have hkM : k = M + 1 := by omega
      subst hkM
      obtain ⟨g, cap, hv, hgb, hgz, hcap, hcells⟩ := own_form hown (by omega)
      subst hv
      have HL0 := hide (Sh.many_first (K := K) (M := M) (r := r) hK)
      have HLin := hide (Sh.turns_in (n := K + M) (r := r) (m := M + 1) (by omega))
      have HLl := hide (Sh.turns_len (K + M) r (M + 1))
      generalize hL : Sh.turns (K + M) r (M + 1) = L at *
      have hB : ∀ i ∈ L, -9223372036854775808 ≤ i ∧ i ≤ 9223372036854775807 := fun i hi => by have := HLin.out i hi; omega
      have HR1 := hide (HPr.out wr _ _ L hbl (by rw [HLl.out]; exact hown) (by rw [HLl.out]; omega) (by rw [HLl.out]; omega) hB 4 (Or.inr rfl) HL0.out)
      have Hown := hide hown
      clear hown hcells hL
      go_wp2_with fail
      refine HR1.out.mono ?_
      rintro e w3 ⟨rfl, hb3⟩
      have hown3 := own_below Hown.out hb3
      have hbl3 := hbl.trans (hb3.mono hsr)
      have HR2 := hide (HRe.out w3 _ _ L hbl3 (by rw [HLl.out]; exact hown3) (by rw [HLl.out]; omega) (by rw [HLl.out]; omega) hB 4 (Or.inr rfl) HL0.out)
      have Hown3 := hide hown3
      have hs3 := hb3.size
      clear hown3
      go_wp2_with fail
      refine HR2.out.mono ?_
      rintro e w4 ⟨rfl, hb4⟩
      have hown4 := own_below Hown3.out hb4
      have hbl4 := hbl3.trans (hb4.mono (by omega))
      have hs4 := hb4.size
      obtain ⟨a, ha⟩ : ∃ a, L[0]? = some a := ⟨_, List.getElem?_eq_getElem (by rw [HLl.out]; omega)⟩
      obtain ⟨z, hz⟩ : ∃ z, L[M]? = some z := ⟨_, List.getElem?_eq_getElem (by rw [HLl.out]; omega)⟩
      have x0 : w4.cell? ⟨g, 0, none⟩ = some (.int .i64 a) := own_cells hown4 0 _ (by rw [List.getElem?_map, ha]; rfl)
      have xM : w4.cell? ⟨g, M, none⟩ = some (.int .i64 z) := own_cells hown4 M _ (by rw [List.getElem?_map, hz]; rfl)
      have xf := row_frozen hown4 M
      have x2 := keepc hb4 (by omega) 2 (keepc hb3 (by omega) 2 q2)
      have Hown4 := hide hown4
      have Ha := hide ha
      have haB := hB a (List.mem_of_getElem? ha)
      clear hown4 ha hz q1 q2
      go_wp2_with fail
      go_region
      have hb5 : Below w2.heap.size w4 (w4.setCell ⟨g, M, none⟩ (.int .i64 a)).drew := ((Below.refl _ _).setCell hgb _).drew
      have hown5 : (w4.setCell ⟨g, M, none⟩ (.int .i64 a)).drew.ownsRow w2.heap.size 3 1 (.slice (some ⟨g, 0, none⟩) (M + 1) cap) (M + 1) ((L.set M a).map (Value.int .i64)) := by
        rw [List.map_set]
        exact own_below (row_set Hown4.out (.int .i64 a)) ((Below.refl _ _).drew)
      have x5 : (w4.setCell ⟨g, M, none⟩ (.int .i64 a)).drew.cell? ⟨w1.heap.size, 2, none⟩ = some (.int .i64 M) := by
        have : ((w4.setCell ⟨g, M, none⟩ (.int .i64 a)).drew).heap[w1.heap.size]? = w4.heap[w1.heap.size]? := Below.heap_setCell _ _ _ _ (by simp; omega)
        exact (World.cell?_of_block this).trans x2
      have hbl5 := hbl4.trans hb5
      have hs5 : (w4.setCell ⟨g, M, none⟩ (.int .i64 a)).drew.heap.size = w4.heap.size := by show (w4.setCell ⟨g, M, none⟩ (.int .i64 a)).heap.size = _; simp [World.setCell]
      generalize hW5 : (w4.setCell ⟨g, M, none⟩ (.int .i64 a)).drew = w5 at *
      have hL5 : (L.set M a).length = M + 1 := by rw [List.length_set]; exact HLl.out
      have hB5 : ∀ i ∈ L.set M a, -9223372036854775808 ≤ i ∧ i ≤ 9223372036854775807 := fun i hi => (List.mem_or_eq_of_mem_set hi).elim (fun h => hB i h) (fun h => h ▸ haB)
      have HR3 := hide (HPr.out w5 _ _ (L.set M a) hbl5 (by rw [hL5]; exact hown5) (by rw [hL5]; omega) (by rw [hL5]; omega) hB5 3 (Or.inl rfl) (Sh.many_dup hM HLl.out Ha.out))
      have Hown5 := hide hown5
      clear hown5 hW5 x0 xM xf x2 hB5
      go_wp2_with fail
      refine HR3.out.mono ?_
      rintro e w6 ⟨rfl, hb6⟩
      have hs6 := hb6.size
      have hown6 := own_below Hown5.out hb6
      have hbl6 := hbl5.trans (hb6.mono (by omega))
      obtain ⟨z, hz⟩ : ∃ z, (L.set M a)[M]? = some z := ⟨_, List.getElem?_eq_getElem (by rw [hL5]; omega)⟩
      have yM : w6.cell? ⟨g, M, none⟩ = some (.int .i64 z) := own_cells hown6 M _ (by rw [List.getElem?_map, hz]; rfl)
      have yf := row_frozen hown6 M
      have y2 := keepc hb6 (by omega) 2 x5
      have Hown6 := hide hown6
      clear hown6 hz x5
      go_wp2_with fail
      go_region_with ((go_at_call 11; refine (HP9.out _).mono ?_; rintro e w7 ⟨rfl, rfl⟩))
      all_goals
        have hw9 : IntKind.i64.wrap ((K : Int) + (M : Int) + r9) = (K : Int) + (M : Int) + r9 := by rw [IntKind.wrap_i64]; omega
        rw [hw9]
        have hb7 : Below w2.heap.size w6 (w6.setCell ⟨g, M, none⟩ (.int .i64 ((K : Int) + (M : Int) + r9))).drew := ((Below.refl _ _).setCell hgb _).drew
        have hown7 : (w6.setCell ⟨g, M, none⟩ (.int .i64 ((K : Int) + (M : Int) + r9))).drew.ownsRow w2.heap.size 3 1 (.slice (some ⟨g, 0, none⟩) (M + 1) cap) (M + 1) (((L.set M a).set M ((K : Int) + (M : Int) + r9)).map (Value.int .i64)) := by
          rw [List.map_set (l := L.set M a)]
          exact own_below (row_set Hown6.out (.int .i64 _)) ((Below.refl _ _).drew)
        have hbl7 := hbl6.trans hb7
        have hs7 : (w6.setCell ⟨g, M, none⟩ (.int .i64 ((K : Int) + (M : Int) + r9))).drew.heap.size = w6.heap.size := by show (w6.setCell ⟨g, M, none⟩ (.int .i64 ((K : Int) + (M : Int) + r9))).heap.size = _; simp [World.setCell]
        generalize hW7 : (w6.setCell ⟨g, M, none⟩ (.int .i64 ((K : Int) + (M : Int) + r9))).drew = w7 at *
        have hL7 : ((L.set M a).set M ((K : Int) + (M : Int) + r9)).length = M + 1 := by rw [List.length_set]; exact hL5
        have hB7 : ∀ i ∈ (L.set M a).set M ((K : Int) + (M : Int) + r9), -9223372036854775808 ≤ i ∧ i ≤ 9223372036854775807 := fun i hi => (List.mem_or_eq_of_mem_set hi).elim (fun h => (List.mem_or_eq_of_mem_set h).elim (fun h => hB i h) (fun h => h ▸ haB)) (fun h => by rw [h]; omega)
        have HR4 := hide (HRe.out w7 _ _ _ hbl7 (by rw [hL7]; exact hown7) (by rw [hL7]; omega) (by rw [hL7]; omega) hB7 3 (Or.inl rfl) (Sh.many_out hL5 (by omega)))
        clear hown7 hW7 yM yf y2 hB7 hw9
        go_wp2_with fail
        refine HR4.out.mono ?_
        rintro e w8 ⟨rfl, hb8⟩
        go_wp2
        go_ret
        exact ⟨rfl, hlow2.trans ((hbl7.trans (hb8.mono (by omega))).mono (by omega))⟩
theorem manyT_any (c b : Int) (w : World) (hc : -9223372036854775808 ≤ c ∧ c ≤ 9223372036854775807) (hb : -9223372036854775808 ≤ b ∧ b ≤ 9223372036854775807) : Calls Try.prog 7 #[.int .i64 c, .int .i64 b] w fun e w' => e = .returned (.bool true) ∧ Below w.heap.size w w' := by
  go_enter Try.func7, Try.ntmps7
  go_wp2_with fail
  refine (more_any c b _ hc.1 hb.1).mono ?_
  rintro e w2 ⟨rfl, hb⟩
  go_wp2
  go_ret
  exact ⟨rfl, hb⟩
end Go.Proofs.Ythhbpofcemoflab
