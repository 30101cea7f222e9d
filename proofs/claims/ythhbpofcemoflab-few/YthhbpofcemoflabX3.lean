import Derived.Test.YthhbpofcemoflabX2
import Derived.Test.YthhbpofcemoflabGh
import Derived.Deep.RegionHeld3
namespace Go.Proofs.Ythhbpofcemoflab
open Go.RowKit
set_option maxRecDepth 20000
/-- a byte of a text that was made of numbers -/
theorem str_at {xs : List Int} {s : ByteArray} (hs : s = strOfNums xs) (i : Nat) (x : Int) (hx : xs[i]? = some x) (h0 : 0 ≤ x) (h1 : x < 256) : ∀ h : i < s.size, ((s[i]'h).toNat : Int) = x := by
  subst hs
  intro h
  have e1 : (strOfNums xs).data[i]? = some (UInt8.ofNat x.toNat) := by rw [← Array.getElem?_toList, strOfNums_data, List.getElem?_map, hx]; rfl
  have e : (strOfNums xs)[i]'h = UInt8.ofNat x.toNat := (Array.getElem?_eq_some_iff.1 e1).2
  rw [e]
  obtain ⟨n, rfl⟩ := Int.eq_ofNat_of_zero_le h0
  simp only [Int.toNat_natCast, UInt8.toNat_ofNat']
  omega
theorem str_head {xs : List Int} {s : ByteArray} {a b : Int} {r : List Int} (hs : s = strOfNums xs) (hx : xs = a :: b :: r) : (s.extract 0 2).toList = [UInt8.ofNat a.toNat, UInt8.ofNat b.toNat] := by
  subst hs
  subst hx
  rw [ByteArray.toList_eq, ByteArray.data_extract, Array.toList_extract, strOfNums_data]
  simp
/-- what stands while a text is read -/
structure Sh.RP (w wr : World) (G O B : Nat) (v : Value) (ops : List (Int × Int × Int)) : Prop where
  own : wr.ownsRow (w.heap.size + 2) 98 3 v ops.length (Sh.opCells ops)
  box : wr.heap[w.heap.size + 1]? = some (.cells #[.int .i64 G, .int .i64 O, .int .i64 B, v] 49 (0, 0))
  res : wr.heap[w.heap.size]? = some (.cells #[.int .i64 0, .int .i64 0, .int .i64 0, .slice none 0 0] 49 (0, 0))
  low : Below w.heap.size w wr
theorem take_snoc' {α : Type} {l : List α} {k : Nat} {o : α} (h : l[k]? = some o) : l.take (k + 1) = l.take k ++ [o] := by
  obtain ⟨h1, h2⟩ := List.getElem?_eq_some_iff.1 h
  rw [List.take_succ_eq_append_getElem h1, h2]
set_option maxHeartbeats 2000000 in
theorem read_ok (G O B : Nat) (ops : List (Int × Int × Int)) (s : ByteArray) (w : World) (hG : G ≤ 48) (hO : O ≤ 40) (hB : B ≤ 16) (hn1 : 1 ≤ ops.length) (hn : ops.length ≤ 2048) (hS : Sh.Snd G O B ops) (hs : s = strOfNums (Sh.txt G O B ops)) :
    Calls Try.prog 52 #[.string s] w fun e w' => ∃ go co : Nat, e = .returned (.tuple #[.agg #[.int .i64 G, .int .i64 O, .int .i64 B, .slice (some ⟨go, 0, none⟩) ops.length co], .bool true]) ∧ w'.ownsRow w.heap.size 98 3 (.slice (some ⟨go, 0, none⟩) ops.length co) ops.length (Sh.opCells ops) ∧ Below w.heap.size w w' := by
  obtain ⟨i0, hi, hz0, hz1, hz2⟩ := info_parts Try.infoOp
  have hsz : s.size = 7 + 3 * ops.length := by rw [hs, strOfNums_size, Sh.txt_len]
  have Hs := hide hs
  clear hs
  generalize hL : ops.length = L at *
  have HL := hide hL
  clear hL
  have dsz : decide ((s.size : Int) < 7) = false := decide_eq_false (by omega)
  have hszI : (s.size : Int) = 7 + 3 * (L : Int) := by omega
  have d7 : decide ((7 : Int) + 3 * (L : Int) < 7) = false := decide_eq_false (by omega)
  have hpre : ((s.extract 0 2).toList == [88, 80]) = true := by rw [str_head Hs.out rfl]; rfl
  have HTx := hide (fun (i : Nat) (x : Int) (hx : (Sh.txt G O B ops)[i]? = some x) (h0 : 0 ≤ x) (h1 : x < 256) => str_at Hs.out i x hx h0 h1)
  have f2 := HTx.out 2 (G : Int) rfl (by omega) (by omega)
  have f3 := HTx.out 3 (O : Int) rfl (by omega) (by omega)
  have f4 := HTx.out 4 (B : Int) rfl (by omega) (by omega)
  have f5 := HTx.out 5 ((L : Int) % 256) (by rw [← HL.out]; rfl) (by omega) (by omega)
  have f6 := HTx.out 6 ((L : Int) / 256) (by rw [← HL.out]; rfl) (by omega) (by omega)
  have hor := Sh.len_or L hn
  have hne : (((7 : Int) + 3 * (L : Int)) != (7 + (L : Int) * 3)) = false := by rw [Int.mul_comm]; simp
  go_enter Try.func52, Try.ntmps52
  go_wp2
  go_quiet (fail)
  go_wp2
  go_region
  go_wp2
  have hRP : Sh.RP w (((w.alloc (.cells #[.int .i64 0, .int .i64 0, .int .i64 0, .slice none 0 0] 49)).drewN (nq + 1)).alloc (.cells #[.int .i64 G, .int .i64 O, .int .i64 B, .slice none 0 0] 49)) G O B (.slice none 0 0) [] :=
    ⟨World.ownsRow_nil _ _ _ _, heap_new2 w _ _, heap_new1 w _ _, (below_allocN w _ _).alloc (by simp) _⟩
  have HRP := hide hRP
  clear hRP f2 f3 f4 f5 f6 hpre hor dsz d7
  go_loopw [6] (fun i wr => ∃ (k A : Nat) (a : Option Addr) (n c : Nat), k ≤ L ∧ A = 7 + 3 * k ∧ i = .int .i64 A ∧ Sh.RP w wr G O B (.slice a n c) (ops.take k)) (fun i _ => 7 + 3 * L - (intOf i).toNat)
  case atStart => exact ⟨0, 7, none, 0, 0, Nat.zero_le _, rfl, rfl, HRP.out⟩
  case round =>
    clear HRP
    obtain ⟨k, A, a, n, c, hk, hA, rfl, hrp⟩ := hrel
    have HA := hide hA
    by_cases hlt : k < L
    · have hA7 : A + 3 ≤ 7 + 3 * L := by omega
      have hA6 : A ≤ 7000 := by omega
      have i0' : (A : Int) < 7 + 3 * (L : Int) := by omega
      obtain ⟨A1, hA1⟩ : ∃ A1, A1 = A + 1 := ⟨_, rfl⟩
      obtain ⟨A2, hA2⟩ : ∃ A2, A2 = A + 2 := ⟨_, rfl⟩
      have i1' : (A1 : Int) < 7 + 3 * (L : Int) := by omega
      have i2' : (A2 : Int) < 7 + 3 * (L : Int) := by omega
      have w1' : IntKind.i64.wrap ((A : Int) + 1) = (A1 : Int) := by rw [IntKind.wrap_i64]; omega
      have w2' : IntKind.i64.wrap ((A : Int) + 2) = (A2 : Int) := by rw [IntKind.wrap_i64]; omega
      have HA1 := hide hA1
      have HA2 := hide hA2
      clear hA1 hA2
      clear hA
      obtain ⟨o, hoq⟩ : ∃ o, ops[k]? = some o := ⟨_, List.getElem?_eq_getElem (by rw [HL.out]; exact hlt)⟩
      have ht := Sh.txt_get (G := G) (O := O) (B := B) hoq
      have hby := Sh.snd_byte hS hG hO hB hoq
      obtain ⟨kd, ot, os⟩ := o
      simp only at ht hby
      obtain ⟨⟨b1, b2⟩, ⟨b3, b4⟩, ⟨b5, b6⟩⟩ := hby
      have g0 := HTx.out A kd (by rw [HA.out]; exact ht.1) b1 (by omega)
      have g1 := HTx.out A1 ot (by rw [HA1.out, HA.out]; exact ht.2.1) b3 (by omega)
      have g2 := HTx.out A2 os (by rw [HA2.out, HA.out]; exact ht.2.2) b5 (by omega)
      have hlen : (ops.take k).length = k := by rw [List.length_take, HL.out]; omega
      have hown := hrp.own
      rw [hlen] at hown
      have hvs := own_slice hown
      obtain ⟨a', c', hv'⟩ := hvs
      injection hv' with e1 e2 e3
      subst e2
      clear e1 e3 a' c'
      have HOwn := hide hown
      have hbox := hrp.box
      have c3 := blk_cell (j := 3) hbox rfl
      have f3 := blk_frozen hbox 3
      have hbz := blk_lt hbox
      have Hbox := hide hbox
      have Hoq := hide hoq
      have hnb : some (w.heap.size + 1) ≠ (Value.slice a n c).ownBlock := fun h => by
        have := (hown.lt (w.heap.size + 1) h.symm).1
        omega
      have wk : IntKind.i64.wrap kd = kd := by rw [IntKind.wrap_i64]; omega
      have wt : IntKind.i64.wrap ot = ot := by rw [IntKind.wrap_i64]; omega
      have ws : IntKind.i64.wrap os = os := by rw [IntKind.wrap_i64]; omega
      have Hlen := hide hlen
      have HRP := hide hrp
      clear hbox hown ht hoq hlen hrp
      go_wp2
      refine wp_region_any (by kernel_rfl) ?_
      try (change wpAny _ _ _ _ _ _ _ (World.drew _))
      refine wpAny_take (i := 0) (v := ?_) rfl (by kernel_rfl) (by kernel_rfl) (by kernel_rfl) (fun _ _ _ h => h) (Or.inl ⟨by rfl, ?_⟩) ?_
      rotate_left
      · intro w
        go_simp
        try with_reducible rfl
      refine wpAny_take (i := 2) (v := ?_) rfl (by kernel_rfl) (by kernel_rfl) (by kernel_rfl) (fun _ _ _ h => h) (Or.inl ⟨by rfl, ?_⟩) ?_
      rotate_left
      · intro w
        go_simp
        try with_reducible rfl
      refine wpAny_take (i := 3) (v := ?_) rfl (by kernel_rfl) (by kernel_rfl) (by kernel_rfl) (fun _ _ _ h => h) (Or.inl ⟨by rfl, ?_⟩) ?_
      rotate_left
      · intro w
        go_simp
        try with_reducible rfl
      refine wpAny_take (i := 4) (v := ?_) rfl (by kernel_rfl) (by kernel_rfl) (by kernel_rfl) (fun _ _ _ h => h) (Or.inl ⟨by rfl, ?_⟩) ?_
      rotate_left
      · intro w
        go_simp
        try with_reducible rfl
      refine wpAny_take (i := 5) (v := ?_) rfl (by kernel_rfl) (by kernel_rfl) (by kernel_rfl) (fun _ _ _ h => h) (Or.inl ⟨by rfl, ?_⟩) ?_
      rotate_left
      · intro w
        go_simp
        try with_reducible rfl
      refine wpAny_take (i := 6) (v := ?_) rfl (by kernel_rfl) (by kernel_rfl) (by kernel_rfl) (fun _ _ _ h => h) (Or.inl ⟨by rfl, ?_⟩) ?_
      rotate_left
      · intro w
        go_simp
        try with_reducible rfl
      refine wpAny_take (i := 7) (v := ?_) rfl (by kernel_rfl) (by kernel_rfl) (by kernel_rfl) (fun _ _ _ h => h) (Or.inl ⟨by rfl, ?_⟩) ?_
      rotate_left
      · intro w
        go_simp
        try with_reducible rfl
      refine wpAny_take (i := 8) (v := ?_) rfl (by kernel_rfl) (by kernel_rfl) (by kernel_rfl) (fun _ _ _ h => h) (Or.inl ⟨by rfl, ?_⟩) ?_
      rotate_left
      · intro w
        go_simp
        try with_reducible rfl
      refine wpAny_take (i := 9) (v := ?_) rfl (by kernel_rfl) (by kernel_rfl) (by kernel_rfl) (fun _ _ _ h => h) (Or.inl ⟨by rfl, ?_⟩) ?_
      rotate_left
      · intro w
        go_simp
        try with_reducible rfl
      refine wpAny_take (i := 10) (v := ?_) rfl (by kernel_rfl) (by kernel_rfl) (by kernel_rfl) (fun _ _ _ h => h) (Or.inl ⟨by rfl, ?_⟩) ?_
      rotate_left
      · intro w
        go_simp
        try with_reducible rfl
      refine wpAny_take (i := 11) (v := ?_) rfl (by kernel_rfl) (by kernel_rfl) (by kernel_rfl) (fun _ _ _ h => h) (Or.inl ⟨by rfl, ?_⟩) ?_
      rotate_left
      · intro w
        go_simp
        try with_reducible rfl
      refine wpAny_take (i := 12) (v := ?_) rfl (by kernel_rfl) (by kernel_rfl) (by kernel_rfl) (fun _ _ _ h => h) (Or.inl ⟨by rfl, ?_⟩) ?_
      rotate_left
      · intro w
        go_simp
        try with_reducible rfl
      refine wpAny_take (i := 13) (v := ?_) rfl (by kernel_rfl) (by kernel_rfl) (by kernel_rfl) (fun _ _ _ h => h) (Or.inl ⟨by rfl, ?_⟩) ?_
      rotate_left
      · intro w
        go_simp
        try with_reducible rfl
      refine wpAny_take (i := 14) (v := ?_) rfl (by kernel_rfl) (by kernel_rfl) (by kernel_rfl) (fun _ _ _ h => h) (Or.inl ⟨by rfl, ?_⟩) ?_
      rotate_left
      · intro w
        go_simp
        try with_reducible rfl
      refine wpAny_take (i := 15) (v := ?_) rfl (by kernel_rfl) (by kernel_rfl) (by kernel_rfl) (fun _ _ _ h => h) (Or.inl ⟨by rfl, ?_⟩) ?_
      rotate_left
      · intro w
        go_simp
        try with_reducible rfl
      refine wpAny_take (i := 16) (v := ?_) rfl (by kernel_rfl) (by kernel_rfl) (by kernel_rfl) (fun _ _ _ h => h) (Or.inl ⟨by rfl, ?_⟩) ?_
      rotate_left
      · intro w
        go_simp
        try with_reducible rfl
      refine wpAny_ready (rs := [1, 17]) (by decide +kernel) (by simp) ?_
      refine AllReady.cons rfl (fun K hK => ?_) ?_
      · go_simp
        refine hK _ _ ?_
        clear hK K
        refine wpAny_ready (rs := [17]) (by decide +kernel) (by simp) ?_
        refine AllReady.cons rfl (fun K hK => ?_) AllReady.nil
        go_simp
        refine hK _ _ ?_
        clear hK K
        refine wpAny_ready (rs := [18]) (by decide +kernel) (by simp) ?_
        refine AllReady.cons rfl (fun K hK => ?_) AllReady.nil
        (refine step_append_lies _ (by rfl) (.tmp 49) (.tmp 65) 47 (by rfl) (w.heap.size + 2) 98 i0 (.agg #[.int .i64 0, .int .i64 0, .int .i64 0]) 3 24 Try.underlying47 hi hz0 hz1 hz2 (by rfl) (by decide) _ _ _ (by rfl) (by exact HOwn.out.alloc _) ⟨wr.heap.size, 0, none⟩ 1 1 [.int .i64 kd, .int .i64 ot, .int .i64 os] (by rfl) (by rfl) (by exact World.news_of_block (cs := #[.int .i64 kd, .int .i64 ot, .int .i64 os]) (t := 98) (fr := (0, 0)) (heap_alloc_new wr _)) (by intro u hu; simp at hu; rcases hu with rfl | rfl | rfl <;> rfl) (by omega) (by unfold maxLen; omega) (by omega) (by simp; omega) (wr.heap.size + 1) (by simp) ?_; intro g2 cap2 w2 hown2 hgrow2 hat2 hlt2; have hm2 := (hgrow2.block (w.heap.size + 1) (by simp; omega) hnb).trans ((Below.heap_alloc _ _ _ hbz).trans Hbox.out); have hm20 := blk_cell (j := 3) hm2 rfl; have hm2f := blk_frozen hm2 3; have Hm2 := hide hm2; clear hm2)
        try go_simp
        refine hK _ _ ?_
        clear hK K
        refine wpAny_ready (rs := [19]) (by decide +kernel) (by simp) ?_
        refine AllReady.cons rfl (fun K hK => ?_) AllReady.nil
        go_simp
        refine hK _ _ ?_
        clear hK K
        refine wpAny_ready (rs := [20]) (by decide +kernel) (by simp) ?_
        refine AllReady.cons rfl (fun K hK => ?_) AllReady.nil
        go_simp
        refine hK _ _ ?_
        clear hK K
        refine wpAny_done (by decide +kernel) ?_ _
        go_wp2
        go_roundw
        case rel =>
          refine ⟨n + 1, A + 3, some ⟨g2, 0, none⟩, n + 1, cap2, by omega, by rw [HA.out]; omega, by go_num, ?_, ?_, ?_, ?_⟩
          · rw [take_snoc' Hoq.out, List.length_append, Hlen.out, Sh.opCells_snoc]
            exact ownsRow_setCell_below hown2 (by simp) _
          · simpa using blk_set (j := 3) (u := .slice (some ⟨g2, 0, none⟩) (n + 1) cap2) Hm2.out
          · rw [Below.heap_setCell _ _ _ _ (by simp)]
            exact ((hgrow2.block w.heap.size (by simp; omega) (fun h => by have := (HOwn.out.lt w.heap.size h.symm).1; omega)).trans (Below.heap_alloc _ _ _ (by omega))).trans HRP.out.res
          · exact ((HRP.out.low.alloc (by omega) (.cells #[.int .i64 kd, .int .i64 ot, .int .i64 os] 98)).grown ⟨hgrow2.os, hgrow2.tape, hgrow2.output, hgrow2.size, hgrow2.block⟩ (by simp; omega) (fun k hk => by have := (HOwn.out.lt k hk).1; omega)).setCell (by simp) _
        case measure => simp [intOf]; omega
      · refine AllReady.cons rfl (fun K hK => ?_) AllReady.nil
        go_simp
        refine hK _ _ ?_
        clear hK K
        refine wpAny_ready (rs := [1]) (by decide +kernel) (by simp) ?_
        refine AllReady.cons rfl (fun K hK => ?_) AllReady.nil
        go_simp
        refine hK _ _ ?_
        clear hK K
        refine wpAny_ready (rs := [18]) (by decide +kernel) (by simp) ?_
        refine AllReady.cons rfl (fun K hK => ?_) AllReady.nil
        (refine step_append_lies _ (by rfl) (.tmp 49) (.tmp 65) 47 (by rfl) (w.heap.size + 2) 98 i0 (.agg #[.int .i64 0, .int .i64 0, .int .i64 0]) 3 24 Try.underlying47 hi hz0 hz1 hz2 (by rfl) (by decide) _ _ _ (by rfl) (by exact HOwn.out.alloc _) ⟨wr.heap.size, 0, none⟩ 1 1 [.int .i64 kd, .int .i64 ot, .int .i64 os] (by rfl) (by rfl) (by exact World.news_of_block (cs := #[.int .i64 kd, .int .i64 ot, .int .i64 os]) (t := 98) (fr := (0, 0)) (heap_alloc_new wr _)) (by intro u hu; simp at hu; rcases hu with rfl | rfl | rfl <;> rfl) (by omega) (by unfold maxLen; omega) (by omega) (by simp; omega) (wr.heap.size + 1) (by simp) ?_; intro g2 cap2 w2 hown2 hgrow2 hat2 hlt2; have hm2 := (hgrow2.block (w.heap.size + 1) (by simp; omega) hnb).trans ((Below.heap_alloc _ _ _ hbz).trans Hbox.out); have hm20 := blk_cell (j := 3) hm2 rfl; have hm2f := blk_frozen hm2 3; have Hm2 := hide hm2; clear hm2)
        try go_simp
        refine hK _ _ ?_
        clear hK K
        refine wpAny_ready (rs := [19]) (by decide +kernel) (by simp) ?_
        refine AllReady.cons rfl (fun K hK => ?_) AllReady.nil
        go_simp
        refine hK _ _ ?_
        clear hK K
        refine wpAny_ready (rs := [20]) (by decide +kernel) (by simp) ?_
        refine AllReady.cons rfl (fun K hK => ?_) AllReady.nil
        go_simp
        refine hK _ _ ?_
        clear hK K
        refine wpAny_done (by decide +kernel) ?_ _
        go_wp2
        go_roundw
        case rel =>
          refine ⟨n + 1, A + 3, some ⟨g2, 0, none⟩, n + 1, cap2, by omega, by rw [HA.out]; omega, by go_num, ?_, ?_, ?_, ?_⟩
          · rw [take_snoc' Hoq.out, List.length_append, Hlen.out, Sh.opCells_snoc]
            exact ownsRow_setCell_below hown2 (by simp) _
          · simpa using blk_set (j := 3) (u := .slice (some ⟨g2, 0, none⟩) (n + 1) cap2) Hm2.out
          · rw [Below.heap_setCell _ _ _ _ (by simp)]
            exact ((hgrow2.block w.heap.size (by simp; omega) (fun h => by have := (HOwn.out.lt w.heap.size h.symm).1; omega)).trans (Below.heap_alloc _ _ _ (by omega))).trans HRP.out.res
          · exact ((HRP.out.low.alloc (by omega) (.cells #[.int .i64 kd, .int .i64 ot, .int .i64 os] 98)).grown ⟨hgrow2.os, hgrow2.tape, hgrow2.output, hgrow2.size, hgrow2.block⟩ (by simp; omega) (fun k hk => by have := (HOwn.out.lt k hk).1; omega)).setCell (by simp) _
        case measure => simp [intOf]; omega
    · have hkL : L = k := by omega
      subst hkL
      have hta : ops.take L = ops := List.take_of_length_le (by rw [HL.out]; exact Nat.le_refl _)
      rw [hta] at hrp
      have hown := hrp.own
      rw [HL.out] at hown
      obtain ⟨g, cap, hv, hgb, hgz⟩ := own_form3 hown hn1
      have hbox := hrp.box
      have hres := hrp.res
      have hlow := hrp.low
      rw [hv] at hown hbox
      clear hv hrp hta
      have c0 := blk_cell (j := 0) hbox rfl
      have c1 := blk_cell (j := 1) hbox rfl
      have c2 := blk_cell (j := 2) hbox rfl
      have c3 := blk_cell (j := 3) hbox rfl
      have hbz := blk_lt hbox
      have HSo := hide (by
        have := sound_ok G O B ops (w.heap.size + 2) g cap wr hG hO hB (by rw [HL.out]; exact hn1) (by rw [HL.out]; exact hn) hS (by rw [HL.out]; exact hown)
        rw [HL.out] at this
        exact this : Calls Try.prog 62 #[.agg #[.int .i64 G, .int .i64 O, .int .i64 B, .slice (some ⟨g, 0, none⟩) L cap]] wr fun e w' => e = .returned (.bool true) ∧ Below wr.heap.size wr w')
      have HOwn := hide hown
      have Hbox := hide hbox
      have Hres := hide hres
      clear hown hbox hres
      go_wp2_with fail
      refine HSo.out.mono ?_
      rintro e w5 ⟨rfl, hb5⟩
      have hbox5 := (hb5.block (w.heap.size + 1) hbz).trans Hbox.out
      have hres5 := (hb5.block w.heap.size (by omega)).trans Hres.out
      have d0 := blk_cell (j := 0) hbox5 rfl
      have d1 := blk_cell (j := 1) hbox5 rfl
      have d2 := blk_cell (j := 2) hbox5 rfl
      have d3 := blk_cell (j := 3) hbox5 rfl
      have r0 := blk_cell (j := 0) hres5 rfl
      have r1 := blk_cell (j := 1) hres5 rfl
      have r2 := blk_cell (j := 2) hres5 rfl
      have r3 := blk_cell (j := 3) hres5 rfl
      have rf := blk_frozen hres5
      have hs5 := hb5.size
      go_wp2
      generalize hWf : World.setCell _ _ _ = Wf
      have fow : Wf.ownsRow w.heap.size 98 3 (.slice (some ⟨g, 0, none⟩) L cap) L (Sh.opCells ops) := by
        rw [← hWf]
        refine own_mono (base := w.heap.size + 2) ?_ (by omega)
        iterate 4 refine ownsRow_setCell_below ?_ (by simp) _
        exact own_below HOwn.out hb5
      have fres : Wf.heap[w.heap.size]? = some (.cells #[.int .i64 G, .int .i64 O, .int .i64 B, .slice (some ⟨g, 0, none⟩) L cap] 49 (0, 0)) := by
        rw [← hWf]
        refine (blk_set (j := 3) (blk_set (j := 2) (blk_set (j := 1) (blk_set (j := 0) (c := #[.int .i64 0, .int .i64 0, .int .i64 0, .slice none 0 0]) (t := 49) (f := (0, 0)) hres5)))).trans ?_
        simp
      have fbel : Below w.heap.size w Wf := by
        rw [← hWf]
        exact ((((hlow.trans (hb5.mono (by omega))).setCell (Nat.le_refl _) _).setCell (Nat.le_refl _) _).setCell (Nat.le_refl _) _).setCell (Nat.le_refl _) _
      have q0 : Wf.cell? ⟨w.heap.size, 0, none⟩ = some (.int .i64 G) := blk_cell fres rfl
      have q1 : Wf.cell? ⟨w.heap.size, 1, none⟩ = some (.int .i64 O) := blk_cell fres rfl
      have q2 : Wf.cell? ⟨w.heap.size, 2, none⟩ = some (.int .i64 B) := blk_cell fres rfl
      have q3 : Wf.cell? ⟨w.heap.size, 3, none⟩ = some (.slice (some ⟨g, 0, none⟩) L cap) := blk_cell fres rfl
      clear hWf
      exact bodyPost_ret (v := .tuple #[.agg #[.int .i64 G, .int .i64 O, .int .i64 B, .slice (some ⟨g, 0, none⟩) L cap], .bool true]) (by simp [results, Try.results52, go_sem, q0, q1, q2, q3]) rfl ⟨g, cap, rfl, fow, fbel⟩
end Go.Proofs.Ythhbpofcemoflab
