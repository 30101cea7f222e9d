import Derived.Test.YthhbpofcemoflabQ2
import Derived.Test.YthhbpofcemoflabGe
namespace Go.Proofs.Ythhbpofcemoflab
open Go.RowKit
set_option maxRecDepth 20000
theorem Try.infoWay : (Try.prog.info? 120).map (fun i => (i.zero, i.size, i.bytes)) = some (some (.agg #[.bool false, .int .i64 0, .int .u64 0]), 3, 24) := by kernel_rfl
/-- while the ways are gone -/
structure Sh.DS (w wr : World) (G L gw capw : Nat) (v1 : Value) (ws : List (Bool × Int × Nat)) (ops : List (Int × Int × Int)) : Prop where
  pb : Sh.PB wr (w.heap.size + 1) G L 0 v1 ops
  ways : wr.ownsRow (w.heap.size + 2) 120 3 (.slice (some ⟨gw, 0, none⟩) L capw) L (Sh.wayC ws)
  res : wr.heap[w.heap.size]? = some (.cells #[.int .i64 0, .int .i64 0, .int .i64 0, .slice none 0 0] 49 (0, 0))
  low : Below w.heap.size w wr
theorem Sh.DS.below {w wr w' : World} {G L gw capw : Nat} {v1 : Value} {ws : List (Bool × Int × Nat)} {ops : List (Int × Int × Int)} (h : Sh.DS w wr G L gw capw v1 ws ops) (hb : Below wr.heap.size wr w') : Sh.DS w w' G L gw capw v1 ws ops :=
  ⟨h.pb.below hb, own_below h.ways hb, (hb.block _ (blk_lt h.res)).trans h.res, h.low.trans (hb.mono h.low.size)⟩
theorem Sh.DS.set {w wr : World} {G L gw capw : Nat} {v1 : Value} {ws : List (Bool × Int × Nat)} {ops : List (Int × Int × Int)} (h : Sh.DS w wr G L gw capw v1 ws ops) (j : Nat) (u : Value) :
    Sh.PB (wr.setCell ⟨gw, j, none⟩ u) (w.heap.size + 1) G L 0 v1 ops ∧ (wr.setCell ⟨gw, j, none⟩ u).ownsRow (w.heap.size + 2) 120 3 (.slice (some ⟨gw, 0, none⟩) L capw) L ((Sh.wayC ws).set j u) ∧
    (wr.setCell ⟨gw, j, none⟩ u).heap[w.heap.size]? = some (.cells #[.int .i64 0, .int .i64 0, .int .i64 0, .slice none 0 0] 49 (0, 0)) ∧ Below w.heap.size w (wr.setCell ⟨gw, j, none⟩ u) := by
  obtain ⟨c, hc, hge⟩ := own_blk h.ways
  refine ⟨⟨own_set_other h.pb.own hc (by decide) j u, ?_⟩, own_setz h.ways, ?_, h.low.setCell (by simp; omega) _⟩
  · rw [Below.heap_setCell _ _ _ _ (by simp; omega)]
    exact h.pb.box
  · rw [Below.heap_setCell _ _ _ _ (by simp; omega)]
    exact h.res
theorem Sh.DS.made {w wr : World} {G L gw capw : Nat} {v1 : Value} {ws : List (Bool × Int × Nat)} {ops : List (Int × Int × Int)} (h : Sh.DS w wr G L gw capw v1 ws ops) {j : Nat} {x : Bool × Int × Nat} (hx : ws[j]? = some x) : Sh.DS w (wr.setCell ⟨gw, j * 3, none⟩ (.bool true)) G L gw capw v1 (ws.set j (true, x.2)) ops := by
  obtain ⟨h1, h2, h3, h4⟩ := h.set (j * 3) (.bool true)
  exact ⟨h1, by rw [Sh.wayC_made hx]; exact h2, h3, h4⟩
theorem Sh.DS.put {w wr : World} {G L gw capw : Nat} {v1 : Value} {ws : List (Bool × Int × Nat)} {ops : List (Int × Int × Int)} (h : Sh.DS w wr G L gw capw v1 ws ops) {j : Nat} (hj : j < ws.length) (x : Bool × Int × Nat) : Sh.DS w (((wr.setCell ⟨gw, j * 3, none⟩ (.bool x.1)).setCell ⟨gw, j * 3 + 1, none⟩ (.int .i64 x.2.1)).setCell ⟨gw, j * 3 + 2, none⟩ (.int .u64 (x.2.2 : Int))) G L gw capw v1 (ws.set j x) ops := by
  obtain ⟨c, hc, hge⟩ := own_blk h.ways
  have hc1 := blk_set (j := j * 3) (u := .bool x.1) hc
  have hc2 := blk_set (j := j * 3 + 1) (u := .int .i64 x.2.1) hc1
  refine ⟨⟨own_set_other (own_set_other (own_set_other h.pb.own hc (by decide) _ _) hc1 (by decide) _ _) hc2 (by decide) _ _, ?_⟩, ?_, ?_, ((h.low.setCell (by simp; omega) _).setCell (by simp; omega) _).setCell (by simp; omega) _⟩
  · rw [Below.heap_setCell _ _ _ _ (by simp; omega), Below.heap_setCell _ _ _ _ (by simp; omega), Below.heap_setCell _ _ _ _ (by simp; omega)]
    exact h.pb.box
  · rw [Sh.wayC_set hj]
    exact own_setz (own_setz (own_setz h.ways))
  · rw [Below.heap_setCell _ _ _ _ (by simp; omega), Below.heap_setCell _ _ _ _ (by simp; omega), Below.heap_setCell _ _ _ _ (by simp; omega)]
    exact h.res
theorem Sh.DS.laid {w wr w' : World} {G L gw capw : Nat} {v1 v2 : Value} {ws : List (Bool × Int × Nat)} {ops ops' : List (Int × Int × Int)} (h : Sh.DS w wr G L gw capw v1 ws ops) (hp : Sh.PB w' (w.heap.size + 1) G L 0 v2 ops') (ha : Sh.Ad wr w' (w.heap.size + 1) v1 v2) : Sh.DS w w' G L gw capw v2 ws ops' :=
  ⟨hp, ha.own h.pb.box h.pb.own (by decide) (by decide) h.ways, (h.pb.keep ha (by omega)).trans h.res, h.low.trans (h.pb.low ha (by omega))⟩
theorem Sh.DS.cell {w wr : World} {G L gw capw : Nat} {v1 : Value} {ws : List (Bool × Int × Nat)} {ops : List (Int × Int × Int)} (h : Sh.DS w wr G L gw capw v1 ws ops) {j : Nat} {x : Bool × Int × Nat} (hx : ws[j]? = some x) : wr.cell? ⟨gw, j * 3, none⟩ = some (.bool x.1) ∧ wr.cell? ⟨gw, j * 3 + 1, none⟩ = some (.int .i64 x.2.1) ∧ wr.cell? ⟨gw, j * 3 + 2, none⟩ = some (.int .u64 (x.2.2 : Int)) := by
  obtain ⟨h0, h1, h2⟩ := Sh.wayC_get hx
  exact ⟨own_cells h.ways _ _ h0, own_cells h.ways _ _ h1, own_cells h.ways _ _ h2⟩
theorem Sh.DS.blk {w wr : World} {G L gw capw : Nat} {v1 : Value} {ws : List (Bool × Int × Nat)} {ops : List (Int × Int × Int)} (h : Sh.DS w wr G L gw capw v1 ws ops) : w.heap.size + 2 ≤ gw ∧ gw < wr.heap.size := by
  obtain ⟨c, hc, hge⟩ := own_blk h.ways
  exact ⟨hge, blk_lt hc⟩

set_option maxHeartbeats 2000000 in
theorem dif_ok (G : Nat) (v : Value) (base : Nat) (S : List Nat) (w : World) (hG1 : 1 ≤ G) (hG : G ≤ 48) (hL1 : 1 ≤ S.length) (hL2 : S.length ≤ 40) (hS : ∀ s ∈ S, s < 2 ^ G) (hv : w.ownsRow base 94 1 v S.length (S.map fun (s : Nat) => Value.int .u64 (s : Int))) :
    Calls Try.prog 67 #[.int .i64 G, v] w fun e w' => ∃ vo, e = .returned (.agg #[.int .i64 G, .int .i64 S.length, .int .i64 0, vo]) ∧
      w'.ownsRow w.heap.size 98 3 vo (Sh.dif G S).length (Sh.opCells (Sh.dif G S)) ∧ Below w.heap.size w w' := by
  obtain ⟨i0, hi, hz0, hz1, hz2⟩ := info_parts Try.infoWay
  obtain ⟨g, cap, rfl, _, hgw, hcap, hcells⟩ := own_form hv hL1
  have HCC : Hid (∀ (wr : World), Below w.heap.size w wr → ∀ (j : Nat) (x : Nat), S[j]? = some x → wr.cell? ⟨g, j, none⟩ = some (.int .u64 (x : Int))) := fun wr hb j x hx => keepc hb hgw j (hcells j _ (by simp [hx]))
  have hUS : Sh.US S := ⟨fun s hs => Nat.lt_of_lt_of_le (hS s hs) (Nat.pow_le_pow_right (by decide) (by omega))⟩
  have HI := hide (fun n (hn : n ≤ S.length) => Sh.difN_inv hG1 hG hS n hn)
  have HX := hide (fun (mk : Bool) (f : Int) (s : Nat) (w : World) (hs : Sh.U64 s) => xorsW_ok mk f s w hs.lt)
  obtain ⟨W, hW⟩ : ∃ W : Int → Nat → Nat, W = Sh.wx := ⟨_, rfl⟩
  rw [← hW] at HX
  have HW := hide hW
  clear hW
  clear hcells hv hS
  have HD : Hid (Sh.dif G S = (Sh.difN G S S.length).2) := rfl
  rw [HD.out]
  clear HD
  generalize hL : S.length = L at *
  have HL := hide hL
  clear hL
  go_enter Try.func67, Try.ntmps67
  go_wp2
  go_loopw [6, 8, 20] (fun vw _ i' wr => ∃ k : Nat, k ≤ L ∧ i' = .int .i64 k ∧ wr.ownsRow (w.heap.size + 2) 120 3 vw k (Sh.wayC ((S.take k).map fun s => (false, -1, s))) ∧ Sh.PB wr (w.heap.size + 1) G L 0 (.slice none 0 0) [] ∧ wr.heap[w.heap.size]? = some (.cells #[.int .i64 0, .int .i64 0, .int .i64 0, .slice none 0 0] 49 (0, 0)) ∧ Below w.heap.size w wr) (fun _ _ i _ => L - (intOf i).toNat)
  case atStart =>
    refine ⟨0, Nat.zero_le _, rfl, own_emptyz (by simp) (by omega), ⟨World.ownsRow_nil _ _ _ _, ?_⟩, ?_, (((Below.refl _ _).alloc (Nat.le_refl _) _).alloc (by simp) _).alloc (by simp; omega) _⟩
    · exact (Below.heap_alloc _ _ _ (by simp)).trans (heap_new2 w _ _)
    · exact (Below.heap_alloc _ _ _ (by simp; omega)).trans (heap_new1 w _ _)
  case round =>
    obtain ⟨k, hk, rfl, hown, hpb, hres, hlow⟩ := hrel
    have hsz := blk_lt hpb.box
    by_cases hlt : k < L
    · have hlx : k < S.length := by rw [HL.out]; exact hlt
      have hck := HCC.out wr hlow k _ (List.getElem?_eq_getElem hlx)
      have HT : Hid (Sh.wayC ((S.take (k + 1)).map fun s => (false, -1, s)) = Sh.wayC ((S.take k).map fun s => (false, -1, s)) ++ [.bool false, .int .i64 (-1), .int .u64 ((S[k] : Nat) : Int)]) := by
        show _ = _
        rw [List.take_succ_eq_append_getElem hlx, List.map_append, List.map_singleton, Sh.wayC_snoc]
      have Hpb := hide hpb
      have Hres := hide hres
      generalize hx0 : S[k] = s0 at *
      clear hx0 hpb hres
      go_wp2_with (at_builtin; refine append1x _ rfl (.tmp 24) (.tmp 27) 118 rfl (w.heap.size + 2) 120 i0 (.agg #[.bool false, .int .i64 0, .int .u64 0]) 3 24 Try.underlying118 hi hz0 hz1 hz2 rfl (by decide) (by decide) _ _ _ _ rfl hown rfl rfl (by simp; exact ⟨rfl, rfl, rfl⟩) (by omega) (by omega) ?_; intro v' w2 hown2 hb2 hg2 hf2)
      go_roundw
      case rel => exact ⟨k + 1, by omega, by go_num, by rw [HT.out]; exact hown2, ⟨World.ownsRow_nil _ _ _ _, (hb2.block _ (by omega)).trans Hpb.out.box⟩, (hb2.block _ (by omega)).trans Hres.out, hlow.trans (hb2.mono (by omega))⟩
      case measure => simp [intOf]; omega
    · have hkd : k = L := by omega
      subst hkd
      rw [List.take_of_length_le (by rw [HL.out]; exact Nat.le_refl _)] at hown
      obtain ⟨gw, capw, rfl, _, hgww⟩ := own_form3 hown hL1
      have hDS : Sh.DS w wr G k gw capw (.slice none 0 0) (Sh.difN G S 0).1 (Sh.difN G S 0).2 := ⟨hpb, hown, hres, hlow⟩
      clear hown hpb hres hlow hsz hlt hk
      go_wp2
      go_loopw [9, 10, 11, 12, 32] (fun _ _ _ _ i' wr => ∃ (n : Nat) (v1 : Value), n ≤ k ∧ i' = .int .i64 n ∧ Sh.DS w wr G k gw capw v1 (Sh.difN G S n).1 (Sh.difN G S n).2) (fun _ _ _ _ i _ => k - (intOf i).toNat)
      case atStart => exact ⟨0, _, Nat.zero_le _, rfl, hDS⟩
      case round =>
        clear hDS
        obtain ⟨n, v1, hn, rfl, hds⟩ := hrel
        by_cases hlt : n < k
        · obtain ⟨st, hst⟩ : ∃ st, Sh.difN G S n = st := ⟨_, rfl⟩
          have hdi := HI.out n hn
          have hUW := Sh.UW.difN (G := G) hUS n
          have HNx : Hid (Sh.difN G S (n + 1) = Sh.difS G S st) := by show Sh.difS G S (Sh.difN G S n) = _; rw [hst]
          have HStop : Hid (Sh.cheap st.1 st.1.length = -1 → Sh.difN G S k = st) := fun h => by
            rw [← hst] at h ⊢
            have := Sh.difN_stop h (k - n)
            rw [show n + (k - n) = k by omega] at this
            exact this
          rw [hst] at hds hdi hUW
          have hwl : st.1.length = k := hdi.len.trans HL.out
          have hol := hdi.short
          rw [HL.out] at hol
          clear hst hdi
          obtain ⟨ws, ops⟩ := st
          simp only at hds hUW hwl hol HStop
          have HCh := hide (fun (wx : World) (hx : Sh.DS w wx G k gw capw v1 ws ops) => cheapest_ok _ _ ws wx (by rw [hwl]; exact hL1) (by rw [hwl]; exact hL2) hUW.lt (by rw [hwl]; exact hx.ways))
          rw [hwl] at HCh HStop
          rcases Sh.cheap_is ws k with ⟨hj, _⟩ | ⟨j, hj, hjk, hjm⟩
          · rw [hj] at HCh
            have HFin := hide (HStop.out hj)
            have hds' := hds
            have Hds := hide hds
            clear hj HStop hds
            go_wp2_with (go_at_call 78; refine (HCh.out _ Hds.out).mono ?_; rintro e w1 ⟨rfl, hb1⟩; have hds1 := Hds.out.below hb1; obtain ⟨a, c, hac⟩ := own_sl hds1.pb.own; subst hac; have hc0 := blk_cell (j := 0) hds1.pb.box rfl; have hc1 := blk_cell (j := 1) hds1.pb.box rfl; have hc2 := blk_cell (j := 2) hds1.pb.box rfl; have hc3 := blk_cell (j := 3) hds1.pb.box rfl; have hr0 := blk_cell (j := 0) hds1.res rfl; have hr1 := blk_cell (j := 1) hds1.res rfl; have hr2 := blk_cell (j := 2) hds1.res rfl; have hr3 := blk_cell (j := 3) hds1.res rfl; have hfz := blk_frozen hds1.res; have hsz := blk_lt hds1.pb.box)
            have hown := hds1.pb.own
            have hlow := hds1.low
            refine bodyPost_ret (v := .agg #[.int .i64 G, .int .i64 k, .int .i64 0, .slice a ops.length c]) (by simp [results, Try.results67, go_sem, hr0, hr1, hr2, hr3]) rfl ⟨_, rfl, ?_, ?_⟩
            · rw [HFin.out]
              exact own_mono (ownsRow_setCell_below (ownsRow_setCell_below (ownsRow_setCell_below (ownsRow_setCell_below hown (by simp; omega) _) (by simp; omega) _) (by simp; omega) _) (by simp; omega) _) (by omega)
            · exact (((hlow.setCell (by simp) _).setCell (by simp) _).setCell (by simp) _).setCell (by simp) _
          · rw [hj] at HCh
            obtain ⟨x, hx⟩ : ∃ x, ws[j]? = some x := ⟨_, List.getElem?_eq_getElem (by omega)⟩
            have hxg : ws.getD j Sh.w0 = x := by rw [List.getD_eq_getElem?_getD, hx]; rfl
            rw [hxg] at hjm
            have hux := hUW.lt x (List.mem_of_getElem? hx)
            have hdS := Sh.difS_at (G := G) (S := S) (st := (ws, ops)) (j := j) (by simp only; rw [hwl]; exact hj)
            simp only at hdS
            rw [hxg, hwl, HL.out] at hdS
            have HNx2 := hide (HNx.out.trans hdS)
            obtain ⟨mk, f, s⟩ := x
            simp only at hjm hux HNx2
            subst hjm
            have HFo := hide (fun (wx : World) (hd : Sh.DS w wx G k gw capw v1 (ws.set j (true, f, s)) ops) => follow_ok (w.heap.size + 1) G k 0 ((G : Int) + (j : Int)) true f s v1 ops wx hd.pb hL2 hux (by omega))
            have hUW1 := hUW.set j (true, f, s) hux
            have hwl1 : (ws.set j (true, f, s)).length = k := by rw [List.length_set]; exact hwl
            have Hx := hide hx
            have Hds := hide hds
            clear hj HStop hds hx hxg hdS HNx hUW hux hol
            go_wp2_with fail
            refine (HCh.out _ Hds.out).mono ?_
            rintro e w1 ⟨rfl, hb1⟩
            have hds1 := Hds.out.below hb1
            have hds2 := hds1.made Hx.out
            obtain ⟨c0, c1, c2⟩ := hds1.cell Hx.out
            have hfz := own_frozz hds1.ways
            obtain ⟨hgb, hgl⟩ := hds1.blk
            simp only at c0 c1 c2
            have Hds1 := hide hds1
            have Hds2 := hide hds2
            clear hds1 hds2 hwl
            have hjI : ((j : Int) == -1) = false := beq_eq_false_iff_ne.2 (by omega)
            go_wp2_with fail
            refine (HFo.out _ Hds2.out).mono ?_
            rintro e w3 ⟨rfl, v3, hp3, ha3⟩
            have hds3 := Hds2.out.laid hp3 ha3
            have HNx3 : Hid (Sh.difN G S (n + 1) = (Sh.upW G S j (ws.set j (true, f, s)) k, ops ++ Sh.folO G k ((G : Int) + (j : Int)) f s)) := by
              have := HNx2.out
              rw [Int.natCast_add] at this
              exact this
            generalize ws.set j (true, f, s) = ws1 at *
            generalize ops ++ Sh.folO G k ((G : Int) + (j : Int)) f s = ops1 at *
            obtain ⟨sj, hsj⟩ : ∃ x, S[j]? = some x := ⟨_, List.getElem?_eq_getElem (by rw [HL.out]; exact hjk)⟩
            have hsjg : S.getD j 0 = sj := by rw [List.getD_eq_getElem?_getD, hsj]; rfl
            have HSj := hide hsj
            have HSjg := hide hsjg
            have Hds3 := hide hds3
            clear hds3 hp3 ha3 HNx2 Hds2 Hds1 HFo HCh c0 c1 c2 hfz hb1 Hds Hx hgl hsj hsjg
            go_wp2
            go_loopw [10, 11, 12, 52] (fun _ _ _ i' wr => ∃ m : Nat, m ≤ k ∧ i' = .int .i64 m ∧ Sh.DS w wr G k gw capw v3 (Sh.upW G S j ws1 m) ops1) (fun _ _ _ i _ => k - (intOf i).toNat)
            case atStart => exact ⟨0, Nat.zero_le _, rfl, Hds3.out⟩
            case round =>
              clear Hds3
              obtain ⟨m, hm, rfl, hds⟩ := hrel
              by_cases hlt2 : m < k
              · obtain ⟨sm, hsm⟩ : ∃ x, S[m]? = some x := ⟨_, List.getElem?_eq_getElem (by rw [HL.out]; exact hlt2)⟩
                have hsmg : S.getD m 0 = sm := by rw [List.getD_eq_getElem?_getD, hsm]; rfl
                have k1 := HCC.out _ hds.low m sm hsm
                have k2 := HCC.out _ hds.low j sj HSj.out
                have hum := hUS.lt sm (List.mem_of_getElem? hsm)
                have huj := hUS.lt sj (List.mem_of_getElem? HSj.out)
                have hxo := Sh.bits_xoru sm sj hum huj
                have hUz : Sh.U64 (sm ^^^ sj) := ⟨Nat.xor_lt_two_pow hum huj⟩
                have hUm := hUW1.up (G := G) (j := j) hUS m
                have hUl : (Sh.upW G S j ws1 m).length = k := by rw [Sh.upW_len]; exact hwl1
                have hUt := Sh.upW_t (G := G) (S := S) (j := j) (ws := ws1) (k := m)
                have hUf := Sh.upW_f (G := G) (S := S) (j := j) (ws := ws1) (k := m)
                have hpz : Sh.pc (sm ^^^ sj) = W ((G : Int) + (j : Int)) (sm ^^^ sj) := by rw [HW.out]; unfold Sh.wx; rw [if_neg (by omega)]
                rw [hsmg, HSjg.out, hpz, ← HW.out] at hUt hUf
                rw [Int.natCast_add] at hUt
                generalize hU : Sh.upW G S j ws1 m = U at *
                obtain ⟨y, hy⟩ : ∃ y, U[m]? = some y := ⟨_, List.getElem?_eq_getElem (by omega)⟩
                have hyg : U.getD m Sh.w0 = y := by rw [List.getD_eq_getElem?_getD, hy]; rfl
                rw [hyg] at hUt hUf
                obtain ⟨d0, d1, d2⟩ := hds.cell hy
                have hUy : Sh.U64 y.2.2 := ⟨hUm.lt y (List.mem_of_getElem? hy)⟩
                have hfz := own_frozz hds.ways
                obtain ⟨hgb2, hgl2⟩ := hds.blk
                have hlw := hds.low.size
                obtain ⟨mk, f', s'⟩ := y
                simp only at d0 d1 d2 hUy hUt hUf
                generalize sm ^^^ sj = z at *
                have HUt := hide hUt
                have HUf := hide hUf
                have Hds := hide hds
                have Hy := hide hy
                have HUl := hide hUl
                clear hUt hUf hds hy hyg hU hsm hsmg hum huj hpz hUl hUm
                have hgg : g < wr.heap.size := by omega
                cases mk with
                | true =>
                  go_wp2
                  go_quiet (fail)
                  go_wp2
                  go_roundw
                  case rel => exact ⟨m + 1, by omega, by go_num, by rw [HUf.out (by simp)]; exact (Hds.out.below ((Below.refl _ _).alloc (Nat.le_refl _) _)).below ⟨rfl, rfl, rfl, Nat.le_refl _, fun _ _ => rfl⟩⟩
                  case measure => simp [intOf]; omega
                | false =>
                  obtain ⟨W1, hW1⟩ : ∃ W1 : World, W1 = wr.alloc (.cells #[.bool false, .int .i64 ((G : Int) + (j : Int)), .int .u64 (z : Int)] 120) := ⟨_, rfl⟩
                  have hnew : W1.heap[wr.heap.size]? = some (.cells #[.bool false, .int .i64 ((G : Int) + (j : Int)), .int .u64 (z : Int)] 120 (0, 0)) := by rw [hW1]; exact heap_alloc_new wr _
                  have hlow1 : Below wr.heap.size wr W1 := by rw [hW1]; exact (Below.refl _ _).alloc (Nat.le_refl _) _
                  have hnb : Nonempty (BW W1) := ⟨⟨W1, Below.refl _ _⟩⟩
                  have b0 : ∀ q : BW W1, q.out.cell? ⟨wr.heap.size, 0, none⟩ = some (.bool false) := fun q => keepc q.low (blk_lt hnew) 0 (blk_cell hnew rfl)
                  have b1 : ∀ q : BW W1, q.out.cell? ⟨wr.heap.size, 1, none⟩ = some (.int .i64 ((G : Int) + (j : Int))) := fun q => keepc q.low (blk_lt hnew) 1 (blk_cell hnew rfl)
                  have b2 : ∀ q : BW W1, q.out.cell? ⟨wr.heap.size, 2, none⟩ = some (.int .u64 (z : Int)) := fun q => keepc q.low (blk_lt hnew) 2 (blk_cell hnew rfl)
                  have hgW : gw < W1.heap.size := by have := hlow1.size; omega
                  have e0 : ∀ q : BW W1, q.out.cell? ⟨gw, m * 3, none⟩ = some (.bool false) := fun q => keepc q.low hgW _ (keepc hlow1 hgl2 _ d0)
                  have e1 : ∀ q : BW W1, q.out.cell? ⟨gw, m * 3 + 1, none⟩ = some (.int .i64 f') := fun q => keepc q.low hgW _ (keepc hlow1 hgl2 _ d1)
                  have e2 : ∀ q : BW W1, q.out.cell? ⟨gw, m * 3 + 2, none⟩ = some (.int .u64 (s' : Int)) := fun q => keepc q.low hgW _ (keepc hlow1 hgl2 _ d2)
                  have Hnew := hide hnew
                  go_wp2
                  rw [← hW1]
                  clear hW1 hnew k1 k2 hfz
                  refine wp_region_low_lit (by kernel_rfl) (by kernel_rfl) ?_
                  repeat (go_big_quiet_step ((refine (HX.out _ _ _ _ (by assumption)).mono ?_; rintro e w1 ⟨rfl, hb1⟩; exact ⟨rfl, ⟨w1, (BW.low _).trans (hb1.mono (BW.low _).size)⟩, rfl⟩)))
                  refine wpQuiet_nil ?_
                  rintro w1 ⟨s1, rfl⟩
                  have hlow2 := s1.low
                  generalize s1.out = w2 at *
                  clear b0 b1 b2 e0 e1 e2
                  have hds2 := (Hds.out.below hlow1).below hlow2
                  have hnw2 := (hlow2.block _ (blk_lt Hnew.out)).trans Hnew.out
                  obtain ⟨a0, a1, a2⟩ := hds2.cell Hy.out
                  simp only at a0 a1 a2
                  have hfz := own_frozz hds2.ways
                  obtain ⟨hgb3, hgl3⟩ := hds2.blk
                  have n0 : w2.cell? ⟨wr.heap.size, 0, none⟩ = some (.bool false) := blk_cell hnw2 rfl
                  have n1 : w2.cell? ⟨wr.heap.size, 1, none⟩ = some (.int .i64 ((G : Int) + (j : Int))) := blk_cell hnw2 rfl
                  have n2 : w2.cell? ⟨wr.heap.size, 2, none⟩ = some (.int .u64 (z : Int)) := blk_cell hnw2 rfl
                  have hnl := blk_lt hnw2
                  have Hds2 := hide hds2
                  clear hds2 hnw2
                  by_cases hab : W ((G : Int) + (j : Int)) z < W f' s'
                  · have hd : decide ((W ((G : Int) + (j : Int)) z : Int) < (W f' s' : Int)) = true := by simp; omega
                    have HE := hide (HUt.out trivial hab)
                    go_wp2
                    go_roundw
                    case rel => exact ⟨m + 1, by omega, by go_num, by rw [HE.out]; exact Hds2.out.put (by rw [HUl.out]; exact hlt2) (false, (G : Int) + (j : Int), z)⟩
                    case measure => simp [intOf]; omega
                  · have hd : decide ((W ((G : Int) + (j : Int)) z : Int) < (W f' s' : Int)) = false := by simp; omega
                    have HE := hide (HUf.out (fun h => hab h.2))
                    go_wp2
                    go_roundw
                    case rel => exact ⟨m + 1, by omega, by go_num, by rw [HE.out]; exact Hds2.out⟩
                    case measure => simp [intOf]; omega
              · have hmk : m = k := by omega
                subst hmk
                go_wp2
                go_roundw
                case rel => exact ⟨n + 1, v3, by omega, by go_num, by rw [HNx3.out]; exact hds⟩
                case measure => simp [intOf]; omega
        · have hnk : n = k := by omega
          subst hnk
          obtain ⟨a, c, rfl⟩ := own_sl hds.pb.own
          have hc0 := blk_cell (j := 0) hds.pb.box rfl
          have hc1 := blk_cell (j := 1) hds.pb.box rfl
          have hc2 := blk_cell (j := 2) hds.pb.box rfl
          have hc3 := blk_cell (j := 3) hds.pb.box rfl
          have hr0 := blk_cell (j := 0) hds.res rfl
          have hr1 := blk_cell (j := 1) hds.res rfl
          have hr2 := blk_cell (j := 2) hds.res rfl
          have hr3 := blk_cell (j := 3) hds.res rfl
          have hfz := blk_frozen hds.res
          have hsz := blk_lt hds.pb.box
          have hown := hds.pb.own
          have hlow := hds.low
          clear hds
          generalize hfin : (Sh.difN G S n).2 = fin at *
          go_wp2
          refine bodyPost_ret (v := .agg #[.int .i64 G, .int .i64 n, .int .i64 0, .slice a fin.length c]) (by simp [results, Try.results67, go_sem, *]) rfl ⟨_, rfl, ?_, ?_⟩
          · rw [hfin]
            exact own_mono (ownsRow_setCell_below (ownsRow_setCell_below (ownsRow_setCell_below (ownsRow_setCell_below hown (by simp; omega) _) (by simp; omega) _) (by simp; omega) _) (by simp; omega) _) (by omega)
          · exact (((hlow.setCell (by simp) _).setCell (by simp) _).setCell (by simp) _).setCell (by simp) _
end Go.Proofs.Ythhbpofcemoflab
