import Derived.Test.YthhbpofcemoflabGi
namespace Go.Proofs.Ythhbpofcemoflab
open Go.RowKit
set_option maxRecDepth 20000
/-- a list's length -/
def Sh.vlen (v : Value) : Nat := match v with
  | .slice _ n _ => n
  | _ => 0
/-- while pairs are taken -/
structure Sh.P2 (w wr : World) (G L B gt capt : Nat) (v1 : Value) (T : List Nat) (ops : List (Int × Int × Int)) : Prop where
  pb : Sh.PB wr (w.heap.size + 1) G L (B : Int) v1 ops
  ts : wr.ownsRow (w.heap.size + 2) 94 1 (.slice (some ⟨gt, 0, none⟩) T.length capt) T.length (Sh.nvl T)
  res : wr.heap[w.heap.size]? = some (.cells #[.int .i64 0, .int .i64 0, .int .i64 0, .slice none 0 0] 49 (0, 0))
  low : Below w.heap.size w wr
theorem Sh.P2.below {w wr w' : World} {G L B gt capt : Nat} {v1 : Value} {T : List Nat} {ops : List (Int × Int × Int)} (h : Sh.P2 w wr G L B gt capt v1 T ops) (hb : Below wr.heap.size wr w') : Sh.P2 w w' G L B gt capt v1 T ops :=
  ⟨h.pb.below hb, own_below h.ts hb, (hb.block _ (blk_lt h.res)).trans h.res, h.low.trans (hb.mono h.low.size)⟩
theorem Sh.P2.laid {w wr w' : World} {G L B gt capt : Nat} {B' : Nat} {v1 v2 : Value} {T : List Nat} {ops ops' : List (Int × Int × Int)} (h : Sh.P2 w wr G L B gt capt v1 T ops) (hp : Sh.PB w' (w.heap.size + 1) G L (B' : Int) v2 ops') (ha : Sh.Ad wr w' (w.heap.size + 1) v1 v2) : Sh.P2 w w' G L B' gt capt v2 T ops' :=
  ⟨hp, ha.own h.pb.box h.pb.own (by decide) (by decide) h.ts, (h.pb.keep ha (by omega)).trans h.res, h.low.trans (h.pb.low ha (by omega))⟩
theorem Sh.P2.set {w wr : World} {G L B gt capt : Nat} {v1 : Value} {T : List Nat} {ops : List (Int × Int × Int)} (h : Sh.P2 w wr G L B gt capt v1 T ops) (j x : Nat) : Sh.P2 w (wr.setCell ⟨gt, j, none⟩ (.int .u64 (x : Int))) G L B gt capt v1 (T.set j x) ops := by
  obtain ⟨c, hc, hge⟩ := own_blk h.ts
  refine ⟨⟨own_set_other h.pb.own hc (by decide) j _, ?_⟩, ?_, ?_, h.low.setCell (by simp; omega) _⟩
  · rw [Below.heap_setCell _ _ _ _ (by simp; omega)]
    exact h.pb.box
  · have := own_setz (a := j) (u := .int .u64 (x : Int)) h.ts
    rw [List.length_set]
    have e : Sh.nvl (T.set j x) = (Sh.nvl T).set j (.int .u64 (x : Int)) := by simp [Sh.nvl, List.map_set]
    rw [e]
    exact this
  · rw [Below.heap_setCell _ _ _ _ (by simp; omega)]
    exact h.res
theorem Sh.P2.drew {w wr : World} {G L B gt capt : Nat} {v1 : Value} {T : List Nat} {ops : List (Int × Int × Int)} (h : Sh.P2 w wr G L B gt capt v1 T ops) (n : Nat) : Sh.P2 w (wr.drewN n) G L B gt capt v1 T ops := h.below ⟨rfl, rfl, rfl, Nat.le_refl _, fun _ _ => rfl⟩
theorem Sh.P2.cell {w wr : World} {G L B gt capt : Nat} {v1 : Value} {T : List Nat} {ops : List (Int × Int × Int)} (h : Sh.P2 w wr G L B gt capt v1 T ops) {j x : Nat} (hx : T[j]? = some x) : wr.cell? ⟨gt, j, none⟩ = some (.int .u64 (x : Int)) := own_cells h.ts _ _ (Sh.nvl_get hx)
theorem Sh.P2.blk {w wr : World} {G L B gt capt : Nat} {v1 : Value} {T : List Nat} {ops : List (Int × Int × Int)} (h : Sh.P2 w wr G L B gt capt v1 T ops) : w.heap.size + 2 ≤ gt ∧ gt < wr.heap.size := by
  obtain ⟨c, hc, hge⟩ := own_blk h.ts
  exact ⟨hge, blk_lt hc⟩
theorem Sh.P2.app {w wr w' : World} {G L B gt capt g' cap' : Nat} {v1 : Value} {T : List Nat} {ops : List (Int × Int × Int)} {c : Nat} (h : Sh.P2 w wr G L B gt capt v1 T ops) (hown : w'.ownsRow (w.heap.size + 2) 94 1 (.slice (some ⟨g', 0, none⟩) (T.length + 1) cap') (T.length + 1) (Sh.nvl T ++ [.int .u64 (c : Int)])) (hb : Below (w.heap.size + 2) wr w') (hg : wr.grownBy w' (some gt)) : Sh.P2 w w' G L B g' cap' v1 (T ++ [c]) ops := by
  obtain ⟨cc, hc, hge⟩ := own_blk h.ts
  refine ⟨⟨h.pb.own.kept hg ?_, (hb.block _ (by omega)).trans h.pb.box⟩, ?_, (hb.block _ (by omega)).trans h.res, h.low.trans (hb.mono (by omega))⟩
  · rcases h.pb.own.2 with ⟨hv, _⟩ | ⟨g, cap, cur, hv, _, hgg, _⟩
    · exact Or.inl (by rw [hv]; rfl)
    · right
      intro e
      rw [hv] at e
      simp [Value.ownBlock] at e
      subst e
      rw [hc] at hgg
      injection hgg with hgg
      injection hgg with _ hgg _
      exact absurd hgg (by decide)
  · rw [List.length_append, Sh.nvl_snoc]
    exact hown
theorem Sh.PI.us {G : Nat} {S : List Nat} {st : Nat × List Nat × List (Int × Int × Int)} (h : Sh.PI G S st) (hL : S.length ≤ 40) : Sh.US st.2.1 := ⟨fun t ht => Nat.lt_of_lt_of_le (h.lt t ht) (Nat.pow_le_pow_right (by decide) (by omega))⟩
theorem Sh.turn_us {T : List Nat} (hT : T.length ≤ 64) (c : Nat) : Sh.US (Sh.turnL T c) := ⟨fun r hr => by
  simp only [Sh.turnL, List.mem_map] at hr
  obtain ⟨i, _, rfl⟩ := hr
  exact Nat.lt_of_lt_of_le (Sh.wd_lt _ _ _) (Nat.pow_le_pow_right (by decide) hT)⟩

set_option maxHeartbeats 4000000 in
theorem pairs_ok (G : Nat) (v : Value) (base : Nat) (S : List Nat) (scr : Int) (w : World) (hG1 : 1 ≤ G) (hG : G ≤ 48) (hL1 : 1 ≤ S.length) (hL2 : S.length ≤ 40) (hS : ∀ s ∈ S, s < 2 ^ G) (hv : w.ownsRow base 94 1 v S.length (Sh.nvl S)) :
    Calls Try.prog 68 #[.int .i64 G, v, .int .i64 scr] w fun e w' => ∃ vo, e = .returned (.agg #[.int .i64 G, .int .i64 S.length, .int .i64 ((Sh.parN G S (Sh.rnd scr)).1 : Int), vo]) ∧
      w'.ownsRow w.heap.size 98 3 vo (Sh.parO G S (Sh.rnd scr)).length (Sh.opCells (Sh.parO G S (Sh.rnd scr))) ∧ Below w.heap.size w w' := by
  obtain ⟨i0, hi, hz0, hz1, hz2⟩ := info_parts Try.infoU64
  have hUS : Sh.US S := ⟨fun s hs => Nat.lt_of_lt_of_le (hS s hs) (Nat.pow_le_pow_right (by decide) (by omega))⟩
  have HI := hide (fun n (hn : n ≤ 16) => Sh.parN_inv hG1 hG hS n hn)
  have HTu := hide (fun (wx : World) (hx : Below w.heap.size w wx) => turnedL_ok v base S G wx hL1 (by omega) hG hUS (own_below hv hx))
  have HSum := hide (fun (wx : World) (B : Int) (k s : Nat) (v1 : Value) (ops : List (Int × Int × Int)) (hp : Sh.PB wx (w.heap.size + 1) G S.length B v1 ops) (hs : s < 2 ^ 64) (hl : ops.length ≤ 3900) => sum_ok (w.heap.size + 1) G S.length B ((G : Int) + (k : Int)) s v1 ops wx hp hL2 hs hl)
  obtain ⟨R, hR⟩ : ∃ R, Sh.rnd scr = R := ⟨_, rfl⟩
  have hRd : (R : Int) = min (max scr 0) 16 := by
    rw [← hR]; unfold Sh.rnd; omega
  have hR16 : R ≤ 16 := by rw [← hR]; exact Sh.rnd_le scr
  have HP : Hid (Sh.parO G S R = (Sh.parN G S R).2.2 ++ Sh.sumsO G S.length (Sh.turnL (Sh.parN G S R).2.1 S.length) S.length) := rfl
  rw [hR, HP.out]
  clear hR HP hS
  obtain ⟨va, vc, hva⟩ := own_sl hv
  subst hva
  clear hv
  generalize hL : S.length = L at *
  have HL := hide hL
  clear hL
  go_enter Try.func68, Try.ntmps68
  go_wp2_with fail
  refine (bounded_ok G L 0 none 0 0 _ hG hL2 (by decide) (by decide)).mono ?_
  rintro e w0 ⟨rfl, hw0⟩
  have hlow0 : Below w.heap.size w w0 := by rw [hw0]; exact (((Below.refl _ _).alloc (Nat.le_refl _) _).alloc (by simp) _).alloc (by simp; omega) _
  have hbox0 : w0.heap[w.heap.size + 1]? = some (.cells #[.int .i64 G, .int .i64 L, .int .i64 0, .slice none 0 0] 49 (0, 0)) := by rw [hw0]; exact (Below.heap_alloc _ _ _ (by simp)).trans (heap_new2 w _ _)
  have hres0 : w0.heap[w.heap.size]? = some (.cells #[.int .i64 0, .int .i64 0, .int .i64 0, .slice none 0 0] 49 (0, 0)) := by rw [hw0]; exact (Below.heap_alloc _ _ _ (by simp; omega)).trans (heap_new1 w _ _)
  have HW0 := hide hw0
  clear hw0
  have hs0 := blk_lt hbox0
  go_wp2_with fail
  refine (HTu.out _ hlow0).mono ?_
  rintro e w1 ⟨v1, rfl, hown1, hb1⟩
  obtain ⟨gt, capt, rfl, hgt1, hgt2⟩ := own_form3 hown1 hG1
  have hP2 : Sh.P2 w w1 G L 0 gt capt (.slice none 0 0) (Sh.parN G S 0).2.1 (Sh.parN G S 0).2.2 := by
    refine ⟨⟨World.ownsRow_nil _ _ _ _, (hb1.block _ (by omega)).trans hbox0⟩, ?_, (hb1.block _ (by omega)).trans hres0, hlow0.trans (hb1.mono hlow0.size)⟩
    show w1.ownsRow _ _ _ (.slice (some ⟨gt, 0, none⟩) (Sh.turnL S G).length capt) (Sh.turnL S G).length (Sh.nvl (Sh.turnL S G))
    rw [Sh.turnL_len]
    exact own_mono hown1 (by omega)
  have hl0 : (Sh.parN G S 0).2.1.length = G := Sh.turnL_len S G
  clear hown1 hbox0 hres0 hb1 hs0 hgt1 hgt2 HTu
  have HP2 := hide hP2
  have Hl0 := hide hl0
  clear hP2 hl0
  go_wp2
  go_loopw [8, 9] (fun vt _ wr => ∃ (n gt capt : Nat) (v1 : Value), n ≤ R ∧ (Sh.parN G S n).1 = n ∧ vt = .slice (some ⟨gt, 0, none⟩) (Sh.parN G S n).2.1.length capt ∧ Sh.P2 w wr G L n gt capt v1 (Sh.parN G S n).2.1 (Sh.parN G S n).2.2) (fun vt _ _ => 64 - Sh.vlen vt)
  case atStart => exact ⟨0, gt, capt, _, Nat.zero_le _, rfl, by rw [Hl0.out], HP2.out⟩
  case round =>
    clear HP2 Hl0 hlow0 HW0
    obtain ⟨n, gt, capt, v1, hn, hn1, rfl, hp⟩ := hrel
    have hinv := (HI.out n (by omega)).1
    have HNx : Hid (Sh.parN G S (n + 1) = Sh.parS G L (Sh.parN G S n)) := by show Sh.parS G S.length (Sh.parN G S n) = _; rw [HL.out]
    have HStop : Hid ((Sh.com (Sh.parN G S n).2.1).2.2.1 = 0 → Sh.parN G S R = Sh.parN G S n) := fun h => by
      have := Sh.parN_stop h (R - n)
      rw [show n + (R - n) = R by omega] at this
      exact this
    have hRn : n = R → Sh.parN G S R = Sh.parN G S n := fun h => by rw [h]
    generalize Sh.parN G S n = st at *
    obtain ⟨B, T, ops⟩ := st
    simp only at hn1 hp HNx HStop
    subst hn1
    have hTl := hinv.len
    have hUT := hinv.us (by rw [HL.out]; exact hL2)
    have hol := hinv.lens
    simp only at hTl hUT hol
    have Hol := hide hol
    have HTt0 := hide (fun (wx : World) (hx : Sh.P2 w wx G L B gt capt v1 T ops) => turnedL_ok _ _ T L wx (by omega) (by omega) (by omega) hUT hx.ts)
    obtain ⟨rows, hrows⟩ : ∃ rows, Sh.turnL T L = rows := ⟨_, rfl⟩
    have HTt := HTt0
    rw [hrows] at HTt
    have Hrows := hide hrows
    have Hrl : Hid (rows.length = L) := by show _ = _; rw [← hrows, Sh.turnL_len]
    have Hur : Hid (Sh.US rows) := by show Sh.US rows; rw [← hrows]; exact Sh.turn_us (by omega) L
    have HCm := hide (fun (wx : World) (hx : Sh.P2 w wx G L B gt capt v1 T ops) => commonest_ok _ _ T wx (by omega) (by omega) hUT hx.ts)
    have c2 := blk_cell (j := 2) hp.pb.box rfl
    have hpz := blk_lt hp.pb.box
    have HTl := hide hTl
    clear hrows hinv HTt0 hol hTl
    by_cases hnR : B < R
    · have d1 : decide ((B : Int) < scr) = true := by simp; omega
      have d2 : decide ((B : Int) < 16) = true := by simp; omega
      have hB16 : B < 16 := by omega
      have HnR := hide hnR
      clear hRn hRd hnR hR16 hn
      by_cases hc : (Sh.com T).2.2.1 = 0
      · have HFin := hide (HStop.out hc)
        have HPr : Hid (Sh.prC (Sh.com T) = #[.int .i64 ((Sh.com T).1 : Int), .int .i64 ((Sh.com T).2.1 : Int), .int .u64 0]) := by show _ = _; unfold Sh.prC; rw [hc]; rfl
        rw [HPr.out] at HCm
        have Hp0 := hide hp
        generalize ((Sh.com T).1 : Int) = ca at *
        generalize ((Sh.com T).2.1 : Int) = cb at *
        clear hc HStop HNx HPr hp
        go_wp2_with fail
        refine (HCm.out _ Hp0.out).mono ?_
        rintro e w2 ⟨rfl, hb2⟩
        have Hp := hide ((Hp0.out.below hb2).below ((Below.refl _ _).alloc (Nat.le_refl _) (.cells #[.int .i64 ca, .int .i64 cb, .int .u64 0] 125)))
        clear hb2 Hp0 c2 hpz HCm
        go_wp2_with fail
        refine (HTt.out _ Hp.out).mono ?_
        rintro e w3 ⟨v3, rfl, hown3, hb3⟩
        have hp3 := Hp.out.below hb3
        obtain ⟨g3, cap3, rfl, hge3, hgl3⟩ := own_form3 hown3 hL1
        have hw3 := Hp.out.low.size
        have hp3p := hp3.pb
        have hp3r := hp3.res
        have hp3l := hp3.low
        have hown3' := own_mono (base' := w.heap.size) hown3 hw3
        have Hp3p := hide hp3p
        have Hp3r := hide hp3r
        have Hp3l := hide hp3l
        have Hown3 := hide hown3'
        clear hp3 hown3 hown3' hb3 Hp hge3 hw3 hp3p hp3r hp3l
        go_wp2
        go_loopw [10, 11, 67] (fun _ _ i' wr => ∃ (k : Nat) (v4 : Value), k ≤ L ∧ i' = .int .i64 k ∧ Sh.PB wr (w.heap.size + 1) G L (B : Int) v4 (ops ++ Sh.sumsO G L rows k) ∧ wr.ownsRow w.heap.size 94 1 (.slice (some ⟨g3, 0, none⟩) L cap3) L (Sh.nvl rows) ∧ wr.heap[w.heap.size]? = some (.cells #[.int .i64 0, .int .i64 0, .int .i64 0, .slice none 0 0] 49 (0, 0)) ∧ Below w.heap.size w wr) (fun _ _ i _ => L - (intOf i).toNat)
        case atStart => exact ⟨0, v1, Nat.zero_le _, rfl, by show Sh.PB _ _ _ _ _ _ (ops ++ []); rw [List.append_nil]; exact Hp3p.out, Hown3.out, Hp3r.out, Hp3l.out⟩
        case round =>
          clear Hp3p Hown3 Hp3r Hp3l hgl3
          obtain ⟨k, v4, hk, rfl, hpb, hrow, hres, hlow⟩ := hrel
          by_cases hlt2 : k < L
          · obtain ⟨x, hx⟩ : ∃ x, rows[k]? = some x := ⟨_, List.getElem?_eq_getElem (by rw [Hrl.out]; exact hlt2)⟩
            have hck : _ = some (Value.int .u64 (x : Int)) := own_cells hrow k _ (Sh.nvl_get hx)
            have hgk := (hrow.lt g3 rfl).2
            have hlen : (ops ++ Sh.sumsO G L rows k).length ≤ 3900 := by
              rw [List.length_append, Hol.out]
              have := Sh.sumsO_len G L rows k
              omega
            have hsm := HSum.out _ _ k x v4 _ hpb (Hur.out.lt x (List.mem_of_getElem? hx)) hlen
            have e : ops ++ Sh.sumsO G L rows k ++ Sh.sumO G L ((G : Int) + k) x = ops ++ Sh.sumsO G L rows (k + 1) := by
              show _ = ops ++ (Sh.sumsO G L rows k ++ Sh.sumO G L ((G + k : Nat) : Int) (rows.getD k 0))
              rw [List.getD_eq_getElem?_getD, hx, Int.natCast_add, List.append_assoc]
              rfl
            rw [e] at hsm
            have HSm := hide hsm
            have Hpb := hide hpb
            have Hrow := hide hrow
            have Hres := hide hres
            clear hsm e hpb hrow hres hx hlen
            go_wp2_with (go_at_call 61; refine HSm.out.mono ?_; rintro e w4 ⟨rfl, v5, hp5, ha5⟩)
            go_roundw
            case rel => exact ⟨k + 1, v5, by omega, by go_num, hp5, ha5.own Hpb.out.box Hpb.out.own (by decide) (by decide) Hrow.out, (Hpb.out.keep ha5 (by omega)).trans Hres.out, hlow.trans (Hpb.out.low ha5 (by omega))⟩
            case measure => simp [intOf]; omega
          · have hkd : k = L := by omega
            subst hkd
            obtain ⟨pa, pc, rfl⟩ := own_sl hpb.own
            have hc0 := blk_cell (j := 0) hpb.box rfl
            have hc1 := blk_cell (j := 1) hpb.box rfl
            have hc2 := blk_cell (j := 2) hpb.box rfl
            have hc3 := blk_cell (j := 3) hpb.box rfl
            have hr0 := blk_cell (j := 0) hres rfl
            have hr1 := blk_cell (j := 1) hres rfl
            have hr2 := blk_cell (j := 2) hres rfl
            have hr3 := blk_cell (j := 3) hres rfl
            have hfz := blk_frozen hres
            have hsz := blk_lt hpb.box
            have hown := hpb.own
            clear hpb hrow
            generalize hfin : ops ++ Sh.sumsO G k rows k = fin at *
            have Hfin := hide hfin
            clear hfin
            go_wp2
            refine bodyPost_ret (v := .agg #[.int .i64 G, .int .i64 k, .int .i64 (B : Int), .slice pa fin.length pc]) (by simp [results, Try.results68, go_sem, hr0, hr1, hr2, hr3]) rfl ⟨_, by rw [HFin.out], ?_, ?_⟩
            · rw [HFin.out]
              simp only
              rw [Hrows.out, Hfin.out]
              exact own_mono (ownsRow_setCell_below (ownsRow_setCell_below (ownsRow_setCell_below (ownsRow_setCell_below hown (by simp; omega) _) (by simp; omega) _) (by simp; omega) _) (by simp; omega) _) (by omega)
            · exact (((hlow.setCell (by simp) _).setCell (by simp) _).setCell (by simp) _).setCell (by simp) _
      · obtain ⟨h1, h2, h3, _⟩ := Sh.com_some hc
        have hps : Sh.parS G L (B, T, ops) = (B + 1, Sh.parT T, ops ++ Sh.sumO G L ((G + L + B : Nat) : Int) (2 ^ (Sh.com T).1 ||| 2 ^ (Sh.com T).2.1)) := if_neg hc
        have hnx := HNx.out.trans hps
        unfold Sh.parT at hnx
        have HPr : Hid (Sh.prC (Sh.com T) = #[.int .i64 ((Sh.com T).1 : Int), .int .i64 ((Sh.com T).2.1 : Int), .int .u64 ((Sh.com T).2.2.1 : Int)]) := rfl
        rw [HPr.out] at HCm
        have HJ0 := hide (fun (wx : World) (hx : Sh.P2 w wx G L B gt capt v1 T ops) => join_ok (w.heap.size + 1) G L B (Sh.com T).1 (Sh.com T).2.1 (Sh.com T).2.2.1 v1 ops wx hx.pb hG hL2 (by omega) (by have := HTl.out; omega) (by have := HTl.out; omega) (by rw [Hol.out]; omega))
        clear HPr hps HNx HStop
        generalize Sh.com T = cm at *
        obtain ⟨ca, cb, cc, cmo⟩ := cm
        simp only at h1 h2 h3 hc hnx HCm HJ0
        obtain ⟨xa, hxa⟩ : ∃ x, T[ca]? = some x := ⟨_, List.getElem?_eq_getElem (by omega)⟩
        obtain ⟨xb, hxb⟩ : ∃ x, T[cb]? = some x := ⟨_, List.getElem?_eq_getElem h2⟩
        have ga : T.getD ca 0 = xa := by rw [List.getD_eq_getElem?_getD, hxa]; rfl
        have gb : T.getD cb 0 = xb := by rw [List.getD_eq_getElem?_getD, hxb]; rfl
        rw [ga, gb] at h3 hnx
        have hna : bits .andNot .u64 (xa : Int) (cc : Int) = ((xa ^^^ cc : Nat) : Int) := by rw [h3]; exact Sh.bits_andnotu xa xb (hUT.lt xa (List.mem_of_getElem? hxa))
        have hnb : bits .andNot .u64 (xb : Int) (cc : Int) = ((xb ^^^ cc : Nat) : Int) := by rw [h3, Nat.and_comm]; exact Sh.bits_andnotu xb xa (hUT.lt xb (List.mem_of_getElem? hxb))
        have hc0 : ((cc : Int) == 0) = false := beq_eq_false_iff_ne.2 (by omega)
        have haT : ca < T.length := by omega
        have HNx := hide hnx
        have Hxa := hide hxa
        have Hxb := hide hxb
        have Hp0 := hide hp
        have hab : ca ≠ cb := by omega
        have hl64 : T.length + 1 ≤ 64 := by have := HTl.out; omega
        clear hnx h3 hc hxa hxb ga gb hp Hrows Hrl Hur HTt
        go_wp2_with fail
        refine (HCm.out _ Hp0.out).mono ?_
        rintro e w2 ⟨rfl, hb2⟩
        obtain ⟨W2, hW2⟩ : ∃ W2 : World, W2 = w2.alloc (.cells #[.int .i64 (ca : Int), .int .i64 (cb : Int), .int .u64 (cc : Int)] 125) := ⟨_, rfl⟩
        have hlow2 : Below w2.heap.size w2 W2 := by rw [hW2]; exact (Below.refl _ _).alloc (Nat.le_refl _) _
        have hnew : W2.heap[w2.heap.size]? = some (.cells #[.int .i64 (ca : Int), .int .i64 (cb : Int), .int .u64 (cc : Int)] 125 (0, 0)) := by rw [hW2]; exact heap_alloc_new w2 _
        have hp2 := (Hp0.out.below hb2)
        have hpW := hp2.below hlow2
        have m0 : W2.cell? ⟨w2.heap.size, 0, none⟩ = some (.int .i64 (ca : Int)) := blk_cell (j := 0) hnew rfl
        have m1 : W2.cell? ⟨w2.heap.size, 1, none⟩ = some (.int .i64 (cb : Int)) := blk_cell (j := 1) hnew rfl
        have m2 : W2.cell? ⟨w2.heap.size, 2, none⟩ = some (.int .u64 (cc : Int)) := blk_cell (j := 2) hnew rfl
        have hmz := blk_lt hnew
        have Hp2 := hide hp2
        have HpW := hide hpW
        have Hnew := hide hnew
        have HW2 := hide hW2
        have hpn := blk_lt hpW.pb.box
        clear hp2 hpW hnew hlow2 hb2 c2 hpz
        clear hW2
        go_wp2_with fail
        rw [← HW2.out]
        go_wp2_with fail
        refine (HJ0.out _ HpW.out).mono ?_
        rintro e w3 ⟨rfl, v3, hp3, ha3⟩
        have hcast : ((B : Int) + 1) = ((B + 1 : Nat) : Int) := by omega
        rw [hcast] at hp3
        have hP3 := HpW.out.laid hp3 ha3
        have hn3 := (ha3.1.block w2.heap.size hmz (by have := blk_lt Hp2.out.pb.box; omega) (fun h => by have := (Hp2.out.pb.own.lt w2.heap.size h.symm).2; omega)).trans Hnew.out
        have m0 : w3.cell? ⟨w2.heap.size, 0, none⟩ = some (.int .i64 (ca : Int)) := blk_cell (j := 0) hn3 rfl
        have m1 : w3.cell? ⟨w2.heap.size, 1, none⟩ = some (.int .i64 (cb : Int)) := blk_cell (j := 1) hn3 rfl
        have m2 : w3.cell? ⟨w2.heap.size, 2, none⟩ = some (.int .u64 (cc : Int)) := blk_cell (j := 2) hn3 rfl
        have ka := hP3.cell Hxa.out
        have kb := hP3.cell Hxb.out
        have hfz := own_frozz hP3.ts
        obtain ⟨hgt1, hgt2⟩ := hP3.blk
        have hmz3 := blk_lt hn3
        have hgm : gt ≠ w2.heap.size := by have := Hp2.out.blk; omega
        have HP3 := hide hP3
        have Hn3 := hide hn3
        clear hP3 hn3 hp3 ha3 hcast HJ0 HCm
        go_wp2
        go_region
        obtain ⟨W4, hW4⟩ : ∃ W4 : World, W4 = (w3.setCell ⟨gt, ca, none⟩ (.int .u64 ((xa ^^^ cc : Nat) : Int))).drew := ⟨_, rfl⟩
        have hP4 := (HP3.out.set ca (xa ^^^ cc)).below (show Below _ _ W4 by rw [hW4]; exact (Below.refl _ _).drew)
        have hn4 : W4.heap[w2.heap.size]? = some (.cells #[.int .i64 (ca : Int), .int .i64 (cb : Int), .int .u64 (cc : Int)] 125 (0, 0)) := by
          rw [hW4]
          exact (Below.heap_setCell _ _ _ _ (by simpa using hgm.symm)).trans Hn3.out
        have hxb4 : (T.set ca (xa ^^^ cc))[cb]? = some xb := by rw [List.getElem?_set_ne hab]; exact Hxb.out
        have m0 : W4.cell? ⟨w2.heap.size, 0, none⟩ = some (.int .i64 (ca : Int)) := blk_cell (j := 0) hn4 rfl
        have m1 : W4.cell? ⟨w2.heap.size, 1, none⟩ = some (.int .i64 (cb : Int)) := blk_cell (j := 1) hn4 rfl
        have m2 : W4.cell? ⟨w2.heap.size, 2, none⟩ = some (.int .u64 (cc : Int)) := blk_cell (j := 2) hn4 rfl
        have kb := hP4.cell hxb4
        have hfz := own_frozz hP4.ts
        obtain ⟨hgt3, hgt4⟩ := hP4.blk
        have hmz4 := blk_lt hn4
        have HP4 := hide hP4
        have Hn4 := hide hn4
        rw [← hW4]
        clear hP4 hn4 hW4 hxb4 HP3 Hn3 ka
        go_wp2
        go_region
        obtain ⟨W5, hW5⟩ : ∃ W5 : World, W5 = (W4.setCell ⟨gt, cb, none⟩ (.int .u64 ((xb ^^^ cc : Nat) : Int))).drew := ⟨_, rfl⟩
        have hP5 := (HP4.out.set cb (xb ^^^ cc)).below (show Below _ _ W5 by rw [hW5]; exact (Below.refl _ _).drew)
        have hn5 : W5.heap[w2.heap.size]? = some (.cells #[.int .i64 (ca : Int), .int .i64 (cb : Int), .int .u64 (cc : Int)] 125 (0, 0)) := by
          rw [hW5]
          exact (Below.heap_setCell _ _ _ _ (by simpa using hgm.symm)).trans Hn4.out
        have m0 : W5.cell? ⟨w2.heap.size, 0, none⟩ = some (.int .i64 (ca : Int)) := blk_cell (j := 0) hn5 rfl
        have m1 : W5.cell? ⟨w2.heap.size, 1, none⟩ = some (.int .i64 (cb : Int)) := blk_cell (j := 1) hn5 rfl
        have m2 : W5.cell? ⟨w2.heap.size, 2, none⟩ = some (.int .u64 (cc : Int)) := blk_cell (j := 2) hn5 rfl
        have hmz5 := blk_lt hn5
        have hown5 := hP5.ts
        have hTs : ((T.set ca (xa ^^^ cc)).set cb (xb ^^^ cc)).length = T.length := by rw [List.length_set, List.length_set]
        rw [hTs] at hown5
        have hpz5 := blk_lt hP5.pb.box
        have HP5 := hide hP5
        have HTs := hide hTs
        rw [← hW5]
        clear hP5 hn5 hW5 HP4 Hn4 kb hTs
        go_wp2_with (at_builtin; refine append1x _ rfl (.tmp 57) (.tmp 60) 83 rfl (w.heap.size + 2) 94 i0 (.int .u64 0) 1 8 Try.underlying83 hi hz0 hz1 hz2 rfl (by decide) (by decide) _ _ _ _ rfl hown5 rfl rfl (by simp; rfl) (by omega) (by omega) ?_; intro v' w6 hown6 hb6 hg6 hf6; obtain ⟨g6, cap6, hv6, hgb6, hgw6⟩ := own_form3 hown6 (by omega); rw [hv6] at hown6; rw [hv6])
        go_roundw
        case rel =>
          refine ⟨B + 1, g6, cap6, v3, by have := HnR.out; omega, by rw [HNx.out], ?_, ?_⟩
          · rw [HNx.out]
            simp only [List.length_append, List.length_cons, List.length_nil, HTs.out]
          · rw [HNx.out]
            have hown7 := hown6
            rw [← HTs.out] at hown7
            have := HP5.out.app hown7 hb6 hg6
            simp only
            rw [Int.natCast_add, Int.natCast_add]
            exact this
        case measure => simp only [Sh.vlen]; omega
    · have hBR : B = R := by omega
      have HFin := hide (hRn hBR)
      have Hp := hide hp
      clear HStop HNx hRn hp HCm
      by_cases hds : (B : Int) < scr
      · have d1 : decide ((B : Int) < scr) = true := by simp; omega
        have d2 : decide ((B : Int) < 16) = false := by simp; omega
        have hB16 : B ≤ 16 := by omega
        clear hRd hR16 hn hnR hBR hds
        go_wp2_with fail
        refine (HTt.out _ Hp.out).mono ?_
        rintro e w3 ⟨v3, rfl, hown3, hb3⟩
        have hp3 := Hp.out.below hb3
        obtain ⟨g3, cap3, rfl, hge3, hgl3⟩ := own_form3 hown3 hL1
        have hw3 := Hp.out.low.size
        have hp3p := hp3.pb
        have hp3r := hp3.res
        have hp3l := hp3.low
        have hown3' := own_mono (base' := w.heap.size) hown3 hw3
        have Hp3p := hide hp3p
        have Hp3r := hide hp3r
        have Hp3l := hide hp3l
        have Hown3 := hide hown3'
        clear hp3 hown3 hown3' hb3 Hp hge3 hw3 hp3p hp3r hp3l
        go_wp2
        go_loopw [10, 11, 67] (fun _ _ i' wr => ∃ (k : Nat) (v4 : Value), k ≤ L ∧ i' = .int .i64 k ∧ Sh.PB wr (w.heap.size + 1) G L (B : Int) v4 (ops ++ Sh.sumsO G L rows k) ∧ wr.ownsRow w.heap.size 94 1 (.slice (some ⟨g3, 0, none⟩) L cap3) L (Sh.nvl rows) ∧ wr.heap[w.heap.size]? = some (.cells #[.int .i64 0, .int .i64 0, .int .i64 0, .slice none 0 0] 49 (0, 0)) ∧ Below w.heap.size w wr) (fun _ _ i _ => L - (intOf i).toNat)
        case atStart => exact ⟨0, v1, Nat.zero_le _, rfl, by show Sh.PB _ _ _ _ _ _ (ops ++ []); rw [List.append_nil]; exact Hp3p.out, Hown3.out, Hp3r.out, Hp3l.out⟩
        case round =>
          clear Hp3p Hown3 Hp3r Hp3l hgl3
          obtain ⟨k, v4, hk, rfl, hpb, hrow, hres, hlow⟩ := hrel
          by_cases hlt2 : k < L
          · obtain ⟨x, hx⟩ : ∃ x, rows[k]? = some x := ⟨_, List.getElem?_eq_getElem (by rw [Hrl.out]; exact hlt2)⟩
            have hck : _ = some (Value.int .u64 (x : Int)) := own_cells hrow k _ (Sh.nvl_get hx)
            have hgk := (hrow.lt g3 rfl).2
            have hlen : (ops ++ Sh.sumsO G L rows k).length ≤ 3900 := by
              rw [List.length_append, Hol.out]
              have := Sh.sumsO_len G L rows k
              omega
            have hsm := HSum.out _ _ k x v4 _ hpb (Hur.out.lt x (List.mem_of_getElem? hx)) hlen
            have e : ops ++ Sh.sumsO G L rows k ++ Sh.sumO G L ((G : Int) + k) x = ops ++ Sh.sumsO G L rows (k + 1) := by
              show _ = ops ++ (Sh.sumsO G L rows k ++ Sh.sumO G L ((G + k : Nat) : Int) (rows.getD k 0))
              rw [List.getD_eq_getElem?_getD, hx, Int.natCast_add, List.append_assoc]
              rfl
            rw [e] at hsm
            have HSm := hide hsm
            have Hpb := hide hpb
            have Hrow := hide hrow
            have Hres := hide hres
            clear hsm e hpb hrow hres hx hlen
            go_wp2_with (go_at_call 61; refine HSm.out.mono ?_; rintro e w4 ⟨rfl, v5, hp5, ha5⟩)
            go_roundw
            case rel => exact ⟨k + 1, v5, by omega, by go_num, hp5, ha5.own Hpb.out.box Hpb.out.own (by decide) (by decide) Hrow.out, (Hpb.out.keep ha5 (by omega)).trans Hres.out, hlow.trans (Hpb.out.low ha5 (by omega))⟩
            case measure => simp [intOf]; omega
          · have hkd : k = L := by omega
            subst hkd
            obtain ⟨pa, pc, rfl⟩ := own_sl hpb.own
            have hc0 := blk_cell (j := 0) hpb.box rfl
            have hc1 := blk_cell (j := 1) hpb.box rfl
            have hc2 := blk_cell (j := 2) hpb.box rfl
            have hc3 := blk_cell (j := 3) hpb.box rfl
            have hr0 := blk_cell (j := 0) hres rfl
            have hr1 := blk_cell (j := 1) hres rfl
            have hr2 := blk_cell (j := 2) hres rfl
            have hr3 := blk_cell (j := 3) hres rfl
            have hfz := blk_frozen hres
            have hsz := blk_lt hpb.box
            have hown := hpb.own
            clear hpb hrow
            generalize hfin : ops ++ Sh.sumsO G k rows k = fin at *
            have Hfin := hide hfin
            clear hfin
            go_wp2
            refine bodyPost_ret (v := .agg #[.int .i64 G, .int .i64 k, .int .i64 (B : Int), .slice pa fin.length pc]) (by simp [results, Try.results68, go_sem, hr0, hr1, hr2, hr3]) rfl ⟨_, by rw [HFin.out], ?_, ?_⟩
            · rw [HFin.out]
              simp only
              rw [Hrows.out, Hfin.out]
              exact own_mono (ownsRow_setCell_below (ownsRow_setCell_below (ownsRow_setCell_below (ownsRow_setCell_below hown (by simp; omega) _) (by simp; omega) _) (by simp; omega) _) (by simp; omega) _) (by omega)
            · exact (((hlow.setCell (by simp) _).setCell (by simp) _).setCell (by simp) _).setCell (by simp) _
      · have d1 : decide ((B : Int) < scr) = false := by simp; omega
        have hB16 : B ≤ 16 := by omega
        clear hRd hR16 hn hnR hBR hds
        go_wp2_with fail
        refine (HTt.out _ Hp.out).mono ?_
        rintro e w3 ⟨v3, rfl, hown3, hb3⟩
        have hp3 := Hp.out.below hb3
        obtain ⟨g3, cap3, rfl, hge3, hgl3⟩ := own_form3 hown3 hL1
        have hw3 := Hp.out.low.size
        have hp3p := hp3.pb
        have hp3r := hp3.res
        have hp3l := hp3.low
        have hown3' := own_mono (base' := w.heap.size) hown3 hw3
        have Hp3p := hide hp3p
        have Hp3r := hide hp3r
        have Hp3l := hide hp3l
        have Hown3 := hide hown3'
        clear hp3 hown3 hown3' hb3 Hp hge3 hw3 hp3p hp3r hp3l
        go_wp2
        go_loopw [10, 11, 67] (fun _ _ i' wr => ∃ (k : Nat) (v4 : Value), k ≤ L ∧ i' = .int .i64 k ∧ Sh.PB wr (w.heap.size + 1) G L (B : Int) v4 (ops ++ Sh.sumsO G L rows k) ∧ wr.ownsRow w.heap.size 94 1 (.slice (some ⟨g3, 0, none⟩) L cap3) L (Sh.nvl rows) ∧ wr.heap[w.heap.size]? = some (.cells #[.int .i64 0, .int .i64 0, .int .i64 0, .slice none 0 0] 49 (0, 0)) ∧ Below w.heap.size w wr) (fun _ _ i _ => L - (intOf i).toNat)
        case atStart => exact ⟨0, v1, Nat.zero_le _, rfl, by show Sh.PB _ _ _ _ _ _ (ops ++ []); rw [List.append_nil]; exact Hp3p.out, Hown3.out, Hp3r.out, Hp3l.out⟩
        case round =>
          clear Hp3p Hown3 Hp3r Hp3l hgl3
          obtain ⟨k, v4, hk, rfl, hpb, hrow, hres, hlow⟩ := hrel
          by_cases hlt2 : k < L
          · obtain ⟨x, hx⟩ : ∃ x, rows[k]? = some x := ⟨_, List.getElem?_eq_getElem (by rw [Hrl.out]; exact hlt2)⟩
            have hck : _ = some (Value.int .u64 (x : Int)) := own_cells hrow k _ (Sh.nvl_get hx)
            have hgk := (hrow.lt g3 rfl).2
            have hlen : (ops ++ Sh.sumsO G L rows k).length ≤ 3900 := by
              rw [List.length_append, Hol.out]
              have := Sh.sumsO_len G L rows k
              omega
            have hsm := HSum.out _ _ k x v4 _ hpb (Hur.out.lt x (List.mem_of_getElem? hx)) hlen
            have e : ops ++ Sh.sumsO G L rows k ++ Sh.sumO G L ((G : Int) + k) x = ops ++ Sh.sumsO G L rows (k + 1) := by
              show _ = ops ++ (Sh.sumsO G L rows k ++ Sh.sumO G L ((G + k : Nat) : Int) (rows.getD k 0))
              rw [List.getD_eq_getElem?_getD, hx, Int.natCast_add, List.append_assoc]
              rfl
            rw [e] at hsm
            have HSm := hide hsm
            have Hpb := hide hpb
            have Hrow := hide hrow
            have Hres := hide hres
            clear hsm e hpb hrow hres hx hlen
            go_wp2_with (go_at_call 61; refine HSm.out.mono ?_; rintro e w4 ⟨rfl, v5, hp5, ha5⟩)
            go_roundw
            case rel => exact ⟨k + 1, v5, by omega, by go_num, hp5, ha5.own Hpb.out.box Hpb.out.own (by decide) (by decide) Hrow.out, (Hpb.out.keep ha5 (by omega)).trans Hres.out, hlow.trans (Hpb.out.low ha5 (by omega))⟩
            case measure => simp [intOf]; omega
          · have hkd : k = L := by omega
            subst hkd
            obtain ⟨pa, pc, rfl⟩ := own_sl hpb.own
            have hc0 := blk_cell (j := 0) hpb.box rfl
            have hc1 := blk_cell (j := 1) hpb.box rfl
            have hc2 := blk_cell (j := 2) hpb.box rfl
            have hc3 := blk_cell (j := 3) hpb.box rfl
            have hr0 := blk_cell (j := 0) hres rfl
            have hr1 := blk_cell (j := 1) hres rfl
            have hr2 := blk_cell (j := 2) hres rfl
            have hr3 := blk_cell (j := 3) hres rfl
            have hfz := blk_frozen hres
            have hsz := blk_lt hpb.box
            have hown := hpb.own
            clear hpb hrow
            generalize hfin : ops ++ Sh.sumsO G k rows k = fin at *
            have Hfin := hide hfin
            clear hfin
            go_wp2
            refine bodyPost_ret (v := .agg #[.int .i64 G, .int .i64 k, .int .i64 (B : Int), .slice pa fin.length pc]) (by simp [results, Try.results68, go_sem, hr0, hr1, hr2, hr3]) rfl ⟨_, by rw [HFin.out], ?_, ?_⟩
            · rw [HFin.out]
              simp only
              rw [Hrows.out, Hfin.out]
              exact own_mono (ownsRow_setCell_below (ownsRow_setCell_below (ownsRow_setCell_below (ownsRow_setCell_below hown (by simp; omega) _) (by simp; omega) _) (by simp; omega) _) (by simp; omega) _) (by omega)
            · exact (((hlow.setCell (by simp) _).setCell (by simp) _).setCell (by simp) _).setCell (by simp) _
end Go.Proofs.Ythhbpofcemoflab
