import Derived.Test.YthhbpofcemoflabGm
import Derived.Test.YthhbpofcemoflabGn
namespace Go.Proofs.Ythhbpofcemoflab
open Go.RowKit
set_option maxRecDepth 20000
set_option maxHeartbeats 4000000 in
theorem lost_ok (kind : Int) (K M : Nat) (N gd : Int) (q : Nat) (w : World) (h : Sh.Ok kind K M N gd) (hP : Sh.Pb kind K M N gd) (hq : q < 2 ^ 20) (hlo : (Sh.lo q (K + M)).length ≤ M) :
    Calls Try.prog 66 #[.agg #[.int .i64 kind, .int .i64 K, .int .i64 M, .int .i64 N, .int .i64 gd], .int .i64 q] w fun e w' => ∃ v, e = .returned v ∧ w'.ownsRow w.heap.size 94 1 v (Sh.lost kind K M N gd q).length (Sh.nv64 (Sh.lost kind K M N gd q)) ∧ Below w.heap.size w w' := by
  obtain ⟨hK, hM, h10, hR1, hR2, hKR, hMR, hPL⟩ := h.bounds
  obtain ⟨i0, hi, hz0, hz1, hz2⟩ := info_parts Try.infoU64
  have HRw := hide (fun w => rows_ok kind K M N gd w h)
  have HEv := hide (fun w => every_ok kind K M N gd w h hP)
  have hT1 : 1 ≤ (K + M) * Sh.R kind N := Nat.mul_pos (by omega) hR1
  have hT2 : (K + M) * Sh.R kind N ≤ 88 := by rw [Nat.add_mul]; omega
  have HrowE : Hid (∀ k, k < (K + M) * Sh.R kind N → (Sh.nv64 (Sh.every kind K M N gd))[k]? = some (.int .u64 ((Sh.row kind K M N gd k : Nat) : Int))) := by
    intro k hk
    have hl : k < (Sh.every kind K M N gd).length := by rw [Sh.every_len hPL]; exact hk
    unfold Sh.nv64 Sh.row
    rw [List.getElem?_map, List.getElem?_eq_getElem hl, Option.map_some, List.getD_eq_getElem?_getD, List.getElem?_eq_getElem hl]
    rfl
  have Hrl : Hid (∀ k, Sh.row kind K M N gd k < 2 ^ 48) := Sh.row_lt hP hKR
  have HL : Hid (Sh.lost kind K M N gd q = Sh.ls (Sh.row kind K M N gd) (Sh.R kind N) q (Sh.kn (Sh.row kind K M N gd) (Sh.gi (Sh.R kind N) q (K * Sh.R kind N) ((K + M) * Sh.R kind N))) ((K + M) * Sh.R kind N)) := rfl
  rw [HL.out]
  have Hgl : Hid ((Sh.gi (Sh.R kind N) q (K * Sh.R kind N) ((K + M) * Sh.R kind N)).length = K * Sh.R kind N) := by
    show _ = _
    rw [Sh.gi_lf, Sh.rws_len, Sh.lf_len, show min K (K + M - (Sh.lo q (K + M)).length) = K by omega]
  clear h hP hPL HL hlo
  generalize Sh.every kind K M N gd = EV at *
  generalize Sh.row kind K M N gd = row at *
  generalize hR : Sh.R kind N = R at *
  clear hR
  obtain ⟨a, ha⟩ : ∃ a, K * R = a := ⟨_, rfl⟩
  obtain ⟨T, hT⟩ : ∃ T, (K + M) * R = T := ⟨_, rfl⟩
  have hka : (K : Int) * (R : Int) = (a : Int) := by rw [← ha, Int.natCast_mul]
  have HdivB : Hid (∀ k, k < T → k / R < 20) := fun k hk => by
    have : k / R < K + M := Nat.div_lt_of_lt_mul (by rw [Nat.mul_comm, hT]; exact hk)
    omega
  rw [hT] at HEv HrowE hT1 hT2 Hgl ⊢
  rw [ha] at Hgl hKR ⊢
  clear ha hT hMR
  have dR : decide ((R : Int) < 1) = false := by simp; omega
  have dR0 : ((R : Int) == 0) = false := by simp; omega
  go_enter Try.func66, Try.ntmps66
  go_wp2_with fail
  refine (HRw.out _).mono ?_
  rintro e w1 ⟨rfl, hb1⟩
  have hc0 := box_cell hb1 (by simp) 0 rfl
  have hc1 := box_cell hb1 (by simp) 1 rfl
  have hc2 := box_cell hb1 (by simp) 2 rfl
  have hc3 := box_cell hb1 (by simp) 3 rfl
  have hc4 := box_cell hb1 (by simp) 4 rfl
  have hsz := box_size hb1
  have hB1 : Below w.heap.size w w1 := ((Below.refl _ _).alloc (Nat.le_refl _) _).trans (hb1.mono (by simp))
  go_wp2_with fail
  refine (HEv.out _).mono ?_
  rintro e w2 ⟨v2, rfl, hown2, hb2⟩
  obtain ⟨g, cap, rfl, hgb, hg, hcap, hcells⟩ := own_form hown2 hT1
  have hs2 := hb2.size
  have hB2 := hB1.trans (hb2.mono hB1.size)
  have HC := hide (fun (k : Nat) (hk : k < T) => hcells k _ (HrowE.out k hk))
  have d1 := keepc hb2 hsz 1 hc1
  clear hc0 hc1 hc2 hc3 hc4 hown2 hcells HrowE HRw HEv
  go_wp2_with fail
  have hlen0 : ∀ k, (Sh.gi R q a k).length ≤ a ∧ (Sh.gi R q a k).length ≤ k := fun k => Sh.gi_len R q a k
  have HSol0 : Hid (Sh.Sol (w2.alloc (.cells #[.slice none 0 0] 113)) w2.heap.size []) := ⟨_, heap_alloc_new w2 _, World.ownsRow_nil _ _ _ _, fun _ => rfl⟩
  go_loopw [8, 9, 10, 24] (fun gv _ _ i wr => ∃ k : Nat, k ≤ T ∧ i = .int .i64 k ∧ gv = .int .i64 (Sh.gi R q a k).length ∧ Sh.Sol wr w2.heap.size (Sh.kn row (Sh.gi R q a k)) ∧ Below w2.heap.size w2 wr) (fun _ _ _ i _ => T - (intOf i).toNat)
  case atStart => exact ⟨0, Nat.zero_le _, rfl, rfl, HSol0.out, (Below.refl _ _).alloc (Nat.le_refl _) _⟩
  case round =>
    obtain ⟨k, hk, rfl, rfl, hsol, hbl⟩ := hrel
    have hsr := hbl.size
    have e1 := keepc hbl (by omega) 1 d1
    by_cases hlt : k < T
    · have hck := keepc hbl hg k (HC.out k hlt)
      have hgl := hlen0 k
      have hrk := Hrl.out k
      have hdv : (k : Int) / (R : Int) = ((k / R : Nat) : Int) := (Int.natCast_ediv k R).symm
      have HI := hide (fun (wx : World) => isLost_any q (k / R) wx hq (by have := HdivB.out k hlt; omega))
      have hdb := HdivB.out k hlt
      have HSl := hide hsol
      have HAdd := hide (fun (wx : World) (hx : Sh.Sol wx w2.heap.size (Sh.kn row (Sh.gi R q a k))) (hl : (Sh.gi R q a k).length < a) => add_ok w2.heap.size (Sh.kn row (Sh.gi R q a k)) (row k) (2 ^ (Sh.gi R q a k).length) wx hx (by have := Sh.kn_len row (Sh.gi R q a k); omega) (Sh.kn_lt Hrl.out _ (by omega)) hrk (Nat.pow_lt_pow_right (by decide) (by omega)))
      have HGi : Hid (Sh.gi R q a (k + 1) = if q.testBit (k / R) = false ∧ (Sh.gi R q a k).length < a then Sh.gi R q a k ++ [k] else Sh.gi R q a k) := rfl
      have HKn := hide (Sh.kn_snoc row (Sh.gi R q a k) k)
      have HGl := hide (show (Sh.gi R q a k ++ [k]).length = (Sh.gi R q a k).length + 1 by simp)
      clear hsol
      generalize hGk : Sh.gi R q a k = Gk at *
      have hpow := Sh.pow64 Gk.length (by omega)
      generalize hTw : 2 ^ Gk.length = tw at *
      generalize hrw : row k = rk at *
      have hmod : ((k / R : Nat) : Int) = (k : Int) / (R : Int) := hdv.symm
      generalize hdd : k / R = dd at *
      cases hbt : q.testBit dd with
      | true =>
        have HG1 := hide (show Sh.gi R q a (k + 1) = Gk by rw [HGi.out, hbt]; simp)
        rw [hbt] at HI
        clear hbt HGi HKn HGl HAdd hTw hrw hdd hmod
        go_wp2_with (go_at_call 56; refine (HI.out _).mono ?_; rintro e w' ⟨rfl, rfl⟩)
        go_roundw
        case rel => exact ⟨k + 1, by omega, by go_num, by rw [HG1.out], by rw [HG1.out]; exact HSl.out, hbl⟩
        case measure => simp [intOf]; omega
      | false =>
        rw [hbt] at HI
        by_cases hga : Gk.length < a
        · have HG1 := hide (show Sh.gi R q a (k + 1) = Gk ++ [k] by rw [HGi.out, hbt]; simp [hga])
          have HA1 := hide (HAdd.out _ HSl.out hga)
          clear hbt HGi HAdd hTw hrw hdd hmod
          go_wp2_with (first | (go_at_call 56; refine (HI.out _).mono ?_; rintro e w' ⟨rfl, rfl⟩) | (go_at_call 76; refine HA1.out.mono ?_; rintro e w4 ⟨rfl, hsol4, hb4⟩))
          go_roundw
          case rel => exact ⟨k + 1, by omega, by go_num, by rw [HG1.out, HGl.out]; go_num, by rw [HG1.out, HKn.out]; exact hsol4, hbl.trans hb4⟩
          case measure => simp [intOf]; omega
        · have HG1 := hide (show Sh.gi R q a (k + 1) = Gk by rw [HGi.out]; rw [if_neg (fun h => hga h.2)])
          clear hbt HGi HKn HGl HAdd hTw hrw hdd hmod
          go_wp2_with (go_at_call 56; refine (HI.out _).mono ?_; rintro e w' ⟨rfl, rfl⟩)
          go_roundw
          case rel => exact ⟨k + 1, by omega, by go_num, by rw [HG1.out], by rw [HG1.out]; exact HSl.out, hbl⟩
          case measure => simp [intOf]; omega
    · rename World => wr0
      have hkT : k = T := by omega
      subst hkT
      rw [Hgl.out]
      go_wp2_with fail
      have HSl := hide hsol
      have hkl := Sh.kn_len row (Sh.gi R q a k)
      have hgl := (hlen0 k).1
      have HRd := hide (fun (wx : World) (hx : Sh.Sol wx w2.heap.size (Sh.kn row (Sh.gi R q a k))) (d : Nat) (hd : d < 2 ^ 48) => reduce_ok w2.heap.size (Sh.kn row (Sh.gi R q a k)) d 0 wx hx (by omega) (Sh.kn_lt Hrl.out _ (by omega)) hd (Nat.two_pow_pos 48))
      have Hrd2 := hide (fun (d : Nat) (hd : d < 2 ^ 48) => (Sh.red_lt (n := 48) (Sh.kn_lt Hrl.out (Sh.gi R q a k) (by omega)) (e := (d, 0)) ⟨hd, Nat.two_pow_pos 48⟩).2)
      generalize hks : Sh.kn row (Sh.gi R q a k) = ks at *
      have Hks := hide hks
      clear hks hsol hkl hgl
      have HLl : Hid (∀ t, (Sh.ls row R q ks t).length ≤ t) := by
        intro t
        induction t with
        | zero => exact Nat.le_refl _
        | succ t ih =>
          simp only [Sh.ls]
          split
          · rw [List.length_append, List.length_singleton]; omega
          · omega
      go_loopw [11, 12, 13, 14, 61] (fun s _ _ _ i wr2 => ∃ t : Nat, t ≤ k ∧ i = .int .i64 t ∧ wr2.ownsRow wr0.heap.size 94 1 s (Sh.ls row R q ks t).length (Sh.nv64 (Sh.ls row R q ks t)) ∧ Below wr0.heap.size wr0 wr2) (fun _ _ _ _ i _ => k - (intOf i).toNat)
      case atStart => exact ⟨0, Nat.zero_le _, rfl, own_empty rfl (Nat.le_refl _), (Below.refl _ _).alloc (Nat.le_refl _) _⟩
      case round =>
        obtain ⟨t, ht, rfl, hown, hb3⟩ := hrel
        have hs3 := hb3.size
        have hlt := HLl.out t
        by_cases htk : t < k
        · have hck := keepc hb3 (by omega) t (keepc hbl hg t (HC.out t htk))
          have hrk := Hrl.out t
          have hdv : (t : Int) / (R : Int) = ((t / R : Nat) : Int) := (Int.natCast_ediv t R).symm
          have HI := hide (fun (wx : World) => isLost_any q (t / R) wx hq (by have := HdivB.out t htk; omega))
          have hdb := HdivB.out t htk
          have HLs : Hid (Sh.ls row R q ks (t + 1) = if q.testBit (t / R) = true then Sh.ls row R q ks t ++ [(Sh.red ks (row t, 0)).2] else Sh.ls row R q ks t) := rfl
          have HR1 := hide (fun (wx : World) (hx : Below wr0.heap.size wr0 wx) => HRd.out wx (HSl.out.below hx) (row t) hrk)
          have hr2 := Hrd2.out (row t) hrk
          have HNs := hide (fun (x : Nat) => (show Sh.nv64 (Sh.ls row R q ks t ++ [x]) = Sh.nv64 (Sh.ls row R q ks t) ++ [.int .u64 (x : Int)] by simp [Sh.nv64]))
          generalize hLt : Sh.ls row R q ks t = Lt at *
          generalize hee : Sh.red ks (row t, 0) = ee at *
          generalize hrw : row t = rk at *
          generalize hdd : t / R = dd at *
          clear hee hrw hdd hLt
          obtain ⟨ea, eb⟩ := ee
          simp only at hr2 HR1 HLs
          cases hbt : q.testBit dd with
          | false =>
            have HG1 := hide (show Sh.ls row R q ks (t + 1) = Lt by rw [HLs.out, hbt]; simp)
            rw [hbt] at HI
            clear hbt HLs
            go_wp2_with (go_at_call 56; refine (HI.out _).mono ?_; rintro e w' ⟨rfl, rfl⟩)
            go_roundw
            case rel => exact ⟨t + 1, by omega, by go_num, by rw [HG1.out]; exact hown, hb3⟩
            case measure => simp [intOf]; omega
          | true =>
            have HG1 := hide (show Sh.ls row R q ks (t + 1) = Lt ++ [eb] by rw [HLs.out, hbt]; simp)
            rw [hbt] at HI
            have HR2 := hide (HR1.out _ hb3)
            clear hbt HLs
            go_wp2_with (first | (go_at_call 56; refine (HI.out _).mono ?_; rintro e w' ⟨rfl, rfl⟩) | (go_at_call 77; refine HR2.out.mono ?_; rintro e w4 ⟨rfl, hb4⟩; have hs4 := hb4.size; have hown4 := own_below hown hb4) | (at_builtin; refine appendX _ rfl (.tmp 74) (.tmp 77) 83 rfl wr0.heap.size 94 i0 (.int .u64 0) 1 8 Try.underlying83 hi hz0 hz1 hz2 rfl (by decide) _ _ _ rfl ((hown4.alloc _).alloc _) ⟨w4.heap.size + 1, 0, none⟩ 1 1 [.int .u64 (eb : Int)] rfl rfl (fun j u hu => by rw [addr_add]; exact blk_cell (heap_new2 w4 _ _) (by simpa using hu)) (by simp; rfl) (by decide) (by unfold maxLen; omega) (by omega) (by simp; omega) ?_; intro v5 w5 hown5 hb5 hg5 hf5))
            go_roundw
            case rel => exact ⟨t + 1, by omega, by go_num, by rw [HG1.out, HNs.out, List.length_append]; exact hown5, (((hb3.trans (hb4.mono (by omega))).alloc (by omega) _).alloc (by simp; omega) _).trans hb5⟩
            case measure => simp [intOf]; omega
        · have htk' : t = k := by omega
          subst htk'
          go_wp2
          go_ret
          have hz2 := hB2.size
          have hfin : wr.ownsRow w.heap.size 94 1 u11 (Sh.ls row R q (Sh.kn row (Sh.gi R q a t)) t).length (Sh.nv64 (Sh.ls row R q (Sh.kn row (Sh.gi R q a t)) t)) := by
            rw [Hks.out]
            exact own_mono hown (by omega)
          exact ⟨u11, rfl, hfin, (hB2.trans (hbl.mono hB2.size)).trans (hb3.mono (by have := hB2.size; omega))⟩
end Go.Proofs.Ythhbpofcemoflab
