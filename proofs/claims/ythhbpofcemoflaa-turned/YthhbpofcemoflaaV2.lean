import Derived.Test.YthhbpofcemoflaaV1
import Derived.BigQuiet
namespace Go.Proofs.Ythhbpofcemoflaa
open Go.RowKit
set_option maxRecDepth 20000
namespace Sh
theorem own_prefix {w : World} {base : Nat} {e : TypeId} {g n cap k : Nat} {xs : List Value} (h : w.ownsRow base e 1 (.slice (some ⟨g, 0, none⟩) n cap) n xs) (hk : k ≤ n) : w.ownsRow base e 1 (.slice (some ⟨g, 0, none⟩) k cap) k (xs.take k) := by
  obtain ⟨hl, h⟩ := h
  refine ⟨by rw [List.length_take, hl]; omega, ?_⟩
  rcases h with ⟨hc, _⟩ | ⟨g', cap', cur, hv, hb, hgg, h1, h2, h3, h4⟩
  · cases hc
  · injection hv with hv1 hv2 hv3
    subst hv3
    injection hv1 with hv1
    injection hv1 with hv1
    subst hv1
    exact Or.inr ⟨g, cap, cur, rfl, hb, hgg, by omega, h2, h3, by rw [← h4, List.take_take]; congr 1; omega⟩
theorem Dat.front {w : World} {base : Nat} {tS : TypeId} {g cap n K M : Nat} {ps : List (Nat × Nat × Nat)} {Z : List (List Int)} (h : Dat w base tS (.slice (some ⟨g, 0, none⟩) (K + M) cap) n ps Z) (hpl : ps.length = K + M) : Dat w base tS (.slice (some ⟨g, 0, none⟩) K cap) n (ps.take K) (Z.take K) := by
  have hr := h.row
  rw [hpl] at hr
  have hr2 := own_prefix (k := K) hr (by omega)
  have hl : (ps.take K).length = K := by rw [List.length_take, hpl]; omega
  refine ⟨?_, by rw [List.length_take, List.length_take, h.lens], fun p hp => h.caps p (List.mem_of_mem_take hp), fun p hp => h.lt p (List.mem_of_mem_take hp), ?_⟩
  · rw [hl]
    have : sv n (ps.take K) = (sv n ps).take K := by simp [sv, List.map_take]
    rw [this]
    exact hr2
  · intro j p x hp hx
    have hj : j < K := by rw [← hl]; exact (List.getElem?_eq_some_iff.1 hp).1
    rw [List.getElem?_take, if_pos hj] at hp hx
    exact h.each j p x hp hx
theorem str_inj {x y : List Int} (hx : ∀ b ∈ x, Byte b) (hy : ∀ b ∈ y, Byte b) (h : (strOfNums x).toList = (strOfNums y).toList) : x = y := by
  have h1 : x.map (fun n => UInt8.ofNat n.toNat) = y.map (fun n => UInt8.ofNat n.toNat) := by
    rw [← strOfNums_data, ← strOfNums_data, ← ByteArray.toList_eq, ← ByteArray.toList_eq, h]
  clear h
  induction x generalizing y with
  | nil =>
    cases y with
    | nil => rfl
    | cons b y => simp at h1
  | cons a x ih =>
    cases y with
    | nil => simp at h1
    | cons b y =>
      rw [List.map_cons, List.map_cons] at h1
      injection h1 with h1 h2
      have ha := hx a (by simp)
      have hb := hy b (by simp)
      obtain ⟨n, rfl, hn⟩ := byte_nat ha
      obtain ⟨m, rfl, hm⟩ := byte_nat hb
      have h3 := congrArg UInt8.toNat h1
      simp only [Int.toNat_natCast, UInt8.toNat_ofNat'] at h3
      have h4 : n = m := by omega
      subst h4
      rw [ih (fun b hb => hx b (by simp [hb])) (fun b hb => hy b (by simp [hb])) h2]
end Sh

theorem Sh.Keep.below {w w2 w3 : World} {cb : Nat} (h : Sh.Keep w w2 cb) (hb : Below w2.heap.size w2 w3) : Sh.Keep w w3 cb := ⟨grown_below h.grown hb, fun b v n ps X hd hne => (h.dat b v n ps X hd hne).below hb⟩
set_option maxHeartbeats 2000000 in
theorem verify_ok (cb : Nat) (kind : Int) (K M : Nat) (N gd lev scr : Int) (blk : Nat) (cac : Int) (size : Nat) (v : Value) (base : Nat) (ps : List (Nat × Nat × Nat)) (Z : List (List Int)) (w : World) (h : Sh.Ok kind K M N gd) (hcac : 0 ≤ cac) (hc4 : cac ≤ 4) (hbk : 1 ≤ blk) (hbk' : blk ≤ 64)
    (hs1 : 1 ≤ size) (hs2 : size ≤ 48) (hc : Sh.CS w cb kind K M N gd lev scr blk cac) (hd : Sh.Dat w base 35 v (Sh.R kind N * size) ps Z) (hpl : ps.length = K + M) (hne : ∀ p ∈ ps, p.1 ≠ cb) (bZ : Sh.Bytes Z) :
    Calls Try.prog 20 #[.pointer (some ⟨cb, 0, none⟩), v] w fun e w' => e = .returned (.tuple #[.bool (decide (Sh.parB kind K M N gd size (Z.take K) = Z.drop K)), .int .i64 0]) ∧ Sh.CS w' cb kind K M N gd lev scr blk cac ∧ Sh.Keep w w' cb := by
  obtain ⟨hK, hM, h10, hR1, hR2, hKR, hMR, hPL⟩ := h.bounds
  obtain ⟨p0, g0, o0, z0, v0, cnt, hblk⟩ := hc.blk
  have hcb := blk_lt hblk
  have c0 : w.cell? ⟨cb, 0, none⟩ = some (.int .i64 kind) := blk_cell hblk rfl
  have c1 : w.cell? ⟨cb, 1, none⟩ = some (.int .i64 K) := blk_cell hblk rfl
  have c2 : w.cell? ⟨cb, 2, none⟩ = some (.int .i64 M) := blk_cell hblk rfl
  have c3 : w.cell? ⟨cb, 3, none⟩ = some (.int .i64 N) := blk_cell hblk rfl
  have c4 : w.cell? ⟨cb, 4, none⟩ = some (.int .i64 gd) := blk_cell hblk rfl
  have hrow := hd.row
  rw [hpl] at hrow
  obtain ⟨gD, capD, hvD, _, hgD, hcD, hcellsD⟩ := own_form hrow (by omega)
  subst hvD
  have HF := hide (fun (wx : World) (hx : Below w.heap.size w wx) => fit_ok cb _ base (K + M) size ps kind K M N gd wx h hs1 hs2 (by omega) (by omega) hpl (by have := (hd.below hx).row; rw [hpl] at this; exact this) (Nat.lt_of_lt_of_le hcb hx.size) (keepc hx hcb 0 c0) (keepc hx hcb 1 c1) (keepc hx hcb 2 c2) (keepc hx hcb 3 c3) (keepc hx hcb 4 c4) hR1 hR2)
  have hfr := hd.front hpl
  have HP := hide (fun (wx : World) (hx : Below w.heap.size w wx) => made_ok cb kind K M N gd lev scr blk cac size _ base (ps.take K) (Z.take K) wx h hcac hc4 hbk hbk' hs1 hs2 (hc.below hx) (hfr.below hx) (by rw [List.length_take, hpl]; omega) (fun p hp => hne p (List.mem_of_mem_take hp)) (fun x hx => bZ x (List.mem_of_mem_take hx)))
  have HPar := hide (Sh.par_eq h size (Z.take K) (fun x hx => bZ x (List.mem_of_mem_take hx)))
  rw [HPar.out] at HP
  have HKeep := hide (fun (w' : World) (hg : w.grownBy w' (some cb)) => (⟨hg, fun b v n ps X hd hne => hd.grown hg hblk (by decide) hne⟩ : Sh.Keep w w' cb))
  have HC1 := hide (fun (wx : World) (hx : Below w.heap.size w wx) => keepc hx hcb 1 c1)
  have Hdw := hide hd
  have Hne := hide hne
  have Hpl := hide hpl
  have HbZ := hide bZ
  have HPB := hide (Sh.parB_bytes kind K M N gd size (Z.take K))
  have HPLn := hide (Sh.parB_len kind K M N gd size (Z.take K))
  clear hblk hc hd hne hpl h hfr hrow hcellsD bZ HPar
  generalize hPX : Sh.parB kind K M N gd size (Z.take K) = PX at *
  clear hPX
  generalize hn : Sh.R kind N * size = n at *
  clear hn
  go_enter Try.func20, Try.ntmps20
  go_wp2
  have hnb : Nonempty (BW w) := ⟨⟨w, Below.refl _ _⟩⟩
  have b1 : ∀ s : BW w, s.out.cell? ⟨cb, 1, none⟩ = some (.int .i64 K) := fun s => keepc s.low hcb 1 c1
  have b2 : ∀ s : BW w, s.out.cell? ⟨cb, 2, none⟩ = some (.int .i64 M) := fun s => keepc s.low hcb 2 c2
  refine wp_region_low_lit (by kernel_rfl) (by kernel_rfl) ?_
  repeat (go_big_quiet_step ((refine (HF.out _ (BW.low _)).mono ?_; rintro e w1 ⟨rfl, hb1⟩; exact ⟨rfl, ⟨w1, (BW.low _).trans (hb1.mono (BW.low _).size)⟩, rfl⟩)))
  refine wpQuiet_nil ?_
  rintro w1 ⟨s1, rfl⟩
  have hlow1 := s1.low
  generalize s1.out = w1 at *
  have d1 := HC1.out w1 hlow1
  have hs1' := hlow1.size
  clear b1 b2 c0 c1 c2 c3 c4
  go_wp2_with fail
  refine (HP.out w1 hlow1).mono ?_
  rintro e w2 ⟨v2, qs, rfl, hql, hown2, hcs2, hg2⟩
  have hs2' := hg2.size
  have hk := HKeep.out w2 (grown_trans (grown_of hlow1 _) hg2)
  have HZ2 := hide (hk.dat _ _ _ _ _ Hdw.out Hne.out)
  have HP2 := hide (own_dat hown2)
  have hrow2 := hown2.row
  rw [hql] at hrow2
  obtain ⟨g2, cap2, hv2, _, hgg2, hcap2, hcells2⟩ := own_form hrow2 hM
  subst hv2
  have HcP := hide hcells2
  have hrz := HZ2.out.row
  rw [Hpl.out] at hrz
  have HcZ := hide (own_cells hrz)
  obtain ⟨q0, q1, q2, q3, q4, q5, hblk2⟩ := hcs2.blk
  have e1 : w2.cell? ⟨cb, 1, none⟩ = some (.int .i64 K) := blk_cell hblk2 rfl
  have Hql := hide hql
  have HCS2 := hide hcs2
  have HZl := hide (show Z.length = K + M by rw [HZ2.out.lens, Hpl.out])
  clear d1 hown2 hrow2 hcells2 hrz hblk2 hql hcs2
  go_wp2_with fail
  go_loopw [7, 8, 39] (fun _ _ ki wr => ∃ k : Nat, k ≤ M ∧ ki = .int .i64 k ∧ PX.take k = (Z.drop K).take k ∧ ∃ q, wr = w2.drewN q) (fun _ _ ki _ => M - (intOf ki).toNat)
  case atStart => exact ⟨0, Nat.zero_le _, rfl, by simp, 0, rfl⟩
  case round =>
    obtain ⟨k, hk', rfl, heq, q, rfl⟩ := hrel
    have Heq := hide heq
    clear heq
    by_cases hlk : k < M
    · obtain ⟨x, hx⟩ : ∃ x, PX[k]? = some x := ⟨_, List.getElem?_eq_getElem (by rw [HPLn.out]; exact hlk)⟩
      obtain ⟨z, hz⟩ : ∃ z, Z[K + k]? = some z := ⟨_, List.getElem?_eq_getElem (by rw [HZl.out]; omega)⟩
      obtain ⟨t, ht⟩ : ∃ t, qs[k]? = some t := ⟨_, List.getElem?_eq_getElem (by rw [Hql.out]; exact hlk)⟩
      obtain ⟨r, hr⟩ : ∃ r, ps[K + k]? = some r := ⟨_, List.getElem?_eq_getElem (by rw [Hpl.out]; omega)⟩
      have a1 : w2.cell? ⟨g2, k, none⟩ = some (.slice (some ⟨t.1, t.2.1, none⟩) n t.2.2) := HcP.out k _ (Sh.sv_get ht)
      have a2 : w2.cell? ⟨gD, K + k, none⟩ = some (.slice (some ⟨r.1, r.2.1, none⟩) n r.2.2) := HcZ.out (K + k) _ (Sh.sv_get hr)
      have c1 := fun m => dat_conv (HP2.out.below (below_drewN w2 m)) ht hx
      have c2 := fun m => dat_conv (HZ2.out.below (below_drewN w2 m)) hr hz
      have bx := HPB.out x (List.mem_of_getElem? hx)
      have bz := HbZ.out z (List.mem_of_getElem? hz)
      have HX := hide hx
      have HZk := hide (show (Z.drop K)[k]? = some z by rw [List.getElem?_drop]; exact hz)
      by_cases hxz : x = z
      · subst hxz
        clear hx hz ht hr bx bz
        go_wp2
        go_quiet (fail)
        go_wp2
        go_roundw
        case rel => exact ⟨k + 1, by omega, by go_num, by rw [List.take_add_one, List.take_add_one, HX.out, HZk.out, Heq.out], _, rfl⟩
        case measure => simp [intOf]; omega
      · have hne2 : ((strOfNums x).toList == (strOfNums z).toList) = false := by
          have : (strOfNums x).toList ≠ (strOfNums z).toList := fun e => hxz (Sh.str_inj bx bz e)
          simpa using this
        have hres : decide (PX = Z.drop K) = false := decide_eq_false (fun e => hxz (by
          have h1 := HX.out
          rw [e, HZk.out] at h1
          injection h1 with h1
          exact h1.symm))
        clear hx hz ht hr bx bz
        go_wp2
        go_quiet (fail)
        go_wp2
        go_ret2
        have hbd : Below w2.heap.size w2 ((w2.drewN q).drewN nq) := (below_drewN w2 q).trans (below_drewN (w2.drewN q) nq)
        exact ⟨by rw [hres]; rfl, Sh.CS.below HCS2.out hbd, hk.below hbd⟩
    · have hkM : k = M := by omega
      subst hkM
      have hres : decide (PX = Z.drop K) = true := decide_eq_true (by
        have := Heq.out
        rw [List.take_of_length_le (by rw [HPLn.out]; exact Nat.le_refl _), List.take_of_length_le (by rw [List.length_drop, HZl.out]; omega)] at this
        exact this)
      go_wp2
      go_ret2
      exact ⟨by rw [hres]; rfl, Sh.CS.below HCS2.out (below_drewN _ _), hk.below (below_drewN _ _)⟩
end Go.Proofs.Ythhbpofcemoflaa
