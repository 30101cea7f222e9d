import Derived.Test.YthhbpofcemoflabX2
import Derived.Test.YthhbpofcemoflabS7
import Derived.Test.YthhbpofcemoflabT1
namespace Go.Proofs.Ythhbpofcemoflab
open Go.RowKit
set_option maxRecDepth 20000
set_option maxHeartbeats 2000000 in
theorem program_ok (cb : Nat) (kind : Int) (K M : Nat) (N gd lev scr blk cac : Int) (q : Nat) (vl : Value) (w : World) (h : Sh.Ok kind K M N gd) (hP : Sh.Pb kind K M N gd) (hq : q < 2 ^ 20) (hq0 : q ≠ 0) (hlo1 : 1 ≤ (Sh.lo q (K + M)).length) (hlo : (Sh.lo q (K + M)).length ≤ M) (hc4 : cac ≤ 4) (hc : Sh.CS w cb kind K M N gd lev scr blk cac)
    (hpat : Calls Try.prog 47 #[.pointer (some ⟨cb, 0, none⟩), vl] w fun e w' => e = .returned (.tuple #[.int .i64 (q : Int), .int .i64 0]) ∧ Below w.heap.size w w') :
    Calls Try.prog 36 #[.pointer (some ⟨cb, 0, none⟩), vl] w fun e w' => e = .returned (.tuple #[.string (strOfNums (Sh.txt (K * Sh.R kind N) ((Sh.lo q (K + M)).length * Sh.R kind N) (Sh.lprz kind K M N gd lev scr q) (Sh.lprog kind K M N gd lev scr q))), .int .i64 0]) ∧ Sh.CC w' cb kind K M N gd blk ∧ w.grownBy w' (some cb) := by
  obtain ⟨hK, hM, h10, hR1, hR2, hKR, hMR, hPL⟩ := h.bounds
  have hll := Sh.lsums_len kind K M N gd q
  have hmR : (Sh.lo q (K + M)).length * Sh.R kind N ≤ 40 := Nat.le_trans (Nat.mul_le_mul_right _ hlo) hMR
  have hgd := Sh.lprog_good h lev scr q hlo1 hlo
  have hpp : 1 ≤ (Sh.lprog kind K M N gd lev scr q).length := hgd.pos
  have hpn : (Sh.lprog kind K M N gd lev scr q).length ≤ 2048 := hgd.len
  have hS : Sh.Snd (K * Sh.R kind N) ((Sh.lo q (K + M)).length * Sh.R kind N) (Sh.lprz kind K M N gd lev scr q) (Sh.lprog kind K M N gd lev scr q) := by
    have := hgd.snd
    rw [Sh.lost_len] at this
    exact this
  have HW := hide (fun (wx : World) (hx : Below w.heap.size w wx) => wantq_any cb kind K M N gd lev scr blk cac q wx h hP hq hq0 hlo1 hlo hc4 (hc.below hx))
  have HT := hide (fun (wx : World) (go co : Nat) (ho : wx.ownsRow 0 98 3 (.slice (some ⟨go, 0, none⟩) (Sh.lprog kind K M N gd lev scr q).length co) (Sh.lprog kind K M N gd lev scr q).length (Sh.opCells (Sh.lprog kind K M N gd lev scr q))) => text_ok (K * Sh.R kind N) ((Sh.lo q (K + M)).length * Sh.R kind N) (Sh.lprz kind K M N gd lev scr q) (Sh.lprog kind K M N gd lev scr q) 0 go co wx hKR hmR hgd.hB hpp hpn hS ho)
  have HPat := hide hpat
  clear h hP hc hpat hS hll hpp hpn hPL hgd
  generalize Sh.lprog kind K M N gd lev scr q = pr at *
  generalize Sh.lprz kind K M N gd lev scr q = pz at *
  generalize K * Sh.R kind N = Gn at *
  generalize (Sh.lo q (K + M)).length * Sh.R kind N = On at *
  generalize strOfNums (Sh.txt Gn On pz pr) = st at *
  go_enter Try.func36, Try.ntmps36
  go_wp2_with fail
  refine HPat.out.mono ?_
  rintro e w1 ⟨rfl, hb1⟩
  go_wp2_with fail
  refine (HW.out _ hb1).mono ?_
  rintro e w2 ⟨go, co, rfl, ho2, hcc2, hg2⟩
  have HCC := hide hcc2
  have HT2 := hide (fun (o : Obj) => HT.out (w2.alloc o) go co (ho2.alloc o))
  have hG2 := grown_trans (grown_of hb1 (some cb)) hg2
  clear ho2 hcc2
  go_wp2_with (go_at_call 51; refine (HT2.out _).mono ?_; rintro e w3 ⟨rfl, hb3⟩)
  go_ret2
  exact ⟨rfl, (HCC.out.below ((Below.refl _ _).alloc (Nat.le_refl _) _)).below hb3, grown_below (grown_alloc hG2 _) hb3⟩
end Go.Proofs.Ythhbpofcemoflab
namespace Go.Proofs.Ythhbpofcemoflab
open Go.RowKit
set_option maxRecDepth 20000
set_option maxHeartbeats 2000000 in
theorem same60_ok (K n : Nat) (va vb : Value) (ba bb : Nat) (pa pb : List (Nat × Nat × Nat)) (X : List (List Int)) (w : World) (hK : 1 ≤ K) (hK9 : K ≤ 60) (hda : Sh.Dat w ba 33 va n pa X) (hdb : Sh.Dat w bb 33 vb n pb X) (hpa : pa.length = K) (hpb : pb.length = K) :
    Calls Try.prog 33 #[va, vb] w fun e w' => e = .returned (.bool true) ∧ ∃ q, w' = w.drewN q := by
  have hra := hda.row
  rw [hpa] at hra
  obtain ⟨ga, capa, rfl, _, hga, hcapa, hcella⟩ := own_form hra hK
  have hrb := hdb.row
  rw [hpb] at hrb
  obtain ⟨gb, capb, rfl, _, hgb, hcapb, hcellb⟩ := own_form hrb hK
  have HA := hide (fun (wx : World) (hb : Below w.heap.size w wx) => hda.below hb)
  have HB := hide (fun (wx : World) (hb : Below w.heap.size w wx) => hdb.below hb)
  have HPA := hide hpa
  have HPB := hide hpb
  have HXL := hide (show X.length = K by rw [hda.lens, hpa])
  have HCA := hide hcella
  have HCB := hide hcellb
  clear hda hdb hpa hpb hra hrb hcella hcellb
  go_enter Try.func33, Try.ntmps33
  go_wp2
  go_loopw [5] (fun i wr => ∃ k : Nat, k ≤ K ∧ i = .int .i64 k ∧ ∃ q, wr = w.drewN q) (fun i _ => K - (intOf i).toNat)
  case atStart => exact ⟨0, Nat.zero_le _, rfl, 0, rfl⟩
  case round =>
    obtain ⟨k, hk, rfl, q, rfl⟩ := hrel
    by_cases hlk : k < K
    · obtain ⟨x, hx⟩ : ∃ x, X[k]? = some x := ⟨_, List.getElem?_eq_getElem (by rw [HXL.out]; exact hlk)⟩
      obtain ⟨p, hp⟩ : ∃ p, pa[k]? = some p := ⟨_, List.getElem?_eq_getElem (by rw [HPA.out]; exact hlk)⟩
      obtain ⟨r, hr⟩ : ∃ r, pb[k]? = some r := ⟨_, List.getElem?_eq_getElem (by rw [HPB.out]; exact hlk)⟩
      have z1 : w.cell? ⟨ga, k, none⟩ = some (.slice (some ⟨p.1, p.2.1, none⟩) n p.2.2) := HCA.out k _ (Sh.sv_get hp)
      have z2 : w.cell? ⟨gb, k, none⟩ = some (.slice (some ⟨r.1, r.2.1, none⟩) n r.2.2) := HCB.out k _ (Sh.sv_get hr)
      have c1 := fun m => dat_conv (HA.out (w.drewN m) (below_drewN w m)) hp hx
      have c2 := fun m => dat_conv (HB.out (w.drewN m) (below_drewN w m)) hr hx
      clear hx hp hr
      go_wp2
      go_quiet (fail)
      go_wp2
      go_roundw
      case rel => exact ⟨k + 1, by omega, by go_num, _, rfl⟩
      case measure => simp [intOf]; omega
    · have hkK : k = K := by omega
      subst hkK
      go_wp2
      go_ret
      exact ⟨rfl, q, rfl⟩
set_option maxHeartbeats 1000000 in
theorem cut_ok (v : Value) (base K R size : Nat) (ps : List (Nat × Nat × Nat)) (w : World) (hK : 1 ≤ K) (hK' : K ≤ 20) (hR : 1 ≤ R) (hR' : R ≤ 8) (hs1 : 1 ≤ size) (hs2 : size ≤ 48) (hl : ps.length = K)
    (hcap : ∀ p ∈ ps, R * size ≤ p.2.2 ∧ p.2.2 ≤ maxLen) (hv : w.ownsRow base 33 1 v K (Sh.sv (R * size) ps)) :
    Calls Try.prog 37 #[v, .int .i64 R] w
      fun e w' => ∃ v', e = .returned v' ∧ w'.ownsRow w.heap.size 33 1 v' (K * R) (Sh.sv size (Sh.cutAll size R ps)) ∧ Below w.heap.size w w' := by
  obtain ⟨i0, hi, hz0, hz1, hz2⟩ := info_parts Try.infoSl
  obtain ⟨g, cap, rfl, _, hg, hcp, hcells⟩ := own_form hv hK
  have HCC := hide hcells
  have HCAP := hide hcap
  have HL := hide hl
  clear hcells hcap hl hv
  go_enter Try.func37, Try.ntmps37
  go_wp2
  go_loopw [5, 6, 7, 8, 9] (fun v i' _ _ _ wr => ∃ k : Nat, k ≤ K ∧ i' = .int .i64 k ∧ wr.ownsRow w.heap.size 33 1 v (k * R) (Sh.sv size (Sh.cutAll size R (ps.take k))) ∧ Below w.heap.size w wr) (fun _ i _ _ _ _ => K - (intOf i).toNat)
  case atStart => exact ⟨0, Nat.zero_le _, rfl, by simp only [Nat.zero_mul]; exact World.ownsRow_nil _ _ _ _, Below.refl _ _⟩
  case round =>
    obtain ⟨k, hk, rfl, hown, hbl⟩ := hrel
    have hsw := hbl.size
    by_cases hlt : k < K
    · have hlp : k < ps.length := by rw [HL.out]; exact hlt
      have hck := (hbl.cell (p := ⟨g, k, none⟩) hg).trans (HCC.out k _ (Sh.sv_get (List.getElem?_eq_getElem hlp)))
      have hcp2 := HCAP.out ps[k] (List.getElem_mem _)
      have HS := hide (List.take_succ_eq_append_getElem hlp)
      have HGet := hide (HCC.out k _ (Sh.sv_get (List.getElem?_eq_getElem hlp)))
      generalize hp0 : ps[k] = p0 at *
      clear hp0
      obtain ⟨pg, po, pc⟩ := p0
      simp only at hck hcp2 HGet
      unfold maxLen at hcp2
      have hkR : k * R ≤ 160 := by
        have : k * R ≤ 20 * 8 := Nat.mul_le_mul (by omega) hR'
        omega
      have hRs : R * size ≤ 384 := by
        have : R * size ≤ 8 * 48 := Nat.mul_le_mul hR' hs2
        omega
      have hdiv : (R : Int) * (size : Int) / (R : Int) = (size : Int) := Int.mul_ediv_cancel_left _ (by omega)
      go_wp2
      rw [hdiv]
      clear hdiv
      go_loopw [5, 8, 9] (fun v i' _ wr => ∃ r : Nat, r ≤ R ∧ i' = .int .i64 r ∧ wr.ownsRow w.heap.size 33 1 v (k * R + r) (Sh.sv size (Sh.cutAll size R (ps.take k) ++ Sh.cutOne size r (pg, po, pc))) ∧ Below w.heap.size w wr) (fun _ i _ _ => R - (intOf i).toNat)
      case atStart => exact ⟨0, Nat.zero_le _, rfl, by simpa [Sh.cutOne] using hown, hbl⟩
      case round =>
        clear hck hown hbl hsw
        obtain ⟨r, hr, rfl, hown, hbl⟩ := hrel
        have hsw := hbl.size
        have hck := (hbl.cell (p := ⟨g, k, none⟩) hg).trans HGet.out
        by_cases hlr : r < R
        · have hrs : r * size + size ≤ R * size := by
            have : (r + 1) * size ≤ R * size := Nat.mul_le_mul_right _ hlr
            rw [Nat.add_mul, Nat.one_mul] at this
            exact this
          have hne : ¬ pc = r * size := by omega
          have hle : r * size ≤ pc := by omega
          go_wp2_with (at_builtin; refine append1x _ rfl (.tmp 28) (.tmp 42) 32 rfl w.heap.size 33 i0 (.slice none 0 0) 1 24 Try.underlying32 hi hz0 hz1 hz2 rfl (by decide) (by decide) _ _ _ _ rfl hown rfl rfl (by simp; rfl) (by omega) (by omega) ?_; intro v' w3 hown3 hb3 hg3 hf3)
          go_roundw
          case rel => exact ⟨r + 1, by omega, by go_num, by rw [Sh.cutOne_succ, ← List.append_assoc, Sh.sv_append]; exact hown3, hbl.trans hb3⟩
          case measure => simp [intOf]; omega
        · have hrR : r = R := by omega
          subst hrR
          go_wp2
          go_roundw
          case rel => exact ⟨k + 1, by omega, by go_num, by rw [HS.out, Sh.cutAll_snoc, Nat.add_mul, Nat.one_mul]; exact hown, hbl⟩
          case measure => simp [intOf]; omega
    · have hkK : k = K := by omega
      subst hkK
      go_wp2
      go_ret
      exact ⟨_, rfl, by rw [List.take_of_length_le (by rw [HL.out]; exact Nat.le_refl _)] at hown; exact hown, hbl⟩
end Go.Proofs.Ythhbpofcemoflab
