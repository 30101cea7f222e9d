import Derived.Test.YtfnfnmonnfcpeabL2
import Derived.BigQuiet
import Derived.Deep.QuietTactic
namespace Go.Proofs.Ytfnfnmonnfcpeab
open Go.RowKit
set_option maxRecDepth 20000

theorem below_drewN (w : World) (q : Nat) : Below w.heap.size w (w.drewN q) := ⟨rfl, rfl, rfl, Nat.le_refl _, fun _ _ => rfl⟩

set_option maxHeartbeats 1000000 in
theorem coded_ok (cb : Nat) (kind : Int) (K M : Nat) (N gd lev scr : Int) (blk : Nat) (cac : Int) (size : Nat) (v : Value) (base : Nat) (ps : List (Nat × Nat × Nat)) (X : List (List Int)) (w : World) (h : Sh.Ok kind K M N gd) (hcac : 0 ≤ cac) (hc4 : cac ≤ 4) (hbk : 1 ≤ blk) (hbk' : blk ≤ 64)
    (hs1 : 1 ≤ size) (hs2 : size ≤ 48) (hc : Sh.CS w cb kind K M N gd lev scr blk cac) (hd : Sh.Dat w base 33 v (Sh.R kind N * size) ps X) (hpl : ps.length = K) (hne : ∀ p ∈ ps, p.1 ≠ cb) :
    Calls Try.prog 32 #[.pointer (some ⟨cb, 0, none⟩), .int .i64 M, v] w fun e w' => ∃ (v' : Value) (qs : List (Nat × Nat × Nat)), e = .returned (.tuple #[v', .bool true]) ∧ qs.length = M ∧
      Sh.Own w' w.heap.size 33 5 v' (Sh.R kind N * size) qs (Sh.par kind K M N gd size X) ∧ Sh.CS w' cb kind K M N gd lev scr blk cac ∧ w.grownBy w' (some cb) := by
  obtain ⟨hK, hM, h10, hR1, hR2, hKR, hMR, hPL⟩ := h.bounds
  have HE := hide (encode_ok cb kind K M N gd lev scr blk cac size v base ps X w h hcac hc4 hbk hbk' hs1 hs2 hc hd hpl hne)
  obtain ⟨p0, g0, o0, z0, v0, cnt, hblk⟩ := hc.blk
  have HG := hide (fun (w' : World) (hg : w.grownBy w' (some cb)) => hd.grown hg hblk (by decide) hne)
  have hrow := hd.row
  rw [hpl] at hrow
  obtain ⟨gD, capD, hvD, _, hgD, hcD, hcellsD⟩ := own_form hrow hK
  have HPL := hide hpl
  have hn1 : 1 ≤ Sh.R kind N * size := Nat.mul_pos hR1 hs1
  clear hblk hc hd hne hpl h hrow hcellsD
  subst hvD
  generalize Sh.par kind K M N gd size X = PX at *
  generalize hn : Sh.R kind N * size = n at *
  clear hn
  go_enter Try.func32, Try.ntmps32
  go_wp2_with fail
  refine HE.out.mono ?_
  rintro e w1 ⟨v1, qs, rfl, hql, hown, hcs, hgr⟩
  have hrow1 := hown.row
  rw [hql] at hrow1
  obtain ⟨g1, cap1, hv1, hgb1, hg1, hcap1, hcells1⟩ := own_form hrow1 hM
  have HC1 := hide hcells1
  have hdr := (HG.out w1 hgr).row
  rw [HPL.out] at hdr
  obtain ⟨p, hp⟩ : ∃ p, ps[0]? = some p := ⟨_, List.getElem?_eq_getElem (by rw [HPL.out]; omega)⟩
  have d0 : w1.cell? ⟨gD, 0, none⟩ = some (.slice (some ⟨p.1, p.2.1, none⟩) n p.2.2) := own_cells hdr 0 _ (Sh.sv_get hp)
  have HOwn := hide hown
  have HCS := hide hcs
  have HGR := hide hgr
  have HQL := hide hql
  have HV1 := hide hv1
  clear hcells1 hown hcs hgr hql hv1 hrow1 hdr hp
  rw [HV1.out]
  have e1 : ((K : Int) == 0) = false := by simp; omega
  have e2 : ((n : Int) == 0) = false := by simp; omega
  go_wp2_with fail
  go_loopw [10] (fun i wr => ∃ k : Nat, k ≤ M ∧ i = .int .i64 k ∧ ∃ q, wr = w1.drewN q) (fun i _ => M - (intOf i).toNat)
  case atStart => exact ⟨0, Nat.zero_le _, rfl, 0, rfl⟩
  case round =>
    obtain ⟨k, hk, rfl, q, rfl⟩ := hrel
    by_cases hlk : k < M
    · obtain ⟨t, ht⟩ : ∃ t, qs[k]? = some t := ⟨_, List.getElem?_eq_getElem (by rw [HQL.out]; exact hlk)⟩
      have hck : w1.cell? ⟨g1, k, none⟩ = some (.slice (some ⟨t.1, t.2.1, none⟩) n t.2.2) := HC1.out k _ (Sh.sv_get ht)
      clear ht
      go_wp2
      go_quiet (fail)
      go_wp2
      go_roundw
      case rel => exact ⟨k + 1, by omega, by go_num, _, rfl⟩
      case measure => simp [intOf]; omega
    · have hkM : k = M := by omega
      subst hkM
      go_wp2
      go_ret2
      have hdb := below_drewN w1 q
      refine ⟨_, qs, rfl, HQL.out, ?_, Sh.CS.below HCS.out hdb, grown_drewN HGR.out _⟩
      have := HOwn.out.below hdb
      rw [HV1.out] at this
      exact this
end Go.Proofs.Ytfnfnmonnfcpeab
