import Derived.Test.YtfnfnmonnfcpeaaM1
namespace Go.Proofs.Ytfnfnmonnfcpeaa
open Go.RowKit
set_option maxRecDepth 20000

theorem dat_conv {w : World} {base : Nat} {v : Value} {n : Nat} {ps : List (Nat × Nat × Nat)} {X : List (List Int)} (h : Sh.Dat w base 35 v n ps X) {j : Nat} {p : Nat × Nat × Nat} {x : List Int} (hp : ps[j]? = some p) (hx : X[j]? = some x) : (convert 35 9 (.slice (some ⟨p.1, p.2.1, none⟩) n p.2.2)).run Try.prog w = .ok (.string (strOfNums x)) w := run_convert_bytes_arg (P := Try.prog) w 35 5 Try.underlying35 Try.underlying5 p.1 p.2.1 n p.2.2 x (h.each j p x hp hx).1 (fun i hi => by
  have hl := (h.each j p x hp hx).1
  rw [List.getD_eq_getElem?_getD, List.getElem?_eq_getElem (by omega), Option.getD_some]
  exact (h.each j p x hp hx).2 i _ (List.getElem?_eq_getElem (by omega))) 9 Try.underlying9
set_option maxHeartbeats 2000000 in
theorem same_ok (K n : Nat) (va vb : Value) (ba bb : Nat) (pa pb : List (Nat × Nat × Nat)) (X : List (List Int)) (w : World) (hK : 1 ≤ K) (hK9 : K ≤ 10) (hda : Sh.Dat w ba 35 va n pa X) (hdb : Sh.Dat w bb 35 vb n pb X) (hpa : pa.length = K) (hpb : pb.length = K) :
    Calls Try.prog 17 #[va, vb] w fun e w' => e = .returned (.bool true) ∧ ∃ q, w' = w.drewN q := by
  have hra := hda.row
  rw [hpa] at hra
  obtain ⟨ga, capa, rfl, _, hga, hcapa, hcella⟩ := own_form hra hK
  have hrb := hdb.row
  rw [hpb] at hrb
  obtain ⟨gb, capb, rfl, _, hgb, hcapb, hcellb⟩ := own_form hrb hK
  have HA := hide (fun (wx : World) (hb : Below w.heap.size w wx) => hda.below hb)
  have HB := hide (fun (wx : World) (hb : Below w.heap.size w wx) => hdb.below hb)
  have HPA := hide hpa
  have HPB := hide hpb
  have HXL := hide (show X.length = K by rw [hda.lens, hpa])
  have HCA := hide hcella
  have HCB := hide hcellb
  clear hda hdb hpa hpb hra hrb hcella hcellb
  go_enter Try.func17, Try.ntmps17
  go_wp2
  go_loopw [5] (fun i wr => ∃ k : Nat, k ≤ K ∧ i = .int .i64 k ∧ ∃ q, wr = w.drewN q) (fun i _ => K - (intOf i).toNat)
  case atStart => exact ⟨0, Nat.zero_le _, rfl, 0, rfl⟩
  case round =>
    obtain ⟨k, hk, rfl, q, rfl⟩ := hrel
    by_cases hlk : k < K
    · obtain ⟨x, hx⟩ : ∃ x, X[k]? = some x := ⟨_, List.getElem?_eq_getElem (by rw [HXL.out]; exact hlk)⟩
      obtain ⟨p, hp⟩ : ∃ p, pa[k]? = some p := ⟨_, List.getElem?_eq_getElem (by rw [HPA.out]; exact hlk)⟩
      obtain ⟨r, hr⟩ : ∃ r, pb[k]? = some r := ⟨_, List.getElem?_eq_getElem (by rw [HPB.out]; exact hlk)⟩
      have z1 : w.cell? ⟨ga, k, none⟩ = some (.slice (some ⟨p.1, p.2.1, none⟩) n p.2.2) := HCA.out k _ (Sh.sv_get hp)
      have z2 : w.cell? ⟨gb, k, none⟩ = some (.slice (some ⟨r.1, r.2.1, none⟩) n r.2.2) := HCB.out k _ (Sh.sv_get hr)
      have c1 := fun m => dat_conv (HA.out (w.drewN m) (below_drewN w m)) hp hx
      have c2 := fun m => dat_conv (HB.out (w.drewN m) (below_drewN w m)) hr hx
      clear hx hp hr
      go_wp2
      go_quiet (fail)
      go_wp2
      go_roundw
      case rel => exact ⟨k + 1, by omega, by go_num, _, rfl⟩
      case measure => simp [intOf]; omega
    · have hkK : k = K := by omega
      subst hkK
      go_wp2
      go_ret
      exact ⟨rfl, q, rfl⟩
end Go.Proofs.Ytfnfnmonnfcpeaa
