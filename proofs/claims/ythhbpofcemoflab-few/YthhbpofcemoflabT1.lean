import Derived.Test.YthhbpofcemoflabGl
import Derived.Test.YthhbpofcemoflabPure12
import Derived.Test.YthhbpofcemoflabGk
namespace Go.Proofs.Ythhbpofcemoflab
open Go.RowKit
set_option maxRecDepth 20000
theorem own_dat {w : World} {base : Nat} {v : Value} {n : Nat} {ps : List (Nat × Nat × Nat)} {X : List (List Int)} (h : Sh.Own w base 33 5 v n ps X) : Sh.Dat w base 33 v n ps X := by
  have key : ∀ p ∈ ps, ∃ x : List Int, p.2.1 = 0 ∧ w.ownsRow base 5 1 (.slice (some ⟨p.1, 0, none⟩) n p.2.2) n (x.map (Value.int .u8)) := by
    intro p hp
    obtain ⟨j, hj⟩ := List.getElem?_of_mem hp
    obtain ⟨x, hx⟩ : ∃ x, X[j]? = some x := ⟨_, List.getElem?_eq_getElem (by rw [h.lens]; exact (List.getElem?_eq_some_iff.1 hj).1)⟩
    exact ⟨x, h.each j p x hj hx⟩
  refine ⟨h.row, h.lens, ?_, ?_, ?_⟩
  · intro p hp
    obtain ⟨x, _, hx⟩ := key p hp
    rcases hx.2 with ⟨hx, _⟩ | ⟨g, c, cur, hx, _, _, h1, h2, _⟩
    · cases hx
    · injection hx with _ _ hx
      subst hx
      exact ⟨h1, h2⟩
  · intro p hp
    obtain ⟨x, _, hx⟩ := key p hp
    exact (hx.lt p.1 rfl).2
  · intro j p x hp hx
    obtain ⟨h0, h1⟩ := h.each j p x hp hx
    refine ⟨by have := h1.1; simpa using this, fun i b hb => ?_⟩
    rw [h0, Nat.zero_add]
    exact own_cells h1 i _ (by simp [hb])
theorem own_ne_cb {w : World} {base cb : Nat} {v : Value} {n : Nat} {ps : List (Nat × Nat × Nat)} {X : List (List Int)} (h : Sh.Own w base 33 5 v n ps X) (hc : cb < base) : ∀ p ∈ ps, p.1 ≠ cb := by
  intro p hp e
  obtain ⟨j, hj⟩ := List.getElem?_of_mem hp
  obtain ⟨x, hx⟩ : ∃ x, X[j]? = some x := ⟨_, List.getElem?_eq_getElem (by rw [h.lens]; exact (List.getElem?_eq_some_iff.1 hj).1)⟩
  have := ((h.each j p x hj hx).2.lt p.1 rfl).1
  omega

theorem dat_conv {w : World} {base : Nat} {v : Value} {n : Nat} {ps : List (Nat × Nat × Nat)} {X : List (List Int)} (h : Sh.Dat w base 33 v n ps X) {j : Nat} {p : Nat × Nat × Nat} {x : List Int} (hp : ps[j]? = some p) (hx : X[j]? = some x) : (convert 33 9 (.slice (some ⟨p.1, p.2.1, none⟩) n p.2.2)).run Try.prog w = .ok (.string (strOfNums x)) w := run_convert_bytes_arg (P := Try.prog) w 33 5 Try.underlying33 Try.underlying5 p.1 p.2.1 n p.2.2 x (h.each j p x hp hx).1 (fun i hi => by
  have hl := (h.each j p x hp hx).1
  rw [List.getD_eq_getElem?_getD, List.getElem?_eq_getElem (by omega), Option.getD_some]
  exact (h.each j p x hp hx).2 i _ (List.getElem?_eq_getElem (by omega))) 9 Try.underlying9
set_option maxHeartbeats 2000000 in
theorem same_ok (K n : Nat) (va vb : Value) (ba bb : Nat) (pa pb : List (Nat × Nat × Nat)) (X : List (List Int)) (w : World) (hK : 1 ≤ K) (hK9 : K ≤ 10) (hda : Sh.Dat w ba 33 va n pa X) (hdb : Sh.Dat w bb 33 vb n pb X) (hpa : pa.length = K) (hpb : pb.length = K) :
    Calls Try.prog 33 #[va, vb] w fun e w' => e = .returned (.bool true) ∧ ∃ q, w' = w.drewN q := by
  have hra := hda.row
  rw [hpa] at hra
  obtain ⟨ga, capa, rfl, _, hga, hcapa, hcella⟩ := own_form hra hK
  have hrb := hdb.row
  rw [hpb] at hrb
  obtain ⟨gb, capb, rfl, _, hgb, hcapb, hcellb⟩ := own_form hrb hK
  have HA := hide (fun (wx : World) (hb : Below w.heap.size w wx) => hda.below hb)
  have HB := hide (fun (wx : World) (hb : Below w.heap.size w wx) => hdb.below hb)
  have HPA := hide hpa
  have HPB := hide hpb
  have HXL := hide (show X.length = K by rw [hda.lens, hpa])
  have HCA := hide hcella
  have HCB := hide hcellb
  clear hda hdb hpa hpb hra hrb hcella hcellb
  go_enter Try.func33, Try.ntmps33
  go_wp2
  go_loopw [5] (fun i wr => ∃ k : Nat, k ≤ K ∧ i = .int .i64 k ∧ ∃ q, wr = w.drewN q) (fun i _ => K - (intOf i).toNat)
  case atStart => exact ⟨0, Nat.zero_le _, rfl, 0, rfl⟩
  case round =>
    obtain ⟨k, hk, rfl, q, rfl⟩ := hrel
    by_cases hlk : k < K
    · obtain ⟨x, hx⟩ : ∃ x, X[k]? = some x := ⟨_, List.getElem?_eq_getElem (by rw [HXL.out]; exact hlk)⟩
      obtain ⟨p, hp⟩ : ∃ p, pa[k]? = some p := ⟨_, List.getElem?_eq_getElem (by rw [HPA.out]; exact hlk)⟩
      obtain ⟨r, hr⟩ : ∃ r, pb[k]? = some r := ⟨_, List.getElem?_eq_getElem (by rw [HPB.out]; exact hlk)⟩
      have z1 : w.cell? ⟨ga, k, none⟩ = some (.slice (some ⟨p.1, p.2.1, none⟩) n p.2.2) := HCA.out k _ (Sh.sv_get hp)
      have z2 : w.cell? ⟨gb, k, none⟩ = some (.slice (some ⟨r.1, r.2.1, none⟩) n r.2.2) := HCB.out k _ (Sh.sv_get hr)
      have c1 := fun m => dat_conv (HA.out (w.drewN m) (below_drewN w m)) hp hx
      have c2 := fun m => dat_conv (HB.out (w.drewN m) (below_drewN w m)) hr hx
      clear hx hp hr
      go_wp2
      go_quiet (fail)
      go_wp2
      go_roundw
      case rel => exact ⟨k + 1, by omega, by go_num, _, rfl⟩
      case measure => simp [intOf]; omega
    · have hkK : k = K := by omega
      subst hkK
      go_wp2
      go_ret
      exact ⟨rfl, q, rfl⟩
namespace Sh
theorem Dat.len_each {w : World} {base : Nat} {tS : TypeId} {v : Value} {n : Nat} {ps : List (Nat × Nat × Nat)} {X : List (List Int)} (h : Dat w base tS v n ps X) : ∀ x ∈ X, x.length = n := by
  intro x hx
  obtain ⟨j, hj⟩ := List.getElem?_of_mem hx
  obtain ⟨p, hp⟩ : ∃ p, ps[j]? = some p := ⟨_, List.getElem?_eq_getElem (by rw [← h.lens]; exact (List.getElem?_eq_some_iff.1 hj).1)⟩
  exact (h.each j p x hp hj).1
end Sh
/-- what a call that may write into the coder alone leaves as it was -/
structure Sh.Keep (w w' : World) (cb : Nat) : Prop where
  grown : w.grownBy w' (some cb)
  dat : ∀ (base : Nat) (v : Value) (n : Nat) (ps : List (Nat × Nat × Nat)) (X : List (List Int)), Sh.Dat w base 33 v n ps X → (∀ p ∈ ps, p.1 ≠ cb) → Sh.Dat w' base 33 v n ps X
theorem coded_st (cb : Nat) (kind : Int) (K M : Nat) (N gd lev scr : Int) (blk : Nat) (cac : Int) (size : Nat) (v : Value) (base : Nat) (ps : List (Nat × Nat × Nat)) (X : List (List Int)) (w : World) (h : Sh.Ok kind K M N gd) (hcac : 0 ≤ cac) (hc4 : cac ≤ 4) (hbk : 1 ≤ blk) (hbk' : blk ≤ 64)
    (hs1 : 1 ≤ size) (hs2 : size ≤ 48) (hc : Sh.CS w cb kind K M N gd lev scr blk cac) (hd : Sh.Dat w base 33 v (Sh.R kind N * size) ps X) (hpl : ps.length = K) (hne : ∀ p ∈ ps, p.1 ≠ cb) (bX : Sh.Bytes X) :
    Calls Try.prog 34 #[.pointer (some ⟨cb, 0, none⟩), .int .i64 M, v] w fun e w' => ∃ (v' : Value) (qs : List (Nat × Nat × Nat)), e = .returned (.tuple #[v', .bool true]) ∧ qs.length = M ∧
      Sh.Dat w' w.heap.size 33 v' (Sh.R kind N * size) qs (Sh.parB kind K M N gd size X) ∧ (∀ p ∈ qs, p.1 ≠ cb) ∧ Sh.Own w' w.heap.size 33 5 v' (Sh.R kind N * size) qs (Sh.parB kind K M N gd size X) ∧ Sh.CS w' cb kind K M N gd lev scr blk cac ∧ Sh.Keep w w' cb := by
  refine (coded_ok cb kind K M N gd lev scr blk cac size v base ps X w h hcac hc4 hbk hbk' hs1 hs2 hc hd hpl hne bX).mono ?_
  rintro e w' ⟨v', qs, rfl, hql, hown, hcs, hg⟩
  rw [Sh.par_eq h size X bX] at hown
  obtain ⟨c0, c1, c2, c3, c4, c5, hblk⟩ := Sh.CS.blk hc
  exact ⟨v', qs, rfl, hql, own_dat hown, own_ne_cb hown (blk_lt hblk), hown, hcs, hg, fun b v n ps X hd hne => hd.grown hg hblk (by decide) hne⟩

theorem Sh.Keep.low {b : Nat} {w w' : World} {cb : Nat} (h : Sh.Keep w w' cb) (hb : b ≤ cb) (hz : b ≤ w.heap.size) : Below b w w' := ⟨h.grown.os, h.grown.tape, h.grown.output, h.grown.size, fun i hi => h.grown.block i (by omega) (by intro e; injection e; omega)⟩
def Sh.szOf : Value → Nat
  | .string u => u.size
  | _ => 0
theorem addr_add (g j : Nat) : (⟨g, 0, none⟩ : Addr).add j = ⟨g, j, none⟩ := by
  unfold Addr.add
  split
  · next e => rw [e]
  · simp
namespace Sh
theorem Own.x_of {w : World} {base : Nat} {tS tB : TypeId} {v : Value} {n : Nat} {ps : List (Nat × Nat × Nat)} {X : List (List Int)} (h : Own w base tS tB v n ps X) {p : Nat × Nat × Nat} (hp : p ∈ ps) : ∃ x : List Int, w.ownsRow base tB 1 (.slice (some ⟨p.1, 0, none⟩) n p.2.2) n (x.map (Value.int .u8)) := by
  obtain ⟨j, hj⟩ := List.getElem?_of_mem hp
  obtain ⟨x, hx⟩ : ∃ x, X[j]? = some x := ⟨_, List.getElem?_eq_getElem (by rw [h.lens]; exact (List.getElem?_eq_some_iff.1 hj).1)⟩
  exact ⟨x, (h.each j p x hj hx).2⟩
theorem Own.ge {w : World} {base : Nat} {tS tB : TypeId} {v : Value} {n : Nat} {ps : List (Nat × Nat × Nat)} {X : List (List Int)} (h : Own w base tS tB v n ps X) : ∀ p ∈ ps, base ≤ p.1 ∧ p.1 < w.heap.size := by
  intro p hp
  obtain ⟨x, hx⟩ := h.x_of hp
  exact hx.lt p.1 rfl
/-- own shards, behind a call that writes into a block below them -/
theorem Own.grown {w w' : World} {base : Nat} {tS tB : TypeId} {v : Value} {n : Nat} {ps : List (Nat × Nat × Nat)} {X : List (List Int)} {cb : Nat} (h : Own w base tS tB v n ps X) (hg : w.grownBy w' (some cb)) (hcb : cb < base) : Own w' base tS tB v n ps X := by
  refine ⟨h.row.kept hg ?_, h.lens, fun j p x hp hx => ⟨(h.each j p x hp hx).1, (h.each j p x hp hx).2.kept hg ?_⟩, h.nodup⟩
  · cases hv : v.ownBlock with
    | none => exact Or.inl rfl
    | some q =>
      right
      intro e
      injection e with e
      have := (h.row.lt q hv).1
      omega
  · right
    intro e
    simp only [Value.ownBlock, Option.some.injEq] at e
    have := (h.ge p (List.mem_of_getElem? hp)).1
    omega
/-- behind 'w[i][k] = u' -/
theorem Own.set {w : World} {base : Nat} {tS tB : TypeId} {v : Value} {n : Nat} {ps : List (Nat × Nat × Nat)} {X : List (List Int)} (h : Own w base tS tB v n ps X) (ht : tB ≠ tS) {i k : Nat} {p : Nat × Nat × Nat} {x : List Int} (hp : ps[i]? = some p) (hx : X[i]? = some x) (u : Int) :
    Own (w.setCell ⟨p.1, k, none⟩ (.int .u8 u)) base tS tB v n ps (X.set i (x.set k u)) := by
  have hg : w.grownBy (w.setCell ⟨p.1, k, none⟩ (.int .u8 u)) (some p.1) := grown_set (grown_refl w _) _
  obtain ⟨hp0, hpo⟩ := h.each i p x hp hx
  refine ⟨h.row.kept hg (own_ne h.row hpo (Ne.symm ht)), by rw [List.length_set]; exact h.lens, ?_, h.nodup⟩
  intro j q y hq hy
  by_cases c : j = i
  · subst c
    rw [hp] at hq
    injection hq with hq
    subst hq
    rw [List.getElem?_set_self (by exact (List.getElem?_eq_some_iff.1 hx).1)] at hy
    injection hy with hy
    subst hy
    refine ⟨hp0, ?_⟩
    have hl := hpo.1
    rcases hpo.2 with ⟨hc, _⟩ | ⟨g, cap, cur, hv, hb, hgg, h1, h2, h3, h4⟩
    · cases hc
    · injection hv with hv1 hv2 hv3
      injection hv1 with hv1
      injection hv1 with hv1
      subst hv1
      refine ⟨by simpa using hl, Or.inr ⟨p.1, cap, cur.setIfInBounds k (.int .u8 u), by rw [hv3], hb, blk_set hgg, h1, h2, by rw [Array.size_setIfInBounds]; exact h3, ?_⟩⟩
      rw [Array.toList_setIfInBounds, List.map_set, ← h4, List.take_set]
  · rw [List.getElem?_set_ne (by omega)] at hy
    obtain ⟨e0, e1⟩ := h.each j q y hq hy
    refine ⟨e0, e1.kept hg (Or.inr ?_)⟩
    intro e
    simp only [Value.ownBlock, Option.some.injEq] at e
    have hji : j = i := by
      have hn := h.nodup
      have hj' : (ps.map (·.1))[j]? = some q.1 := by rw [List.getElem?_map, hq]; rfl
      have hi' : (ps.map (·.1))[i]? = some p.1 := by rw [List.getElem?_map, hp]; rfl
      rw [← e] at hi'
      exact (List.getElem?_inj (List.getElem?_eq_some_iff.1 hj').1 hn).1 (hj'.trans hi'.symm)
    exact c hji
end Sh

set_option maxHeartbeats 1000000 in
theorem word_ok (cb : Nat) (kind : Int) (K M : Nat) (N gd lev scr : Int) (blk : Nat) (cac : Int) (size : Nat) (v : Value) (base : Nat) (ps : List (Nat × Nat × Nat)) (X : List (List Int)) (w : World) (h : Sh.Ok kind K M N gd) (hcac : 0 ≤ cac) (hc4 : cac ≤ 4) (hbk : 1 ≤ blk) (hbk' : blk ≤ 64)
    (hs1 : 1 ≤ size) (hs2 : size ≤ 48) (hc : Sh.CS w cb kind K M N gd lev scr blk cac) (hd : Sh.Own w base 33 5 v (Sh.R kind N * size) ps X) (hpl : ps.length = K) (hcb : cb < base) (bX : Sh.Bytes X) :
    Calls Try.prog 30 #[.pointer (some ⟨cb, 0, none⟩), .int .i64 M, v] w fun e w' => ∃ (v' : Value) (qs : List (Nat × Nat × Nat)), e = .returned (.tuple #[v', .bool true]) ∧ qs.length = M ∧
      Sh.Own w' base 33 5 v' (Sh.R kind N * size) (ps ++ qs) (X ++ Sh.parB kind K M N gd size X) ∧ Sh.CS w' cb kind K M N gd lev scr blk cac ∧ w.grownBy w' (some cb) := by
  obtain ⟨hK, hM, h10, hR1, hR2, hKR, hMR, hPL⟩ := h.bounds
  obtain ⟨i0, hi, hz0, hz1, hz2⟩ := info_parts Try.infoSl
  have hbw : base ≤ w.heap.size := by
    obtain ⟨p, hp⟩ : ∃ p, ps[0]? = some p := ⟨_, List.getElem?_eq_getElem (by rw [hpl]; omega)⟩
    have := hd.ge p (List.mem_of_getElem? hp)
    omega
  have HC := hide (coded_st cb kind K M N gd lev scr blk cac size v base ps X w h hcac hc4 hbk hbk' hs1 hs2 hc (own_dat hd) hpl (own_ne_cb hd hcb) bX)
  have hrow := hd.row
  rw [hpl] at hrow
  obtain ⟨gD, capD, hvD, hgD0, hgD, hcD, hcellsD⟩ := own_form hrow hK
  subst hvD
  have HD := hide (fun (w' : World) (hg : w.grownBy w' (some cb)) => hd.grown hg hcb)
  have HGE := hide hd.ge
  have HND := hide hd.nodup
  have HLX := hide hd.lens
  have Hpl := hide hpl
  have Hnil := hide (fun (wx : World) => World.ownsRow_nil wx base 33 1)
  clear hc hd hrow hcellsD hpl bX h
  generalize hPX : Sh.parB kind K M N gd size X = PX at *
  generalize hn : Sh.R kind N * size = n at *
  clear hn hPX
  go_enter Try.func30, Try.ntmps30
  go_wp2_with fail
  refine HC.out.mono ?_
  rintro e w1 ⟨v1, qs, rfl, hql, hd1, hn1, hown1, hcs1, hk1⟩
  have hs1' := hk1.grown.size
  have hrow1 := hown1.row
  rw [hql] at hrow1
  obtain ⟨gP, capP, hvP, hgP0, hgP, hcP, hcellsP⟩ := own_form hrow1 hM
  subst hvP
  have hD1 := HD.out w1 hk1.grown
  have hrD1 := hD1.row
  rw [Hpl.out] at hrD1
  have HcD := hide (own_cells hrD1)
  have HcP := hide hcellsP
  have HO1 := hide hown1
  have HD1 := hide hD1
  have HCS1 := hide hcs1
  have Hql := hide hql
  have Hno := hide (fun (n' : Nat) (ps' : List (Nat × Nat × Nat)) => Sh.sv_one n' ps')
  have hsvp : (Sh.sv n ps).length = K * 1 := by rw [Sh.sv_len, Hpl.out, Nat.mul_one]
  have hsvq : (Sh.sv n qs).length = M * 1 := by rw [Sh.sv_len, Hql.out, Nat.mul_one]
  have Hp := hide hsvp
  have Hq := hide hsvq
  clear hd1 hn1 hown1 hcs1 hrow1 hcellsP hD1 hrD1 hql hsvp hsvq
  go_wp2_with (first
    | (at_builtin; refine appendX _ rfl (.tmp 18) (.tmp 19) 32 rfl base 33 i0 (.slice none 0 0) 1 24 Try.underlying32 hi hz0 hz1 hz2 rfl (by decide) _ _ _ rfl (Hnil.out _) ⟨gD, 0, none⟩ K capD (Sh.sv n ps) rfl Hp.out (fun j u hu => by rw [addr_add]; exact HcD.out j u hu) (Hno.out n ps) hK (by unfold maxLen; omega) (by omega) (by omega) ?_; intro v2 w2 hown2 hb2 hg2 hf2; have hs2 := hg2.size; have Hown2 := hide hown2; have Hg2 : Hid (w1.grownBy w2 none) := hg2; have Hf2 : Hid (∀ q, v2.ownBlock = some q → w1.heap.size ≤ q) := (fun q hq => (hf2 q hq).elim (fun h => by cases h) id); clear hown2 hg2 hf2 hb2)
    | (at_builtin; refine appendX _ rfl (.tmp 21) (.tmp 22) 32 rfl base 33 i0 (.slice none 0 0) 1 24 Try.underlying32 hi hz0 hz1 hz2 rfl (by decide) _ _ _ rfl Hown2.out ⟨gP, 0, none⟩ M capP (Sh.sv n qs) rfl Hq.out (fun j u hu => by rw [addr_add]; exact own_cells (own_mono (HO1.out.row.kept Hg2.out (Or.inr (by simp [Value.ownBlock]))) (Nat.le_refl _)) j u hu) (Hno.out n qs) hM (by unfold maxLen; omega) (by omega) (by omega) ?_; intro v3 w3 hown3 hb3 hg3 hf3; have Hg3 : Hid (w2.grownBy w3 v2.ownBlock) := hg3; clear hg3 hf3 hb3))
  go_ret2
  have hrow3 : w3.ownsRow base 33 1 v3 (ps ++ qs).length (Sh.sv n (ps ++ qs)) := by
    rw [List.length_append, Hpl.out, Hql.out, Sh.sv_append]
    simpa using hown3
  have h13 : Below w1.heap.size w1 w3 := by
    have a : Below w1.heap.size w1 w2 := ⟨Hg2.out.os, Hg2.out.tape, Hg2.out.output, Hg2.out.size, fun i hi => Hg2.out.block i hi (by simp)⟩
    have b : Below w1.heap.size w2 w3 := ⟨Hg3.out.os, Hg3.out.tape, Hg3.out.output, Hg3.out.size, fun i hi => Hg3.out.block i (by omega) (by intro e; have := Hf2.out i e.symm; omega)⟩
    exact a.trans b
  refine ⟨v3, qs, rfl, Hql.out, ⟨hrow3, by rw [List.length_append, List.length_append, HLX.out, HO1.out.lens], ?_, ?_⟩, Sh.CS.below HCS1.out h13, grown_below hk1.grown h13⟩
  · intro j p x hp hx
    have key : p.2.1 = 0 ∧ w1.ownsRow base 5 1 (.slice (some ⟨p.1, 0, none⟩) n p.2.2) n (x.map (Value.int .u8)) := by
      rw [List.getElem?_append] at hp hx
      rw [HLX.out] at hx
      by_cases c1 : j < ps.length
      · rw [if_pos c1] at hp hx
        exact HD1.out.each j p x hp hx
      · rw [if_neg c1] at hp hx
        have := HO1.out.each _ p x hp hx
        exact ⟨this.1, own_mono this.2 hbw⟩
    exact ⟨key.1, own_below key.2 h13⟩
  · rw [List.map_append, List.nodup_append]
    refine ⟨HND.out, HO1.out.nodup, ?_⟩
    intro a ha b hb
    simp only [List.mem_map] at ha hb
    obtain ⟨p, hp, rfl⟩ := ha
    obtain ⟨q, hq, rfl⟩ := hb
    have h1 := (HGE.out p hp).2
    have h2 := (HO1.out.ge q hq).1
    omega
end Go.Proofs.Ythhbpofcemoflab
