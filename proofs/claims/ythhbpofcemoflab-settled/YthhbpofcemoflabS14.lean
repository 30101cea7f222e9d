import Derived.Test.YthhbpofcemoflabS13
namespace Go.Proofs.Ythhbpofcemoflab
open Go.RowKit
set_option maxRecDepth 20000
set_option maxHeartbeats 1000000 in
theorem word_dat (cb : Nat) (kind : Int) (K M : Nat) (N gd lev scr : Int) (blk : Nat) (cac : Int) (size : Nat) (v : Value) (base : Nat) (ps : List (Nat × Nat × Nat)) (X : List (List Int)) (w : World) (h : Sh.Ok kind K M N gd) (hcac : 0 ≤ cac) (hc4 : cac ≤ 4) (hbk : 1 ≤ blk) (hbk' : blk ≤ 64)
    (hs1 : 1 ≤ size) (hs2 : size ≤ 48) (hc : Sh.CS w cb kind K M N gd lev scr blk cac) (hd : Sh.Dat w base 33 v (Sh.R kind N * size) ps X) (hpl : ps.length = K) (hne : ∀ p ∈ ps, p.1 ≠ cb) (bX : Sh.Bytes X) :
    Calls Try.prog 30 #[.pointer (some ⟨cb, 0, none⟩), .int .i64 M, v] w fun e w' => ∃ (v' : Value) (qs : List (Nat × Nat × Nat)), e = .returned (.tuple #[v', .bool true]) ∧ qs.length = M ∧
      Sh.Dat w' w.heap.size 33 v' (Sh.R kind N * size) (ps ++ qs) (X ++ Sh.parB kind K M N gd size X) ∧ (∀ p ∈ ps ++ qs, p.1 ≠ cb ∧ ∀ g, v'.ownBlock = some g → p.1 < g) ∧ Sh.CS w' cb kind K M N gd lev scr blk cac ∧ w.grownBy w' (some cb) := by
  obtain ⟨hK, hM, h10, hR1, hR2, hKR, hMR, hPL⟩ := h.bounds
  obtain ⟨i0, hi, hz0, hz1, hz2⟩ := info_parts Try.infoSl
  have HC := hide (coded_st cb kind K M N gd lev scr blk cac size v base ps X w h hcac hc4 hbk hbk' hs1 hs2 hc hd hpl hne bX)
  have hrow := hd.row
  rw [hpl] at hrow
  obtain ⟨gD, capD, hvD, hgD0, hgD, hcD, hcellsD⟩ := own_form hrow hK
  subst hvD
  have HD := hide hd
  have HNE := hide hne
  have HLX := hide hd.lens
  have Hpl := hide hpl
  have Hnil := hide (fun (wx : World) => World.ownsRow_nil wx w.heap.size 33 1)
  clear hc hd hrow hcellsD hpl bX h hne
  generalize hPX : Sh.parB kind K M N gd size X = PX at *
  generalize hn : Sh.R kind N * size = n at *
  clear hn hPX
  go_enter Try.func30, Try.ntmps30
  go_wp2_with fail
  refine HC.out.mono ?_
  rintro e w1 ⟨v1, qs, rfl, hql, hd1, hn1, hown1, hcs1, hk1⟩
  have hs1' := hk1.grown.size
  have hrow1 := hown1.row
  rw [hql] at hrow1
  obtain ⟨gP, capP, hvP, hgP0, hgP, hcP, hcellsP⟩ := own_form hrow1 hM
  subst hvP
  have hD1 := hk1.dat _ _ _ _ _ HD.out HNE.out
  have hrD1 := hD1.row
  rw [Hpl.out] at hrD1
  have HcD := hide (own_cells hrD1)
  have HcP := hide hcellsP
  have HO1 := hide hown1
  have HD1 := hide hD1
  have Hd1 := hide hd1
  have Hn1 := hide hn1
  have HCS1 := hide hcs1
  have Hql := hide hql
  have Hno := hide (fun (n' : Nat) (ps' : List (Nat × Nat × Nat)) => Sh.sv_one n' ps')
  have hsvp : (Sh.sv n ps).length = K * 1 := by rw [Sh.sv_len, Hpl.out, Nat.mul_one]
  have hsvq : (Sh.sv n qs).length = M * 1 := by rw [Sh.sv_len, Hql.out, Nat.mul_one]
  have Hp := hide hsvp
  have Hq := hide hsvq
  clear hd1 hn1 hown1 hcs1 hrow1 hcellsP hD1 hrD1 hql hsvp hsvq
  go_wp2_with (first
    | (at_builtin; refine appendX _ rfl (.tmp 18) (.tmp 19) 32 rfl w.heap.size 33 i0 (.slice none 0 0) 1 24 Try.underlying32 hi hz0 hz1 hz2 rfl (by decide) _ _ _ rfl (Hnil.out _) ⟨gD, 0, none⟩ K capD (Sh.sv n ps) rfl Hp.out (fun j u hu => by rw [addr_add]; exact HcD.out j u hu) (Hno.out n ps) hK (by unfold maxLen; omega) (by omega) (by omega) ?_; intro v2 w2 hown2 hb2 hg2 hf2; have hs2 := hg2.size; have Hown2 := hide hown2; have Hg2 : Hid (w1.grownBy w2 none) := hg2; have Hf2 : Hid (∀ q, v2.ownBlock = some q → w1.heap.size ≤ q) := (fun q hq => (hf2 q hq).elim (fun h => by cases h) id); clear hown2 hg2 hf2 hb2)
    | (at_builtin; refine appendX _ rfl (.tmp 21) (.tmp 22) 32 rfl w.heap.size 33 i0 (.slice none 0 0) 1 24 Try.underlying32 hi hz0 hz1 hz2 rfl (by decide) _ _ _ rfl Hown2.out ⟨gP, 0, none⟩ M capP (Sh.sv n qs) rfl Hq.out (fun j u hu => by rw [addr_add]; exact own_cells (own_mono (HO1.out.row.kept Hg2.out (Or.inr (by simp [Value.ownBlock]))) (Nat.le_refl _)) j u hu) (Hno.out n qs) hM (by unfold maxLen; omega) (by omega) (by omega) ?_; intro v3 w3 hown3 hb3 hg3 hf3; have Hg3 : Hid (w2.grownBy w3 v2.ownBlock) := hg3; have Hf3 := hide hf3; clear hg3 hf3 hb3))
  go_ret2
  have hrow3 : w3.ownsRow w.heap.size 33 1 v3 (ps ++ qs).length (Sh.sv n (ps ++ qs)) := by
    rw [List.length_append, Hpl.out, Hql.out, Sh.sv_append]
    simpa using hown3
  have h13 : Below w1.heap.size w1 w3 := by
    have a : Below w1.heap.size w1 w2 := ⟨Hg2.out.os, Hg2.out.tape, Hg2.out.output, Hg2.out.size, fun i hi => Hg2.out.block i hi (by simp)⟩
    have b : Below w1.heap.size w2 w3 := ⟨Hg3.out.os, Hg3.out.tape, Hg3.out.output, Hg3.out.size, fun i hi => Hg3.out.block i (by omega) (by intro e; have := Hf2.out i e.symm; omega)⟩
    exact a.trans b
  refine ⟨v3, qs, rfl, Hql.out, Sh.Dat.mk' hrow3 (by rw [List.length_append, List.length_append, HLX.out, HO1.out.lens]) ?_, ?_, Sh.CS.below HCS1.out h13, grown_below hk1.grown h13⟩
  rotate_left
  · intro p hp
    have hpw : p.1 < w1.heap.size := by
      rw [List.mem_append] at hp
      rcases hp with hp | hp
      · exact HD1.out.lt p hp
      · exact Hd1.out.lt p hp
    refine ⟨?_, ?_⟩
    · rw [List.mem_append] at hp
      rcases hp with hp | hp
      · exact HNE.out p hp
      · exact Hn1.out p hp
    · intro g hg
      rcases Hf3.out g hg with h | h
      · have := Hf2.out g h
        omega
      · omega
  intro j p x hp hx
  rw [List.getElem?_append] at hp hx
  rw [HLX.out] at hx
  by_cases c1 : j < ps.length
  · rw [if_pos c1] at hp hx
    exact (Sh.One.of HD1.out hp hx).below h13
  · rw [if_neg c1] at hp hx
    exact (Sh.One.of Hd1.out hp hx).below h13
/-- the coder, behind a write into a list of shards -/
theorem Sh.CS.setRow {w : World} {cb : Nat} {kind : Int} {K M : Nat} {N gd lev scr blk cac : Int} (h : Sh.CS w cb kind K M N gd lev scr blk cac) {base b n m c k : Nat} {x : List Value} (hb : w.ownsRow base 33 1 (.slice (some ⟨b, 0, none⟩) m c) n x) (hne : b ≠ cb) (u : Value) : Sh.CS (w.setCell ⟨b, k, none⟩ u) cb kind K M N gd lev scr blk cac := by
  rcases h with h | ⟨go, co, h, ho⟩
  · exact Or.inl ((Below.heap_setCell _ _ _ _ (by simpa using Ne.symm hne)).trans h)
  · exact Or.inr ⟨go, co, (Below.heap_setCell _ _ _ _ (by simpa using Ne.symm hne)).trans h, ho.kept (grown_set (grown_refl w (some b)) u) (own_ne ho hb (by decide))⟩
theorem Sh.One.low {w w' : World} {n b : Nat} {p : Nat × Nat × Nat} {x : List Int} (h : Sh.One w n p x) (hb : Below b w w') (hp : p.1 < b) : Sh.One w' n p x :=
  ⟨h.caps, Nat.lt_of_lt_of_le h.lt hb.size, h.len, fun i c hi => (hb.cell (p := ⟨p.1, p.2.1 + i, none⟩) hp).trans (h.cells i c hi)⟩
end Go.Proofs.Ythhbpofcemoflab
