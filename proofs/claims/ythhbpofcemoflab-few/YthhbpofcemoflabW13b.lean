import Derived.Test.YthhbpofcemoflabW13
import Derived.Test.YthhbpofcemoflabGb
namespace Go.Proofs.Ythhbpofcemoflab
open Go.RowKit
set_option maxRecDepth 20000
theorem do_rs {w W2 : World} {gr cp G size m : Nat} {tP tM : TypeId} {pv : Array Value} {gv : List Value} {bs : List Nat} {ops : List (Int × Int × Int)} {D : List (List Int)} {gp : List (Nat × Nat × Nat)} {s f k : Nat} {o : Int × Int × Int} {fI : Int}
    (h : Sh.RS w W2 gr cp G size tP tM 33 5 pv gv bs (Sh.xsAt ops D G size s f k m)) (hG : 1 ≤ G) (hs : size ≤ 48) (hsf : s ≤ f) (hf : f ≤ size) (hfI : fI = (f : Int))
    (hops : ∀ o ∈ ops, Sh.OpOk G (G + m) o) (ho : ops[k]? = some o)
    (hgv : (gp.map fun p => Value.slice (some ⟨p.1, p.2.1, none⟩) size p.2.2) = gv) (hgl : gp.length = G) (hD : D.length = G)
    (hlt : ∀ p ∈ gp, p.1 < w.heap.size) (hDl : ∀ (r : Nat) (x : List Int), D[r]? = some x → x.length = size)
    (hby : ∀ (r : Nat) (p : Nat × Nat × Nat) (x : List Int), gp[r]? = some p → D[r]? = some x → ∀ (i : Nat) (b : Int), x[i]? = some b → w.cell? ⟨p.1, p.2.1 + i, none⟩ = some (.int .u8 b)) :
    Calls Try.prog 64 #[.pointer (some ⟨w.heap.size + 1, 0, none⟩), .agg #[.int .i64 o.1, .int .i64 o.2.1, .int .i64 o.2.2], .int .i64 s, .int .i64 fI] W2
      fun e w' => e = .returned (.tuple #[]) ∧ Sh.RS w w' gr cp G size tP tM 33 5 pv gv bs (Sh.xsAt ops D G size s f (k + 1) m) := by
  subst hfI
  obtain ⟨hkd, t, fr, ht, hfr, hGt, htn, hfn, hne⟩ := hops o (List.mem_of_getElem? ho)
  obtain ⟨kd, ot, ofr⟩ := o
  simp only at hkd ht hfr
  subst ht
  subst hfr
  have hbl : bs.length = m := by rw [← h.lens, Sh.xsAt_len]
  have hj : t - G < bs.length := by omega
  have hgvl : gv.length = G := by rw [← hgv]; simpa using hgl
  have hb : bs[t - G]? = some bs[t - G] := List.getElem?_eq_getElem hj
  have hx := Sh.xsAt_get (ops := ops) (D := D) (G := G) (size := size) (s := s) (f := f) (k := k) (m := m) (j := t - G) (by omega)
  obtain ⟨hb1, hb2⟩ := h.outs _ _ _ hb hx
  have hrt : W2.cell? ⟨gr, t, none⟩ = some (.slice (some ⟨bs[t - G], 0, none⟩) size size) := h.reg hG t _ (by
    rw [List.getElem?_append_right (by omega), hgvl, List.getElem?_map, hb]; rfl)
  have hgr : gr < W2.heap.size := (h.regs.lt gr rfl).2
  by_cases c : fr < G
  · obtain ⟨p, hp⟩ : ∃ p, gp[fr]? = some p := ⟨_, List.getElem?_eq_getElem (by omega)⟩
    obtain ⟨xd, hd⟩ : ∃ x, D[fr]? = some x := ⟨_, List.getElem?_eq_getElem (by omega)⟩
    have hpl := hlt p (List.mem_of_getElem? hp)
    have hrf : W2.cell? ⟨gr, fr, none⟩ = some (.slice (some ⟨p.1, p.2.1, none⟩) size p.2.2) := h.reg hG fr _ (by
      rw [List.getElem?_append_left (by omega), ← hgv, List.getElem?_map, hp]; rfl)
    refine (do_any kd hkd t fr G (G + bs.length) cp gr (w.heap.size + 1) bs[t - G] p.1 p.2.1 p.2.2 size size s f _ xd W2 hGt (by omega) (by omega) hs hf hsf (blk_lt h.mbox) hgr (Nat.lt_of_lt_of_le hpl h.low.size) (by omega)
      (blk_cell h.mbox rfl) (blk_cell h.mbox rfl) hrt hrf (Sh.regAt_len _ _ _ _ _ _ _ _) (hDl fr _ hd) hb2 (fun i x hi => (h.low.cell (p := ⟨p.1, p.2.1 + i, none⟩) hpl).trans (hby fr _ _ hp hd i x hi))).mono ?_
    rintro e w' ⟨rfl, h1, h2⟩
    refine ⟨rfl, ?_⟩
    have h3 := h.did (by decide) _ _ _ _ hb hx h1 h2
    have e3 : Sh.srcAt ops D G size s f k fr = xd := by
      rw [Sh.srcAt, if_pos c, List.getD_eq_getElem?_getD, hd]; rfl
    rw [← e3, Sh.xsAt_set hops ho hGt] at h3
    exact h3
  · have hj' : fr - G < bs.length := by omega
    have hb' : bs[fr - G]? = some bs[fr - G] := List.getElem?_eq_getElem hj'
    have hx' := Sh.xsAt_get (ops := ops) (D := D) (G := G) (size := size) (s := s) (f := f) (k := k) (m := m) (j := fr - G) (by omega)
    obtain ⟨hb1', hb2'⟩ := h.outs _ _ _ hb' hx'
    have hrf : W2.cell? ⟨gr, fr, none⟩ = some (.slice (some ⟨bs[fr - G], 0, none⟩) size size) := h.reg hG fr _ (by
      rw [List.getElem?_append_right (by omega), hgvl, List.getElem?_map, hb']; rfl)
    have hbne : bs[fr - G] ≠ bs[t - G] := fun e => by
      have := (List.getElem_inj h.nodup).1 e
      omega
    refine (do_any kd hkd t fr G (G + bs.length) cp gr (w.heap.size + 1) bs[t - G] bs[fr - G] 0 size size size s f _ (Sh.regAt ops D G size s f k (fr - G)) W2 hGt (by omega) (by omega) hs hf hsf (blk_lt h.mbox) hgr (blk_lt hb2') hbne
      (blk_cell h.mbox rfl) (blk_cell h.mbox rfl) hrt hrf (Sh.regAt_len _ _ _ _ _ _ _ _) (Sh.regAt_len _ _ _ _ _ _ _ _) hb2 (fun i x hi => by rw [Nat.zero_add]; exact blk_cell hb2' (by simp [hi]))).mono ?_
    rintro e w' ⟨rfl, h1, h2⟩
    refine ⟨rfl, ?_⟩
    have h3 := h.did (by decide) _ _ _ _ hb hx h1 h2
    have e3 : Sh.srcAt ops D G size s f k fr = Sh.regAt ops D G size s f k (fr - G) := by
      rw [Sh.srcAt, if_neg c]
    rw [← e3, Sh.xsAt_set hops ho hGt] at h3
    exact h3

end Go.Proofs.Ythhbpofcemoflab
