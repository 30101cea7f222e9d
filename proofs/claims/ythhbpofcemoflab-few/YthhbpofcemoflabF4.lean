import Derived.Test.YthhbpofcemoflabF1
import Derived.Test.YthhbpofcemoflabF2
namespace Go.Proofs.Ythhbpofcemoflab
open Go.RowKit
set_option maxRecDepth 20000
/-- what is lost, as a list in memory, and its pattern -/
structure Sh.Ls (w : World) (K M : Nat) (v : Value) (base : Nat) (l : List Nat) (q : Nat) : Prop where
  own : w.ownsRow base 3 1 v l.length (Sh.iv64 l)
  nil : l = [] → v = .slice none 0 0
  lt : ∀ i ∈ l, i < K + M
  len : l.length ≤ M
  pat : Sh.patE (K + M) M (l.map fun (i : Nat) => (i : Int)) = (q, 0)
  q20 : q < 2 ^ 20
  lo1 : q ≠ 0 → 1 ≤ (Sh.lo q (K + M)).length
  lo : (Sh.lo q (K + M)).length ≤ M
theorem Sh.Ls.below {w w' : World} {K M : Nat} {v : Value} {base : Nat} {l : List Nat} {q : Nat} (h : Sh.Ls w K M v base l q) (hb : Below w.heap.size w w') : Sh.Ls w' K M v base l q := ⟨own_below h.own hb, h.nil, h.lt, h.len, h.pat, h.q20, h.lo1, h.lo⟩
theorem program_ls (cb : Nat) (kind : Int) (K M : Nat) (N gd lev scr blk : Int) (q : Nat) (v : Value) (base : Nat) (l : List Nat) (w : World) (h : Sh.Ok kind K M N gd) (hP : Sh.Pb kind K M N gd) (hl : Sh.Ls w K M v base l q)
    (hc : w.heap[cb]? = some (.cells (Sh.coder kind K M N gd lev scr blk 0 0 0 0 0 (.slice none 0 0) 0) 54 (0, 0))) :
    Calls Try.prog 36 #[.pointer (some ⟨cb, 0, none⟩), v] w fun e w' => e = .returned (.tuple #[.string (strOfNums (Sh.txt (K * Sh.R kind N) (Sh.sms kind K M N gd q).length (Sh.opt lev scr (K * Sh.R kind N) (Sh.sms kind K M N gd q)).1 (Sh.opt lev scr (K * Sh.R kind N) (Sh.sms kind K M N gd q)).2)), .int .i64 0]) ∧ Below w.heap.size w w' :=
  programF_ok cb kind K M N gd lev scr blk q v w h hP hl.q20 hl.lo1 hl.lo hc (patternOf_any cb kind K M N gd v base l q w h (blk_lt hc) (blk_cell hc rfl) (blk_cell hc rfl) (blk_cell hc rfl) (blk_cell hc rfl) (blk_cell hc rfl) hl.own hl.nil hl.lt hl.len hl.pat)
set_option maxHeartbeats 2000000 in
theorem xorsK_ok (kind : Int) (K M : Nat) (N gd : Int) (lev : Int) (scr q : Nat) (v : Value) (base : Nat) (l : List Nat) (w : World) (h : Sh.Ok kind K M N gd) (hP : Sh.Pb kind K M N gd) (hl0 : 0 ≤ lev) (hl3 : lev ≤ 3) (hscr : scr ≤ 16) (hl : Sh.Ls w K M v base l q) :
    Calls Try.prog 39 #[.agg #[.int .i64 kind, .int .i64 K, .int .i64 M, .int .i64 N, .int .i64 gd], .int .i64 lev, .int .i64 scr, v] w fun e w' => e = .returned (.int .i64 (Sh.cnt lev scr (K * Sh.R kind N) (Sh.sms kind K M N gd q) : Int)) ∧ Below w.heap.size w w' := by
  have hf := Sh.sms_fit h q hl.lo1 hl.lo
  have hgd := hf.good lev scr
  have hbe := hf.besides lev hscr
  have hcl := hf.cnt_le lev scr
  have HN := hide (fun (wx : World) => new_ok kind K M N gd lev scr 8 0 wx h hl0 hl3 (by omega) (by omega) (by decide) (by decide) (by decide) (by decide))
  have HPr := hide (fun (cb : Nat) (wx : World) (hx : Below w.heap.size w wx) (hc : wx.heap[cb]? = some (.cells (Sh.coder kind K M N gd lev scr 8 0 0 0 0 0 (.slice none 0 0) 0) 54 (0, 0))) => program_ls cb kind K M N gd lev scr 8 q v base l wx h hP (hl.below hx) hc)
  have HCt := hide (fun (wx : World) => count_ok (K * Sh.R kind N) (Sh.sms kind K M N gd q).length (Sh.opt lev scr (K * Sh.R kind N) (Sh.sms kind K M N gd q)).1 (Sh.opt lev scr (K * Sh.R kind N) (Sh.sms kind K M N gd q)).2 _ wx hf.g hf.l hgd.hB hgd.pos hgd.len hgd.snd rfl)
  have HCn : Hid (Sh.cnt lev scr (K * Sh.R kind N) (Sh.sms kind K M N gd q) = Sh.xr (Sh.opt lev scr (K * Sh.R kind N) (Sh.sms kind K M N gd q)).2) := rfl
  rw [HCn.out] at hcl ⊢
  clear h hP hl hf hgd HCn
  generalize Sh.xr (Sh.opt lev scr (K * Sh.R kind N) (Sh.sms kind K M N gd q)).2 = X at *
  generalize strOfNums (Sh.txt (K * Sh.R kind N) (Sh.sms kind K M N gd q).length (Sh.opt lev scr (K * Sh.R kind N) (Sh.sms kind K M N gd q)).1 (Sh.opt lev scr (K * Sh.R kind N) (Sh.sms kind K M N gd q)).2) = st at *
  generalize (Sh.opt lev scr (K * Sh.R kind N) (Sh.sms kind K M N gd q)).1 = bz at *
  generalize K * Sh.R kind N = G at *
  generalize (Sh.sms kind K M N gd q).length = O at *
  have dbz : decide ((scr : Int) < (bz : Int)) = false := by simp; omega
  go_enter Try.func39, Try.ntmps39
  go_wp2_with fail
  refine (HN.out _).mono ?_
  rintro e w1 ⟨cb, rfl, hcb, hco, hb1⟩
  have hB1 : Below w.heap.size w w1 := ((Below.refl _ _).alloc (Nat.le_refl _) _).trans (hb1.mono (by simp))
  go_wp2_with fail
  refine (HPr.out _ _ hB1 hco).mono ?_
  rintro e w2 ⟨rfl, hb2⟩
  have hB2 := hB1.trans (hb2.mono hB1.size)
  go_wp2_with fail
  refine (HCt.out _).mono ?_
  rintro e w3 ⟨g, rfl, hg, hb3⟩
  have hB3 := hB2.trans (hb3.mono hB2.size)
  have k2 : w3.cell? ⟨g, 2, none⟩ = some (.int .i64 (bz : Int)) := blk_cell hg rfl
  have k3 : w3.cell? ⟨g, 3, none⟩ = some (.int .i64 (X : Int)) := blk_cell hg rfl
  clear hg hco
  go_wp2
  go_ret
  exact ⟨rfl, hB3⟩
end Go.Proofs.Ythhbpofcemoflab
