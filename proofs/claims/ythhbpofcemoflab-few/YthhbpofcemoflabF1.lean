import Derived.Test.YthhbpofcemoflabX2
import Derived.Test.YthhbpofcemoflabS7
import Derived.Test.YthhbpofcemoflabGq
import Derived.Test.YthhbpofcemoflabGd
import Derived.Test.YthhbpofcemoflabGk
namespace Go.Proofs.Ythhbpofcemoflab
open Go.RowKit
set_option maxRecDepth 20000
/-- the sums of a pattern -/
def Sh.sms (kind : Int) (K M : Nat) (N gd : Int) (q : Nat) : List Nat := if q = 0 then Sh.pn kind K M N gd else Sh.lost kind K M N gd q
theorem Sh.sms_fit {kind : Int} {K M : Nat} {N gd : Int} (h : Sh.Ok kind K M N gd) (q : Nat) (hlo1 : q ≠ 0 → 1 ≤ (Sh.lo q (K + M)).length) (hlo : (Sh.lo q (K + M)).length ≤ M) : Sh.Fit (K * Sh.R kind N) (Sh.sms kind K M N gd q) := by
  obtain ⟨hK, hM, h10, hR1, hR2, hKR, hMR, hPL⟩ := h.bounds
  unfold Sh.sms
  split
  · exact ⟨Nat.mul_pos hK hR1, hKR, Sh.pn_lt h, by rw [Sh.pn_len h]; exact Nat.mul_pos hM hR1, by rw [Sh.pn_len h]; exact hMR⟩
  · next hq =>
    exact ⟨Nat.mul_pos hK hR1, hKR, Sh.lost_lt kind K M N gd q, by rw [Sh.lost_len]; exact Nat.mul_pos (hlo1 hq) hR1, by rw [Sh.lost_len]; exact Nat.le_trans (Nat.mul_le_mul_right _ hlo) hMR⟩
theorem programOf_s (cb : Nat) (kind : Int) (K M : Nat) (N gd lev scr : Int) (q : Nat) (w : World) (h : Sh.Ok kind K M N gd) (hP : Sh.Pb kind K M N gd) (hq : q < 2 ^ 20) (hlo1 : q ≠ 0 → 1 ≤ (Sh.lo q (K + M)).length) (hlo : (Sh.lo q (K + M)).length ≤ M) (hcb : cb < w.heap.size)
    (c0 : w.cell? ⟨cb, 0, none⟩ = some (.int .i64 kind)) (c1 : w.cell? ⟨cb, 1, none⟩ = some (.int .i64 K)) (c2 : w.cell? ⟨cb, 2, none⟩ = some (.int .i64 M)) (c3 : w.cell? ⟨cb, 3, none⟩ = some (.int .i64 N)) (c4 : w.cell? ⟨cb, 4, none⟩ = some (.int .i64 gd)) (c5 : w.cell? ⟨cb, 5, none⟩ = some (.int .i64 lev)) (c6 : w.cell? ⟨cb, 6, none⟩ = some (.int .i64 scr)) :
    Calls Try.prog 57 #[.pointer (some ⟨cb, 0, none⟩), .int .i64 q] w fun e w' => ∃ vo, e = .returned (.agg #[.int .i64 ((K * Sh.R kind N : Nat) : Int), .int .i64 ((Sh.sms kind K M N gd q).length : Int), .int .i64 ((Sh.opt lev scr (K * Sh.R kind N) (Sh.sms kind K M N gd q)).1 : Int), vo]) ∧
      w'.ownsRow w.heap.size 98 3 vo (Sh.opt lev scr (K * Sh.R kind N) (Sh.sms kind K M N gd q)).2.length (Sh.opCells (Sh.opt lev scr (K * Sh.R kind N) (Sh.sms kind K M N gd q)).2) ∧ Below w.heap.size w w' := by
  have hf := Sh.sms_fit h q hlo1 hlo
  refine programOf_gen cb kind K M N gd lev scr q (Sh.sms kind K M N gd q) w h hcb c0 c1 c2 c3 c4 c5 c6 hf.l1 hf.l hf.lt ?_ ?_
  · intro h0 wx
    have e : Sh.sms kind K M N gd q = Sh.pn kind K M N gd := if_pos (by omega)
    rw [e]
    have := parity_ok kind K M N gd wx h
    rw [Sh.pn_nvl h] at this
    rw [Sh.pn_len h]
    exact this
  · intro h0 wx
    have e : Sh.sms kind K M N gd q = Sh.lost kind K M N gd q := if_neg (by omega)
    rw [e]
    exact lost_ok kind K M N gd q wx h hP hq hlo
set_option maxHeartbeats 2000000 in
theorem programF_ok (cb : Nat) (kind : Int) (K M : Nat) (N gd lev scr blk : Int) (q : Nat) (vl : Value) (w : World) (h : Sh.Ok kind K M N gd) (hP : Sh.Pb kind K M N gd) (hq : q < 2 ^ 20) (hlo1 : q ≠ 0 → 1 ≤ (Sh.lo q (K + M)).length) (hlo : (Sh.lo q (K + M)).length ≤ M)
    (hc : w.heap[cb]? = some (.cells (Sh.coder kind K M N gd lev scr blk 0 0 0 0 0 (.slice none 0 0) 0) 54 (0, 0)))
    (hpat : Calls Try.prog 47 #[.pointer (some ⟨cb, 0, none⟩), vl] w fun e w' => e = .returned (.tuple #[.int .i64 (q : Int), .int .i64 0]) ∧ Below w.heap.size w w') :
    Calls Try.prog 36 #[.pointer (some ⟨cb, 0, none⟩), vl] w fun e w' => e = .returned (.tuple #[.string (strOfNums (Sh.txt (K * Sh.R kind N) (Sh.sms kind K M N gd q).length (Sh.opt lev scr (K * Sh.R kind N) (Sh.sms kind K M N gd q)).1 (Sh.opt lev scr (K * Sh.R kind N) (Sh.sms kind K M N gd q)).2)), .int .i64 0]) ∧ Below w.heap.size w w' := by
  have hf := Sh.sms_fit h q hlo1 hlo
  have hgd := hf.good lev scr
  have hcb := blk_lt hc
  have hpp := hgd.pos
  have HW := hide (fun (wx : World) (hx : Below w.heap.size w wx) => want_none cb q kind K M N gd lev scr blk 0 _ _ _ (Sh.opt lev scr (K * Sh.R kind N) (Sh.sms kind K M N gd q)).2 wx (Int.le_refl _) hpp ((hx.block cb hcb).trans hc) (fun wy hy hby => programOf_s cb kind K M N gd lev scr q wy h hP hq hlo1 hlo hy (blk_cell ((hby.trans (hx.block cb hcb)).trans hc) rfl) (blk_cell ((hby.trans (hx.block cb hcb)).trans hc) rfl) (blk_cell ((hby.trans (hx.block cb hcb)).trans hc) rfl) (blk_cell ((hby.trans (hx.block cb hcb)).trans hc) rfl) (blk_cell ((hby.trans (hx.block cb hcb)).trans hc) rfl) (blk_cell ((hby.trans (hx.block cb hcb)).trans hc) rfl) (blk_cell ((hby.trans (hx.block cb hcb)).trans hc) rfl)))
  have HT := hide (fun (wx : World) (bo go co : Nat) (ho : wx.ownsRow bo 98 3 (.slice (some ⟨go, 0, none⟩) (Sh.opt lev scr (K * Sh.R kind N) (Sh.sms kind K M N gd q)).2.length co) (Sh.opt lev scr (K * Sh.R kind N) (Sh.sms kind K M N gd q)).2.length (Sh.opCells (Sh.opt lev scr (K * Sh.R kind N) (Sh.sms kind K M N gd q)).2)) => text_ok (K * Sh.R kind N) (Sh.sms kind K M N gd q).length (Sh.opt lev scr (K * Sh.R kind N) (Sh.sms kind K M N gd q)).1 (Sh.opt lev scr (K * Sh.R kind N) (Sh.sms kind K M N gd q)).2 bo go co wx hf.g hf.l hgd.hB hgd.pos hgd.len hgd.snd ho)
  have HPat := hide hpat
  have HPP := hide hpp
  clear h hP hc hpat hf hgd hpp
  generalize Sh.opt lev scr (K * Sh.R kind N) (Sh.sms kind K M N gd q) = op at *
  generalize K * Sh.R kind N = Gn at *
  generalize (Sh.sms kind K M N gd q).length = On at *
  generalize strOfNums (Sh.txt Gn On op.1 op.2) = st at *
  go_enter Try.func36, Try.ntmps36
  go_wp2_with fail
  refine HPat.out.mono ?_
  rintro e w1 ⟨rfl, hb1⟩
  go_wp2_with fail
  refine (HW.out _ hb1).mono ?_
  rintro e w2 ⟨v2, rfl, ho2, hb2⟩
  obtain ⟨go, co, rfl, _, _⟩ := own_form3 ho2 HPP.out
  have HT2 := hide (fun (o : Obj) => HT.out (w2.alloc o) _ go co (ho2.alloc o))
  have hB2 := hb1.trans (hb2.mono hb1.size)
  clear ho2
  go_wp2_with (go_at_call 51; refine (HT2.out _).mono ?_; rintro e w3 ⟨rfl, hb3⟩)
  go_ret2
  exact ⟨rfl, (hB2.alloc hB2.size _).trans (hb3.mono (by have := hB2.size; simp; omega))⟩
end Go.Proofs.Ythhbpofcemoflab
