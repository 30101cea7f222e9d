import Derived.Test.YthhbpofcemoflabX3
namespace Go.Proofs.Ythhbpofcemoflab
open Go.RowKit
set_option maxRecDepth 20000
set_option maxHeartbeats 2000000 in
theorem runs_ok (G O Bz size : Nat) (ops : List (Int × Int × Int)) (s : ByteArray) (v : Value) (base : Nat) (gp : List (Nat × Nat × Nat)) (D : List (List Int)) (w : World)
    (hG : 1 ≤ G) (hG' : G ≤ 48) (hO1 : 1 ≤ O) (hO : O ≤ 40) (hs1 : 1 ≤ size) (hs2 : size ≤ 48) (hB : Bz ≤ 16) (hops : ∀ o ∈ ops, Sh.OpOk G (G + O + Bz) o) (hn1 : 1 ≤ ops.length) (hn : ops.length ≤ 2048) (hS : Sh.Snd G O Bz ops) (hs : s = strOfNums (Sh.txt G O Bz ops))
    (hg : w.ownsRow base 33 1 v G (Sh.sv size gp)) (hgl : gp.length = G) (hD : D.length = G) (hlt : ∀ p ∈ gp, p.1 < w.heap.size) (hDl : ∀ (r : Nat) (x : List Int), D[r]? = some x → x.length = size)
    (hby : ∀ (r : Nat) (p : Nat × Nat × Nat) (x : List Int), gp[r]? = some p → D[r]? = some x → ∀ (i : Nat) (b : Int), x[i]? = some b → w.cell? ⟨p.1, p.2.1 + i, none⟩ = some (.int .u8 b)) :
    Calls Try.prog 38 #[.string s, v] w fun e w' => ∃ (v' : Value) (bs : List Nat) (b0 : Nat), e = .returned (.tuple #[v', .int .i64 0]) ∧ w.heap.size ≤ b0 ∧ w'.ownsRow b0 33 1 v' O (bs.map fun b => Value.slice (some ⟨b, 0, none⟩) size size) ∧ bs.length = O ∧
        (∀ (j b : Nat), bs[j]? = some b → w'.heap[b]? = some (.cells ((Sh.regAt ops D G size size size 0 j).map (Value.int .u8)).toArray 5 (0, 0))) ∧ Below w.heap.size w w' := by
  have HRd := hide (read_ok G O Bz ops s w hG' hO hB hn1 hn hS hs)
  have HLn := hide (fun (wx : World) (hx : Below w.heap.size w wx) => lengthOf_ok v base G size gp wx hG (by omega) hgl (own_below hg hx))
  have HRun := hide (fun (wx : World) (hx : Below w.heap.size w wx) (go co bo : Nat) (ho : wx.ownsRow bo 98 3 (.slice (some ⟨go, 0, none⟩) ops.length co) ops.length (Sh.opCells ops)) => run_any G O Bz size 64 _ v bo base ops gp D wx hG hG' hO1 hO hB hs1 hs2 (by decide) (by decide) hops hn1 hn ho (own_below hg hx) hgl hD (fun p hp => Nat.lt_of_lt_of_le (hlt p hp) hx.size) hDl (fun r p x hp hxx i b hb => (hx.cell (p := ⟨p.1, p.2.1 + i, none⟩) (hlt p (List.mem_of_getElem? hp))).trans (hby r p x hp hxx i b hb)))
  obtain ⟨gv, cv, rfl, _, hgv, _, _⟩ := own_form hg hG
  have d48 : decide (48 < (size : Int)) = false := by simp; omega
  clear hops hS hs hg hgl hD hlt hDl hby
  generalize ops.length = L at *
  go_enter Try.func38, Try.ntmps38
  go_wp2_with fail
  refine HRd.out.mono ?_
  rintro e w1 ⟨go, co, rfl, hown1, hb1⟩
  have hs1w := hb1.size
  have hBa : Below w.heap.size w (w1.alloc (.cells #[.int .i64 G, .int .i64 O, .int .i64 (Bz : Int), .slice (some ⟨go, 0, none⟩) L co] 49)) := hb1.alloc hs1w _
  have HOw := hide hown1
  clear hown1
  go_wp2_with (first
    | (go_at_call 42; refine (HLn.out _ hBa).mono ?_; rintro e w2 ⟨rfl, rfl⟩)
    | (go_at_call 53; refine (HRun.out _ hBa go co _ (HOw.out.alloc _)).mono ?_; rintro e w3 ⟨v3, bs, rfl, ho3, hbl3, hnd3, hc3, hb3⟩))
  go_ret2
  exact ⟨v3, bs, _, rfl, by simp; omega, ho3, hbl3, fun j b hj => (hc3 j b hj).2, hBa.trans (hb3.mono (by simp; omega))⟩
end Go.Proofs.Ythhbpofcemoflab
