import Derived.Test.YthhbpofcemoflabX3
import Derived.Test.YthhbpofcemoflabGj
import Derived.Deep.RegionHeld3
namespace Go.Proofs.Ythhbpofcemoflab
open Go.RowKit
set_option maxRecDepth 20000
set_option maxHeartbeats 2000000 in
theorem count_ok (G O B : Nat) (ops : List (Int × Int × Int)) (s : ByteArray) (w : World) (hG : G ≤ 48) (hO : O ≤ 40) (hB : B ≤ 16) (hn1 : 1 ≤ ops.length) (hn : ops.length ≤ 2048) (hS : Sh.Snd G O B ops) (hs : s = strOfNums (Sh.txt G O B ops)) :
    Calls Try.prog 54 #[.string s] w fun e w' => ∃ g : Nat, e = .returned (.tuple #[.slice (some ⟨g, 0, none⟩) 4 4, .int .i64 0]) ∧ w'.heap[g]? = some (.cells #[.int .i64 G, .int .i64 O, .int .i64 B, .int .i64 (Sh.xr ops : Int)] 3 (0, 0)) ∧ Below w.heap.size w w' := by
  have HRd := hide (read_ok G O B ops s w hG hO hB hn1 hn hS hs)
  have HX := hide (fun (vo : Value) (base : Nat) (wx : World) (ho : wx.ownsRow base 98 3 vo ops.length (Sh.opCells ops)) => xorsP_ok G O B vo base ops wx hn1 hn ho)
  clear hS hs hn1 hn
  generalize ops.length = L at *
  generalize Sh.opCells ops = oc at *
  generalize Sh.xr ops = X at *
  go_enter Try.func54, Try.ntmps54
  go_wp2_with fail
  refine HRd.out.mono ?_
  rintro e w1 ⟨go, co, rfl, hown1, hb1⟩
  have hs1 := hb1.size
  have HOw := hide hown1
  clear hown1
  go_wp2
  go_region_held3 (fun w' => w'.cell? ⟨w1.heap.size, 0, none⟩ = some (.int .i64 G) ∧ w'.cell? ⟨w1.heap.size, 1, none⟩ = some (.int .i64 O) ∧ w'.cell? ⟨w1.heap.size, 2, none⟩ = some (.int .i64 B) ∧ w'.cell? ⟨w1.heap.size, 3, none⟩ = some (.slice (some ⟨go, 0, none⟩) L co)) (go_keep) ((go_at_call 65; refine (HX.out _ _ _ (own_below (HOw.out.alloc _) ((Below.refl _ _).drew))).mono ?_; rintro e w2 ⟨rfl, hb2⟩; have hblk2 := (hb2.block w1.heap.size (by simp)).trans (heap_alloc_new w1 _); have k0 := blk_cell (j := 0) hblk2 rfl; have k1 := blk_cell (j := 1) hblk2 rfl; have k2 := blk_cell (j := 2) hblk2 rfl; have k3 := blk_cell (j := 3) hblk2 rfl))
  go_wp2
  go_ret2
  have hB2 : Below w.heap.size w w2 := ((hb1.alloc hs1 _).drew).trans (hb2.mono (by simp; omega))
  exact ⟨_, rfl, heap_alloc_new w2 _, hB2.alloc hB2.size _⟩
end Go.Proofs.Ythhbpofcemoflab
