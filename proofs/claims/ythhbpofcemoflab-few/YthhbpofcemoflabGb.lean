import Derived.Test.YthhbpofcemoflabGa
import Derived.BigQuiet
import Derived.Deep.QuietTactic
import Derived.Deep.AppendLies
import Derived.Deep.OwnRows
namespace Go.Proofs.Ythhbpofcemoflab
open Go.RowKit
set_option maxRecDepth 20000
namespace Sh
def nv (kind x f : Int) : Int := if kind = 0 then 0 else if kind = 1 then f else bits .xor .u8 x f
def upd (kind : Int) (xs fs : List Int) (a b : Nat) : List Int := (List.range xs.length).map fun i => if a ≤ i ∧ i < b then nv kind (xs.getD i 0) (fs.getD i 0) else xs.getD i 0
theorem upd_len (kind : Int) (xs fs : List Int) (a b : Nat) : (upd kind xs fs a b).length = xs.length := by simp [upd]
theorem upd_self (kind : Int) (xs fs : List Int) (a : Nat) : upd kind xs fs a a = xs := by
  apply List.ext_getElem
  · simp [upd]
  · intro i h1 h2
    simp only [upd, List.getElem_map, List.getElem_range]
    rw [if_neg (by omega), List.getD_eq_getElem?_getD, List.getElem?_eq_getElem h2]
    rfl
theorem upd_at {kind : Int} {xs fs : List Int} {a k : Nat} {x : Int} (hx : xs[k]? = some x) : (upd kind xs fs a k)[k]? = some x := by
  have hk : k < xs.length := (List.getElem?_eq_some_iff.1 hx).1
  simp only [upd, List.getElem?_map, List.getElem?_range hk, Option.map_some]
  rw [if_neg (by omega), List.getD_eq_getElem?_getD, hx]
  rfl
theorem upd_step {kind : Int} {xs fs : List Int} {a k : Nat} {x f : Int} (ha : a ≤ k) (hx : xs[k]? = some x) (hf : fs[k]? = some f) :
    (((upd kind xs fs a k).map (Value.int .u8)).toArray.setIfInBounds k (.int .u8 (nv kind x f))) = ((upd kind xs fs a (k + 1)).map (Value.int .u8)).toArray := by
  have hk : k < xs.length := (List.getElem?_eq_some_iff.1 hx).1
  apply Array.ext
  · simp [upd]
  · intro i h1 h2
    have hi : i < xs.length := by simpa [upd] using h2
    rw [Array.getElem_setIfInBounds]
    · by_cases e : k = i
      · subst e
        simp only [if_true, upd, List.getElem_toArray, List.getElem_map, List.getElem_range]
        rw [if_pos (by omega), List.getD_eq_getElem?_getD, List.getD_eq_getElem?_getD, hx, hf]
        rfl
      · rw [if_neg e]
        simp only [upd, List.getElem_toArray, List.getElem_map, List.getElem_range]
        by_cases c : a ≤ i ∧ i < k
        · rw [if_pos c, if_pos (by omega)]
        · rw [if_neg c, if_neg (by omega)]
    · simpa [upd] using hi
end Sh
theorem grown_drewN {w wr : World} {r : Option Nat} (h : w.grownBy wr r) (n : Nat) : w.grownBy (wr.drewN n) r := ⟨h.os, h.tape, h.output, h.size, h.block⟩
theorem grown_refl (w : World) (r : Option Nat) : w.grownBy w r := ⟨rfl, rfl, rfl, Nat.le_refl _, fun _ _ _ => rfl⟩
theorem grown_set {w wr : World} {b j : Nat} (h : w.grownBy wr (some b)) (u : Value) : w.grownBy (wr.setCell ⟨b, j, none⟩ u) (some b) :=
  ⟨h.os, h.tape, h.output, by simpa [World.setCell] using h.size, fun k hk hne => (Below.heap_setCell _ _ _ _ (by simpa using hne)).trans (h.block k hk hne)⟩
theorem grown_trans {a b c : World} {r : Option Nat} (h : a.grownBy b r) (k : b.grownBy c r) : a.grownBy c r :=
  ⟨k.os.trans h.os, k.tape.trans h.tape, k.output.trans h.output, Nat.le_trans h.size k.size, fun i hi hne => (k.block i (Nat.lt_of_lt_of_le hi h.size) hne).trans (h.block i hi hne)⟩
theorem grown_cell {w wr : World} {b : Nat} (h : w.grownBy wr (some b)) {c j : Nat} (hc : c < w.heap.size) (hne : c ≠ b) : wr.cell? ⟨c, j, none⟩ = w.cell? ⟨c, j, none⟩ :=
  World.cell?_of_block (w := w) (h.block c hc (by simpa using hne))
end Go.Proofs.Ythhbpofcemoflab
namespace Go.Proofs.Ythhbpofcemoflab
open Go.RowKit
set_option maxRecDepth 20000
theorem heap_new2 (w : World) (o1 o2 : Obj) : ((w.alloc o1).alloc o2).heap[w.heap.size + 1]? = some o2 := by
  have h := heap_alloc_new (w.alloc o1) o2
  rwa [World.size_alloc] at h
theorem heap_new1 (w : World) (o1 o2 : Obj) : ((w.alloc o1).alloc o2).heap[w.heap.size]? = some o1 := (Below.heap_alloc _ _ _ (by simp)).trans (heap_alloc_new w _)
theorem made_zero (n : Nat) : madeCells #[.int .u8 0] n = ((List.replicate n (0 : Int)).map (Value.int .u8)).toArray := by
  apply Array.ext'
  rw [toList_madeCells_one]
  simp
theorem own_cells {w : World} {base : Nat} {e : TypeId} {size g n cap m : Nat} {xs : List Value} (h : w.ownsRow base e size (.slice (some ⟨g, 0, none⟩) n cap) m xs) (j : Nat) (u : Value) (hu : xs[j]? = some u) : w.cell? ⟨g, j, none⟩ = some u := by
  have h1 := h.cells (g := g) rfl j u hu
  have hadd : (⟨g, 0, none⟩ : Addr).add j = ⟨g, j, none⟩ := by unfold Addr.add; split <;> simp_all
  rwa [hadd] at h1
theorem hide {p : Prop} (h : p) : Hid p := h
namespace Sh
def stepE (o : Int × Int × Int) (env : Nat → Int) : Nat → Int := fun r => if r = o.2.1.toNat then nv o.1 (env o.2.1.toNat) (env o.2.2.toNat) else env r
def ev (ops : List (Int × Int × Int)) (env : Nat → Int) : Nat → Int := ops.foldl (fun e o => stepE o e) env
theorem ev_snoc (ops : List (Int × Int × Int)) (k : Nat) (o : Int × Int × Int) (h : ops[k]? = some o) (env : Nat → Int) : ev (ops.take (k + 1)) env = stepE o (ev (ops.take k) env) := by
  have hk := (List.getElem?_eq_some_iff.1 h)
  rw [List.take_succ_eq_append_getElem hk.1, hk.2]
  simp [ev, List.foldl_append]
def OpOk (G n : Nat) (o : Int × Int × Int) : Prop := (o.1 = 0 ∨ o.1 = 1 ∨ o.1 = 2) ∧ ∃ t f : Nat, o.2.1 = t ∧ o.2.2 = f ∧ G ≤ t ∧ t < n ∧ f < n ∧ f ≠ t
theorem ev_given {G n : Nat} (ops : List (Int × Int × Int)) (h : ∀ o ∈ ops, OpOk G n o) (env : Nat → Int) (r : Nat) (hr : r < G) : ev ops env r = env r := by
  induction ops generalizing env with
  | nil => rfl
  | cons o ops ih =>
    show ev ops (stepE o env) r = env r
    rw [ih (fun x hx => h x (by simp [hx]))]
    obtain ⟨_, t, f, ht, _, hG, _⟩ := h o (by simp)
    simp only [stepE, ht, Int.toNat_natCast]
    rw [if_neg (by omega)]
/-- the registers' values at place i as they are given -/
def env0 (D : List (List Int)) (i : Nat) : Nat → Int := fun r => (D.getD r []).getD i 0
def regAt (ops : List (Int × Int × Int)) (D : List (List Int)) (G size s f k j : Nat) : List Int := (List.range size).map fun i => if i < s then ev ops (env0 D i) (G + j) else if i < f then ev (ops.take k) (env0 D i) (G + j) else 0
theorem regAt_len (ops : List (Int × Int × Int)) (D : List (List Int)) (G size s f k j : Nat) : (regAt ops D G size s f k j).length = size := by simp [regAt]
def xsAt (ops : List (Int × Int × Int)) (D : List (List Int)) (G size s f k m : Nat) : List (List Int) := (List.range m).map (regAt ops D G size s f k)
theorem xsAt_get {ops : List (Int × Int × Int)} {D : List (List Int)} {G size s f k m j : Nat} (h : j < m) : (xsAt ops D G size s f k m)[j]? = some (regAt ops D G size s f k j) := by
  simp [xsAt, List.getElem?_range h]
theorem env0_out {D : List (List Int)} {G : Nat} (hD : D.length = G) (i r : Nat) (hr : G ≤ r) : env0 D i r = 0 := by
  have e : D.getD r [] = [] := by rw [List.getD_eq_getElem?_getD, List.getElem?_eq_none (by omega)]; rfl
  simp only [env0]
  rw [e]
  rfl
theorem regAt_start {ops : List (Int × Int × Int)} {D : List (List Int)} {G size f j : Nat} (hD : D.length = G) : regAt ops D G size 0 f 0 j = List.replicate size 0 := by
  apply List.ext_getElem
  · simp [regAt]
  · intro i h1 h2
    simp only [regAt, List.getElem_map, List.getElem_range, List.getElem_replicate]
    rw [if_neg (by omega)]
    split
    · exact env0_out hD i _ (by omega)
    · rfl
theorem regAt_next {ops : List (Int × Int × Int)} {D : List (List Int)} {G size s f f' j : Nat} (hD : D.length = G) (hs : s ≤ f) : regAt ops D G size s f ops.length j = regAt ops D G size f f' 0 j := by
  apply List.ext_getElem
  · simp [regAt]
  · intro i h1 h2
    simp only [regAt, List.getElem_map, List.getElem_range, List.take_length]
    by_cases c1 : i < s
    · rw [if_pos c1, if_pos (by omega)]
    · rw [if_neg c1]
      by_cases c2 : i < f
      · rw [if_pos c2, if_pos c2]
      · rw [if_neg c2, if_neg c2]
        split
        · exact (env0_out hD i _ (by omega)).symm
        · rfl
theorem xsAt_next {ops : List (Int × Int × Int)} {D : List (List Int)} {G size s f f' m : Nat} (hD : D.length = G) (hs : s ≤ f) : xsAt ops D G size s f ops.length m = xsAt ops D G size f f' 0 m := by
  simp only [xsAt]
  apply List.map_congr_left
  intro j _
  exact regAt_next hD hs
/-- what register r holds, as a list -/
def srcAt (ops : List (Int × Int × Int)) (D : List (List Int)) (G size s f k r : Nat) : List Int := if r < G then D.getD r [] else regAt ops D G size s f k (r - G)
theorem regAt_get {ops : List (Int × Int × Int)} {D : List (List Int)} {G size s f k j i : Nat} (h : i < size) : (regAt ops D G size s f k j).getD i 0 = if i < s then ev ops (env0 D i) (G + j) else if i < f then ev (ops.take k) (env0 D i) (G + j) else 0 := by
  rw [List.getD_eq_getElem?_getD]
  simp [regAt, List.getElem?_range h]
theorem upd_reg {ops : List (Int × Int × Int)} {D : List (List Int)} {G n size s f k t fr : Nat} {kd : Int} (hops : ∀ o ∈ ops, OpOk G n o) (ho : ops[k]? = some (kd, (t : Int), (fr : Int))) (hG : G ≤ t) :
    upd kd (regAt ops D G size s f k (t - G)) (srcAt ops D G size s f k fr) s f = regAt ops D G size s f (k + 1) (t - G) := by
  apply List.ext_getElem
  · simp [upd, regAt]
  · intro i h1 h2
    have hi : i < size := by simpa [regAt] using h2
    simp only [upd, List.getElem_map, List.getElem_range]
    rw [regAt_get hi]
    have e2 : (regAt ops D G size s f (k + 1) (t - G))[i] = (regAt ops D G size s f (k + 1) (t - G)).getD i 0 := by
      rw [List.getD_eq_getElem?_getD, List.getElem?_eq_getElem h2]; rfl
    rw [e2, regAt_get hi]
    by_cases c1 : i < s
    · rw [if_neg (by omega), if_pos c1, if_pos c1]
    · rw [if_neg c1, if_neg c1]
      by_cases c2 : i < f
      · rw [if_pos c2, if_pos c2, if_pos ⟨by omega, c2⟩, ev_snoc ops k _ ho]
        simp only [stepE, Int.toNat_natCast]
        rw [show G + (t - G) = t by omega, if_pos rfl]
        congr 1
        unfold srcAt
        by_cases c3 : fr < G
        · rw [if_pos c3, ev_given (G := G) (n := n) _ (fun o ho => hops o (List.mem_of_mem_take ho)) _ _ c3]
          rfl
        · rw [if_neg c3, regAt_get hi, if_neg c1, if_pos c2, show G + (fr - G) = fr by omega]
      · rw [if_neg c2, if_neg c2, if_neg (by omega)]
theorem other_reg {ops : List (Int × Int × Int)} {D : List (List Int)} {G size s f k t fr j : Nat} {kd : Int} (ho : ops[k]? = some (kd, (t : Int), (fr : Int))) (hj : G + j ≠ t) :
    regAt ops D G size s f (k + 1) j = regAt ops D G size s f k j := by
  simp only [regAt]
  apply List.map_congr_left
  intro i _
  rw [ev_snoc ops k _ ho]
  simp only [stepE, Int.toNat_natCast]
  rw [if_neg hj]
theorem xsAt_set {ops : List (Int × Int × Int)} {D : List (List Int)} {G n size s f k m t fr : Nat} {kd : Int} (hops : ∀ o ∈ ops, OpOk G n o) (ho : ops[k]? = some (kd, (t : Int), (fr : Int))) (hG : G ≤ t) :
    (xsAt ops D G size s f k m).set (t - G) (upd kd (regAt ops D G size s f k (t - G)) (srcAt ops D G size s f k fr) s f) = xsAt ops D G size s f (k + 1) m := by
  rw [upd_reg hops ho hG]
  apply List.ext_getElem
  · simp [xsAt]
  · intro j h1 h2
    rw [List.getElem_set]
    simp only [xsAt, List.getElem_map, List.getElem_range]
    split
    · next e => rw [e]
    · next e => exact (other_reg ho (by omega)).symm
end Sh
/-- the run's state: the machine, its registers, what those that it made hold -/
structure Sh.RS (w wr : World) (gr cap G size : Nat) (tP tM tS tB : TypeId) (pv : Array Value) (gv : List Value) (bs : List Nat) (xs : List (List Int)) : Prop where
  pbox : wr.heap[w.heap.size]? = some (.cells pv tP (0, 0))
  mbox : wr.heap[w.heap.size + 1]? = some (.cells #[.int .i64 G, .slice (some ⟨gr, 0, none⟩) (G + bs.length) cap] tM (0, 0))
  regs : wr.ownsRow (w.heap.size + 2) tS 1 (.slice (some ⟨gr, 0, none⟩) (G + bs.length) cap) (G + bs.length) (gv ++ bs.map (fun b => Value.slice (some ⟨b, 0, none⟩) size size))
  outs : ∀ (j b : Nat) (x : List Int), bs[j]? = some b → xs[j]? = some x → w.heap.size + 2 ≤ b ∧ wr.heap[b]? = some (.cells (x.map (Value.int .u8)).toArray tB (0, 0))
  lens : xs.length = bs.length
  nodup : bs.Nodup
  low : Below w.heap.size w wr
theorem Sh.RS.gr_ne {w wr : World} {gr cap G size : Nat} {tP tM tS tB : TypeId} {pv : Array Value} {gv : List Value} {bs : List Nat} {xs : List (List Int)} (h : Sh.RS w wr gr cap G size tP tM tS tB pv gv bs xs) (ht : tS ≠ tB) (j b : Nat) (x : List Int) (hb : bs[j]? = some b) (hx : xs[j]? = some x) : b ≠ gr := by
  intro e
  obtain ⟨_, h1⟩ := h.outs j b x hb hx
  rcases h.regs.2 with ⟨h2, _⟩ | ⟨g, c, cur, h2, _, h3, _⟩
  · cases h2
  · injection h2 with h4 _ _
    injection h4 with h4
    injection h4 with h4 _ _
    subst h4
    subst e
    rw [h1] at h3
    injection h3 with h3
    injection h3 with _ h3 _
    exact ht h3.symm
/-- behind 'do' -/
theorem Sh.RS.did {w wr w' : World} {gr cap G size : Nat} {tP tM tS tB : TypeId} {pv : Array Value} {gv : List Value} {bs : List Nat} {xs : List (List Int)} (h : Sh.RS w wr gr cap G size tP tM tS tB pv gv bs xs) (ht : tS ≠ tB)
    (j b : Nat) (x0 x : List Int) (hb : bs[j]? = some b) (hx : xs[j]? = some x0) (hn : w'.heap[b]? = some (.cells (x.map (Value.int .u8)).toArray tB (0, 0))) (hg : wr.grownBy w' (some b)) :
    Sh.RS w w' gr cap G size tP tM tS tB pv gv bs (xs.set j x) := by
  have hbb := (h.outs j b x0 hb hx).1
  have hne := h.gr_ne ht j b x0 hb hx
  refine ⟨?_, ?_, ?_, ?_, by simpa using h.lens, h.nodup, ?_⟩
  · exact (hg.block _ (blk_lt h.pbox) (by simp; omega)).trans h.pbox
  · exact (hg.block _ (blk_lt h.mbox) (by simp; omega)).trans h.mbox
  · exact h.regs.kept hg (Or.inr (by simp [Value.ownBlock]; omega))
  · intro j' b' x' hb' hx'
    rw [List.getElem?_set] at hx'
    by_cases e : j = j'
    · subst e
      rw [hb] at hb'
      injection hb' with hb'
      subst hb'
      rw [if_pos rfl] at hx'
      split at hx'
      · injection hx' with hx'
        subst hx'
        exact ⟨hbb, hn⟩
      · cases hx'
    · rw [if_neg e] at hx'
      obtain ⟨h1, h2⟩ := h.outs j' b' x' hb' hx'
      have hbne : b' ≠ b := by
        intro e2
        subst e2
        have l1 := (List.getElem?_eq_some_iff.1 hb)
        have l2 := (List.getElem?_eq_some_iff.1 hb')
        exact e ((List.getElem_inj h.nodup).1 (l1.2.trans l2.2.symm))
      exact ⟨h1, (hg.block b' (blk_lt h2) (by simpa using hbne)).trans h2⟩
  · refine h.low.trans ⟨hg.os, hg.tape, hg.output, hg.size, fun k hk => hg.block k (Nat.lt_of_lt_of_le hk h.low.size) ?_⟩
    intro e
    injection e with e
    omega
/-- behind 'm.registers = append(m.registers, make([]byte, size))' -/
theorem Sh.RS.made {w wr w' : World} {gr cap G size g' cap' : Nat} {tP tM tS tB : TypeId} {pv : Array Value} {gv : List Value} {bs : List Nat} {xs : List (List Int)} (h : Sh.RS w wr gr cap G size tP tM tS tB pv gv bs xs) (ht : tS ≠ tB)
    (o : Obj) (hown : w'.ownsRow (w.heap.size + 2) tS 1 (.slice (some ⟨g', 0, none⟩) (G + bs.length + 1) cap') (G + bs.length + 1) (gv ++ bs.map (fun b => Value.slice (some ⟨b, 0, none⟩) size size) ++ [.slice (some ⟨wr.heap.size, 0, none⟩) size size]))
    (hg : ((wr.alloc (.cells ((List.replicate size (0 : Int)).map (Value.int .u8)).toArray tB)).alloc o).grownBy w' (some gr)) (hgr : gr < wr.heap.size) :
    Sh.RS w (w'.setCell ⟨w.heap.size + 1, 1, none⟩ (.slice (some ⟨g', 0, none⟩) (G + bs.length + 1) cap')) g' cap' G size tP tM tS tB pv gv (bs ++ [wr.heap.size]) (xs ++ [List.replicate size 0]) := by
  have hgr2 : w.heap.size + 2 ≤ gr := (h.regs.lt gr rfl).1
  have hblk : ∀ k, k < wr.heap.size → k ≠ gr → w'.heap[k]? = wr.heap[k]? := fun k hk hne => (hg.block k (by simp; omega) (by simpa using hne)).trans ((Below.heap_alloc _ _ _ (by simp; omega)).trans (Below.heap_alloc _ _ _ hk))
  have hnew : w'.heap[wr.heap.size]? = some (.cells ((List.replicate size (0 : Int)).map (Value.int .u8)).toArray tB (0, 0)) :=
    (hg.block wr.heap.size (by simp; omega) (by simp; omega)).trans ((Below.heap_alloc _ _ _ (by simp)).trans (heap_alloc_new wr _))
  have hset : ∀ k, k ≠ w.heap.size + 1 → (w'.setCell ⟨w.heap.size + 1, 1, none⟩ (.slice (some ⟨g', 0, none⟩) (G + bs.length + 1) cap')).heap[k]? = w'.heap[k]? := fun k hk => Below.heap_setCell _ _ _ _ hk
  have hmlt := blk_lt h.mbox
  refine ⟨?_, ?_, ?_, ?_, by simp [h.lens], ?_, ?_⟩
  · rw [hset _ (by omega), hblk _ (by omega) (by omega)]; exact h.pbox
  · have := blk_set (j := 1) (u := .slice (some ⟨g', 0, none⟩) (G + bs.length + 1) cap') ((hblk _ (blk_lt h.mbox) (by omega)).trans h.mbox)
    simpa [Nat.add_assoc] using this
  · have := ownsRow_setCell_below hown (a := ⟨w.heap.size + 1, 1, none⟩) (by simp) (.slice (some ⟨g', 0, none⟩) (G + bs.length + 1) cap')
    simpa [List.map_append, List.append_assoc, Nat.add_assoc] using this
  · intro j b x hb hx
    rw [List.getElem?_append] at hb hx
    rw [h.lens] at hx
    by_cases c : j < bs.length
    · rw [if_pos c] at hb hx
      obtain ⟨h1, h2⟩ := h.outs j b x hb hx
      have hne : b ≠ gr := by
        intro e
        rcases h.regs.2 with ⟨h3, _⟩ | ⟨g, c, cur, h3, _, h4, _⟩
        · cases h3
        · injection h3 with h5 _ _
          injection h5 with h5
          injection h5 with h5 _ _
          subst h5
          subst e
          rw [h2] at h4
          injection h4 with h4
          injection h4 with _ h4 _
          exact ht h4.symm
      exact ⟨h1, by rw [hset _ (by omega), hblk _ (blk_lt h2) hne]; exact h2⟩
    · rw [if_neg c] at hb hx
      have hj : j - bs.length = 0 := by
        have := (List.getElem?_eq_some_iff.1 hb).1
        simp at this
        omega
      rw [hj] at hb hx
      simp at hb hx
      subst hb
      subst hx
      have := h.low.size
      exact ⟨by omega, by rw [hset _ (by omega)]; simpa using hnew⟩
  · rw [List.nodup_append]
    refine ⟨h.nodup, by simp, ?_⟩
    intro a ha b hb
    simp at hb
    subst hb
    obtain ⟨j, hj⟩ := List.getElem?_of_mem ha
    have hjl := (List.getElem?_eq_some_iff.1 hj).1
    have hjx : j < xs.length := by rw [h.lens]; exact hjl
    obtain ⟨_, h2⟩ := h.outs j a xs[j] hj (List.getElem?_eq_getElem hjx)
    have := blk_lt h2
    omega
  · refine (h.low.trans ⟨hg.os, hg.tape, hg.output, by have := hg.size; simp at this; omega, fun k hk => ?_⟩).setCell (by simp) _
    exact hblk k (Nat.lt_of_lt_of_le hk h.low.size) (by omega)
theorem Sh.RS.alloc {w wr : World} {gr cap G size : Nat} {tP tM tS tB : TypeId} {pv : Array Value} {gv : List Value} {bs : List Nat} {xs : List (List Int)} (h : Sh.RS w wr gr cap G size tP tM tS tB pv gv bs xs) (o : Obj) : Sh.RS w (wr.alloc o) gr cap G size tP tM tS tB pv gv bs xs :=
  ⟨(Below.heap_alloc _ _ _ (blk_lt h.pbox)).trans h.pbox, (Below.heap_alloc _ _ _ (blk_lt h.mbox)).trans h.mbox, h.regs.alloc o, fun j b x hb hx => ⟨(h.outs j b x hb hx).1, (Below.heap_alloc _ _ _ (blk_lt (h.outs j b x hb hx).2)).trans (h.outs j b x hb hx).2⟩, h.lens, h.nodup, h.low.alloc h.low.size o⟩
theorem Sh.RS.reg {w wr : World} {gr cap G size : Nat} {tP tM tS tB : TypeId} {pv : Array Value} {gv : List Value} {bs : List Nat} {xs : List (List Int)} (h : Sh.RS w wr gr cap G size tP tM tS tB pv gv bs xs) (hG : 1 ≤ G) (r : Nat) (u : Value) (hu : (gv ++ bs.map (fun b => Value.slice (some ⟨b, 0, none⟩) size size))[r]? = some u) : wr.cell? ⟨gr, r, none⟩ = some u := by
  obtain ⟨g, c, hv, _, _, _, hc⟩ := own_form h.regs (by omega)
  injection hv with h1 _ _
  injection h1 with h1
  injection h1 with h1 _ _
  subst h1
  exact hc r u hu
namespace Sh
theorem opCells_get {ops : List (Int × Int × Int)} {k : Nat} {o : Int × Int × Int} (h : ops[k]? = some o) : (opCells ops)[k * 3]? = some (.int .i64 o.1) ∧ (opCells ops)[k * 3 + 1]? = some (.int .i64 o.2.1) ∧ (opCells ops)[k * 3 + 2]? = some (.int .i64 o.2.2) := by
  induction ops generalizing k with
  | nil => simp at h
  | cons a ops ih =>
    cases k with
    | zero =>
      simp at h
      subst h
      simp [opCells]
    | succ k =>
      simp at h
      have := ih h
      have e : opCells (a :: ops) = [.int .i64 a.1, .int .i64 a.2.1, .int .i64 a.2.2] ++ opCells ops := by simp [opCells]
      rw [e, show (k + 1) * 3 = 3 + k * 3 by omega, show 3 + k * 3 + 1 = 3 + (k * 3 + 1) by omega, show 3 + k * 3 + 2 = 3 + (k * 3 + 2) by omega]
      refine ⟨?_, ?_, ?_⟩
      · rw [List.getElem?_append_right (by simp)]; simpa using this.1
      · rw [List.getElem?_append_right (by simp)]; simpa using this.2.1
      · rw [List.getElem?_append_right (by simp)]; simpa using this.2.2
theorem xsAt_any {ops : List (Int × Int × Int)} {D : List (List Int)} {G size s f f' m : Nat} (hD : D.length = G) : xsAt ops D G size s f 0 m = xsAt ops D G size s f' 0 m := by
  simp only [xsAt]
  apply List.map_congr_left
  intro j _
  simp only [regAt]
  apply List.map_congr_left
  intro i _
  have e : ev (List.take 0 ops) (env0 D i) (G + j) = 0 := env0_out hD i _ (by omega)
  rw [e]
  split
  · rfl
  · split <;> split <;> rfl
theorem xsAt_start {ops : List (Int × Int × Int)} {D : List (List Int)} {G size f m : Nat} (hD : D.length = G) : List.replicate m (List.replicate size 0) = xsAt ops D G size 0 f 0 m := by
  apply List.ext_getElem
  · simp [xsAt]
  · intro j h1 h2
    simp only [xsAt, List.getElem_map, List.getElem_range, List.getElem_replicate]
    exact (regAt_start hD).symm
theorem xsAt_len (ops : List (Int × Int × Int)) (D : List (List Int)) (G size s f k m : Nat) : (xsAt ops D G size s f k m).length = m := by simp [xsAt]
end Sh
end Go.Proofs.Ythhbpofcemoflab
namespace Go.Proofs.Ythhbpofcemoflab
open Go.RowKit
set_option maxRecDepth 20000
namespace Sh
/-- the values of shards: block, offset, capacity; length n -/
def sv (n : Nat) (ps : List (Nat × Nat × Nat)) : List Value := ps.map fun p => Value.slice (some ⟨p.1, p.2.1, none⟩) n p.2.2
theorem sv_len (n : Nat) (ps : List (Nat × Nat × Nat)) : (sv n ps).length = ps.length := by simp [sv]
theorem sv_append (n : Nat) (a b : List (Nat × Nat × Nat)) : sv n (a ++ b) = sv n a ++ sv n b := by simp [sv]
theorem sv_one (n : Nat) (ps : List (Nat × Nat × Nat)) : ∀ u ∈ sv n ps, u.oneCell' = true := by
  intro u hu
  simp only [sv, List.mem_map] at hu
  obtain ⟨x, _, rfl⟩ := hu
  rfl
theorem sv_get {n : Nat} {ps : List (Nat × Nat × Nat)} {j : Nat} {p : Nat × Nat × Nat} (h : ps[j]? = some p) : (sv n ps)[j]? = some (Value.slice (some ⟨p.1, p.2.1, none⟩) n p.2.2) := by
  simp [sv, h]
def cutOne (size r : Nat) (p : Nat × Nat × Nat) : List (Nat × Nat × Nat) := (List.range r).map fun q => (p.1, p.2.1 + q * size, p.2.2 - q * size)
theorem cutOne_succ (size r : Nat) (p : Nat × Nat × Nat) : cutOne size (r + 1) p = cutOne size r p ++ [(p.1, p.2.1 + r * size, p.2.2 - r * size)] := by simp [cutOne, List.range_succ]
theorem cutOne_len (size r : Nat) (p : Nat × Nat × Nat) : (cutOne size r p).length = r := by simp [cutOne]
def cutAll (size R : Nat) (ps : List (Nat × Nat × Nat)) : List (Nat × Nat × Nat) := ps.flatMap (cutOne size R)
theorem cutAll_snoc (size R : Nat) (ps : List (Nat × Nat × Nat)) (p : Nat × Nat × Nat) : cutAll size R (ps ++ [p]) = cutAll size R ps ++ cutOne size R p := by simp [cutAll]
theorem cutAll_len (size R : Nat) (ps : List (Nat × Nat × Nat)) : (cutAll size R ps).length = ps.length * R := by
  induction ps with
  | nil => simp [cutAll]
  | cons p ps ih => simp only [cutAll, List.flatMap_cons, List.length_append, cutOne_len, List.length_cons] at *; rw [ih, Nat.add_mul]; omega
def shB (X : List (List Int)) (R k r : Nat) : List Int := (List.range r).flatMap fun q => X.getD (k * R + q) []
theorem shB_succ (X : List (List Int)) (R k r : Nat) : shB X R k (r + 1) = shB X R k r ++ X.getD (k * R + r) [] := by simp [shB, List.range_succ]
theorem shB_len {X : List (List Int)} {R k r size m : Nat} (hX : ∀ (j : Nat) (x : List Int), X[j]? = some x → x.length = size) (hl : X.length = m * R) (hk : k < m) (hr : r ≤ R) : (shB X R k r).length = r * size := by
  induction r with
  | zero => simp [shB]
  | succ r ih =>
    rw [shB_succ, List.length_append, ih (by omega)]
    have hlt : k * R + r < X.length := by
      have : (k + 1) * R ≤ m * R := Nat.mul_le_mul_right _ hk
      rw [Nat.add_mul, Nat.one_mul] at this
      omega
    rw [List.getD_eq_getElem?_getD, List.getElem?_eq_getElem hlt, Option.getD_some, hX _ _ (List.getElem?_eq_getElem hlt), Nat.add_mul, Nat.one_mul]
/-- shards of one's own: the list, and each of its shards -/
structure Own (w : World) (base : Nat) (tS tB : TypeId) (v : Value) (n : Nat) (ps : List (Nat × Nat × Nat)) (X : List (List Int)) : Prop where
  row : w.ownsRow base tS 1 v ps.length (sv n ps)
  lens : X.length = ps.length
  each : ∀ (j : Nat) (p : Nat × Nat × Nat) (x : List Int), ps[j]? = some p → X[j]? = some x → p.2.1 = 0 ∧ w.ownsRow base tB 1 (.slice (some ⟨p.1, 0, none⟩) n p.2.2) n (x.map (Value.int .u8))
  nodup : (ps.map (·.1)).Nodup
end Sh
theorem Sh.Own.below {w w' : World} {base : Nat} {tS tB : TypeId} {v : Value} {n : Nat} {ps : List (Nat × Nat × Nat)} {X : List (List Int)} (h : Sh.Own w base tS tB v n ps X) (hb : Below w.heap.size w w') : Sh.Own w' base tS tB v n ps X :=
  ⟨own_below h.row hb, h.lens, fun j p x hp hx => ⟨(h.each j p x hp hx).1, own_below (h.each j p x hp hx).2 hb⟩, h.nodup⟩
/-- behind 'shards = append(shards, shard)' -/
theorem Sh.Own.push {w w' : World} {base : Nat} {tS tB : TypeId} {v v' : Value} {n g c : Nat} {ps : List (Nat × Nat × Nat)} {X : List (List Int)} {x : List Int} (h : Sh.Own w base tS tB v n ps X) (ht : tB ≠ tS) (B0 : Nat)
    (hx : w.ownsRow base tB 1 (.slice (some ⟨g, 0, none⟩) n c) n (x.map (Value.int .u8))) (hB : ∀ p ∈ ps, p.1 < B0) (hg : B0 ≤ g)
    (hrow : w'.ownsRow base tS 1 v' (ps.length + 1) (Sh.sv n ps ++ [.slice (some ⟨g, 0, none⟩) n c])) (hgr : w.grownBy w' v.ownBlock) :
    Sh.Own w' base tS tB v' n (ps ++ [(g, 0, c)]) (X ++ [x]) := by
  refine ⟨?_, by simp [h.lens], ?_, ?_⟩
  · rw [Sh.sv_append, List.length_append]; exact hrow
  · intro j p y hp hy
    rw [List.getElem?_append] at hp hy
    rw [h.lens] at hy
    by_cases c1 : j < ps.length
    · rw [if_pos c1] at hp hy
      obtain ⟨h1, h2⟩ := h.each j p y hp hy
      exact ⟨h1, h2.kept hgr (own_ne h2 h.row ht)⟩
    · rw [if_neg c1] at hp hy
      have hj : j - ps.length = 0 := by
        have := (List.getElem?_eq_some_iff.1 hp).1
        simp at this
        omega
      rw [hj] at hp hy
      simp at hp hy
      subst hp
      subst hy
      exact ⟨rfl, hx.kept hgr (own_ne hx h.row ht)⟩
  · rw [List.map_append, List.nodup_append]
    refine ⟨h.nodup, by simp, ?_⟩
    intro a ha b hb
    simp at hb
    subst hb
    simp only [List.mem_map] at ha
    obtain ⟨p, hp, rfl⟩ := ha
    have := hB p hp
    omega
end Go.Proofs.Ythhbpofcemoflab
namespace Go.Proofs.Ythhbpofcemoflab
open Go.RowKit
set_option maxRecDepth 20000
namespace Sh
theorem plK_12 (sum : Int) (k : Nat) : plK sum k = 1 ∨ plK sum k = 2 := by
  induction k with
  | zero => exact Or.inl rfl
  | succ k ih =>
    simp only [plK]
    split
    · exact Or.inr rfl
    · exact ih
theorem plO_ok (sum : Int) (given n t : Nat) (hgt : given ≤ t) (ht : t < n) (k : Nat) (hk : k ≤ given) : ∀ o ∈ plO sum t k, OpOk given n o := by
  induction k with
  | zero => intro o ho; simp [plO] at ho
  | succ k ih =>
    intro o ho
    simp only [plO] at ho
    split at ho
    · rw [List.mem_append] at ho
      rcases ho with ho | ho
      · exact ih (by omega) o ho
      · simp at ho
        subst ho
        refine ⟨?_, t, k, rfl, rfl, hgt, ht, by omega, by omega⟩
        exact Or.inr (plK_12 sum k)
    · exact ih (by omega) o ho
theorem plA_ok (given : Nat) (sums : List Int) (hg : 1 ≤ given) (i : Nat) (hi : i ≤ sums.length) : ∀ o ∈ plA given sums i, OpOk given (given + sums.length) o := by
  induction i with
  | zero => intro o ho; simp [plA] at ho
  | succ i ih =>
    intro o ho
    simp only [plA, List.mem_append, plRow] at ho
    have e : (given : Int) + (i : Int) = ((given + i : Nat) : Int) := by omega
    rcases ho with ho | ho | ho
    · exact ih (by omega) o ho
    · rw [e] at ho
      exact plO_ok _ given (given + sums.length) (given + i) (by omega) (by omega) given (Nat.le_refl _) o ho
    · split at ho
      · simp at ho
        subst ho
        exact ⟨Or.inl rfl, given + i, 0, e, rfl, by omega, by omega, by omega, by omega⟩
      · simp at ho
theorem plain_ok (given : Nat) (sums : List Int) (hg : 1 ≤ given) : ∀ o ∈ plain given sums, OpOk given (given + sums.length) o := plA_ok given sums hg _ (Nat.le_refl _)
theorem plO_pos (sum t : Int) (k : Nat) (h : plK sum k ≠ 1) : 1 ≤ (plO sum t k).length := by
  induction k with
  | zero => exact absurd rfl h
  | succ k ih =>
    simp only [plK] at h
    simp only [plO]
    split
    · simp
    · next c => rw [if_neg c] at h; exact ih h
theorem plain_pos (given : Nat) (sums : List Int) (h : 1 ≤ sums.length) : 1 ≤ (plain given sums).length := by
  unfold plain
  obtain ⟨n, hn⟩ : ∃ n, sums.length = n + 1 := ⟨sums.length - 1, by omega⟩
  rw [hn]
  simp only [plA, plRow, List.length_append]
  by_cases c : plK (sums.getD n 0) given = 1
  · have : (plK (sums.getD n 0) given == 1) = true := beq_iff_eq.2 c
    rw [if_pos this]
    simp
    omega
  · have := plO_pos (sums.getD n 0) ((given : Int) + n) given c
    omega
theorem tpar_len (kind : Int) (n1 K m : Nat) (hm : m = if kind = 3 then 3 else 2) : (tpar kind n1 K).length = m * n1 := by
  unfold tpar
  by_cases c : kind = 3
  · rw [if_pos c] at hm ⊢
    subst hm
    simp [acr_len, diags_len]
    omega
  · rw [if_neg c] at hm ⊢
    subst hm
    simp [acr_len, diags_len]
    omega
end Sh
theorem grown_set_new {w wr : World} {r : Option Nat} {b j : Nat} (h : w.grownBy wr r) (hb : w.heap.size ≤ b) (u : Value) : w.grownBy (wr.setCell ⟨b, j, none⟩ u) r :=
  ⟨h.os, h.tape, h.output, by simpa [World.setCell] using h.size, fun k hk hne => (Below.heap_setCell _ _ _ _ (by simp; omega)).trans (h.block k hk hne)⟩
theorem grown_alloc {w wr : World} {r : Option Nat} (h : w.grownBy wr r) (o : Obj) : w.grownBy (wr.alloc o) r :=
  ⟨h.os, h.tape, h.output, by have := h.size; simp; omega, fun k hk hne => (Below.heap_alloc _ _ _ (Nat.lt_of_lt_of_le hk h.size)).trans (h.block k hk hne)⟩
theorem grown_below {w w1 w2 : World} {r : Option Nat} (h : w.grownBy w1 r) (hb : Below w1.heap.size w1 w2) : w.grownBy w2 r :=
  ⟨hb.os.trans h.os, hb.tape.trans h.tape, hb.output.trans h.output, Nat.le_trans h.size hb.size, fun k hk hne => (hb.block k (Nat.lt_of_lt_of_le hk h.size)).trans (h.block k hk hne)⟩
theorem grown_of {w w' : World} (h : Below w.heap.size w w') (r : Option Nat) : w.grownBy w' r := ⟨h.os, h.tape, h.output, h.size, fun k hk _ => h.block k hk⟩
end Go.Proofs.Ythhbpofcemoflab
namespace Go.Proofs.Ythhbpofcemoflab
open Go.RowKit
set_option maxRecDepth 20000
namespace Sh
theorem zipflat {α β γ δ : Type} (f : α → List γ) (g : β → List δ) (P : γ → δ → Prop) (ps : List α) (X : List β) (hl : ps.length = X.length)
    (h : ∀ (j : Nat) (p : α) (x : β), ps[j]? = some p → X[j]? = some x → (f p).length = (g x).length ∧ ∀ (r : Nat) (a : γ) (b : δ), (f p)[r]? = some a → (g x)[r]? = some b → P a b) :
    ∀ (r : Nat) (a : γ) (b : δ), (ps.flatMap f)[r]? = some a → (X.flatMap g)[r]? = some b → P a b := by
  induction ps generalizing X with
  | nil => intro r a b ha; simp at ha
  | cons p ps ih =>
    cases X with
    | nil => simp at hl
    | cons x X =>
      intro r a b ha hb
      obtain ⟨h1, h2⟩ := h 0 p x rfl rfl
      rw [List.flatMap_cons, List.getElem?_append] at ha hb
      by_cases c : r < (f p).length
      · rw [if_pos c] at ha
        rw [if_pos (by omega)] at hb
        exact h2 r a b ha hb
      · rw [if_neg c] at ha
        rw [if_neg (by omega), ← h1] at hb
        refine ih X (by simpa using hl) (fun j p' x' hp hx => h (j + 1) p' x' (by simpa using hp) (by simpa using hx)) _ a b ha hb
/-- the rows of the data -/
def rowsD (R size : Nat) (X : List (List Int)) : List (List Int) := X.flatMap fun x => (List.range R).map fun q => (x.drop (q * size)).take size
theorem rowsD_len (R size : Nat) (X : List (List Int)) : (rowsD R size X).length = X.length * R := by
  induction X with
  | nil => simp [rowsD]
  | cons x X ih => simp only [rowsD, List.flatMap_cons, List.length_append, List.length_map, List.length_range, List.length_cons] at *; rw [ih, Nat.add_mul]; omega
theorem rowsD_each {R size : Nat} {X : List (List Int)} (hX : ∀ (j : Nat) (x : List Int), X[j]? = some x → x.length = R * size) : ∀ (r : Nat) (y : List Int), (rowsD R size X)[r]? = some y → y.length = size := by
  intro r y hy
  have hm := List.mem_of_getElem? hy
  simp only [rowsD, List.mem_flatMap, List.mem_map, List.mem_range] at hm
  obtain ⟨x, hx, q, hq, rfl⟩ := hm
  obtain ⟨j, hj⟩ := List.getElem?_of_mem hx
  have hl := hX j x hj
  have : (q + 1) * size ≤ R * size := Nat.mul_le_mul_right _ hq
  rw [Nat.add_mul, Nat.one_mul] at this
  simp only [List.length_take, List.length_drop]
  omega
/-- shards that are read -/
structure Dat (w : World) (base : Nat) (tS : TypeId) (v : Value) (n : Nat) (ps : List (Nat × Nat × Nat)) (X : List (List Int)) : Prop where
  row : w.ownsRow base tS 1 v ps.length (sv n ps)
  lens : X.length = ps.length
  caps : ∀ p ∈ ps, n ≤ p.2.2 ∧ p.2.2 ≤ maxLen
  lt : ∀ p ∈ ps, p.1 < w.heap.size
  each : ∀ (j : Nat) (p : Nat × Nat × Nat) (x : List Int), ps[j]? = some p → X[j]? = some x → x.length = n ∧ ∀ (i : Nat) (b : Int), x[i]? = some b → w.cell? ⟨p.1, p.2.1 + i, none⟩ = some (.int .u8 b)
theorem Dat.grown {w w' : World} {base cb : Nat} {tS tC : TypeId} {v : Value} {n : Nat} {ps : List (Nat × Nat × Nat)} {X : List (List Int)} {C : Array Value} (h : Dat w base tS v n ps X) (hg : w.grownBy w' (some cb)) (hC : w.heap[cb]? = some (.cells C tC (0, 0))) (ht : tS ≠ tC) (hne : ∀ p ∈ ps, p.1 ≠ cb) : Dat w' base tS v n ps X := by
  refine ⟨h.row.kept hg ?_, h.lens, h.caps, fun p hp => Nat.lt_of_lt_of_le (h.lt p hp) hg.size, fun j p x hp hx => ⟨(h.each j p x hp hx).1, fun i b hb => ?_⟩⟩
  · rcases h.row.2 with ⟨rfl, _⟩ | ⟨g, cap, cur, rfl, _, hgg, _⟩
    · exact Or.inl rfl
    · right
      intro e
      simp [Value.ownBlock] at e
      subst e
      rw [hC] at hgg
      injection hgg with hgg
      injection hgg with _ hgg _
      exact ht hgg.symm
  · have hm := List.mem_of_getElem? hp
    exact (grown_cell hg (h.lt p hm) (hne p hm)).trans ((h.each j p x hp hx).2 i b hb)
theorem Dat.below {w w' : World} {base : Nat} {tS : TypeId} {v : Value} {n : Nat} {ps : List (Nat × Nat × Nat)} {X : List (List Int)} (h : Dat w base tS v n ps X) (hb : Below w.heap.size w w') : Dat w' base tS v n ps X :=
  ⟨own_below h.row hb, h.lens, h.caps, fun p hp => Nat.lt_of_lt_of_le (h.lt p hp) hb.size, fun j p x hp hx => ⟨(h.each j p x hp hx).1, fun i b hi => (hb.cell (p := ⟨p.1, p.2.1 + i, none⟩) (h.lt p (List.mem_of_getElem? hp))).trans ((h.each j p x hp hx).2 i b hi)⟩⟩
theorem Dat.rows {w : World} {base : Nat} {tS : TypeId} {v : Value} {R size : Nat} {ps : List (Nat × Nat × Nat)} {X : List (List Int)} (h : Dat w base tS v (R * size) ps X) :
    ∀ (r : Nat) (p : Nat × Nat × Nat) (x : List Int), (cutAll size R ps)[r]? = some p → (rowsD R size X)[r]? = some x → ∀ (i : Nat) (b : Int), x[i]? = some b → w.cell? ⟨p.1, p.2.1 + i, none⟩ = some (.int .u8 b) := by
  refine zipflat (cutOne size R) (fun x => (List.range R).map fun q => (x.drop (q * size)).take size) _ ps X h.lens.symm ?_
  intro j p x hp hx
  refine ⟨by simp [cutOne], ?_⟩
  intro r a b ha hb
  have hr : r < R := by
    have := (List.getElem?_eq_some_iff.1 ha).1
    simpa [cutOne] using this
  simp only [cutOne, List.getElem?_map, List.getElem?_range hr, Option.map_some, Option.some.injEq] at ha hb
  subst ha
  subst hb
  intro i c hc
  rw [List.getElem?_take] at hc
  split at hc
  · rw [List.getElem?_drop] at hc
    have := (h.each j p x hp hx).2 _ _ hc
    simpa [Nat.add_assoc] using this
  · cases hc
theorem Own.mono {w : World} {base base' : Nat} {tS tB : TypeId} {v : Value} {n : Nat} {ps : List (Nat × Nat × Nat)} {X : List (List Int)} (h : Own w base tS tB v n ps X) (hb : base' ≤ base) : Own w base' tS tB v n ps X :=
  ⟨own_mono h.row hb, h.lens, fun j p x hp hx => ⟨(h.each j p x hp hx).1, own_mono (h.each j p x hp hx).2 hb⟩, h.nodup⟩
theorem cut_lt {w : World} {base : Nat} {tS : TypeId} {v : Value} {n R size : Nat} {ps : List (Nat × Nat × Nat)} {X : List (List Int)} (h : Dat w base tS v n ps X) : ∀ p ∈ cutAll size R ps, p.1 < w.heap.size := by
  intro p hp
  simp only [cutAll, List.mem_flatMap, cutOne, List.mem_map] at hp
  obtain ⟨q, hq, r, _, rfl⟩ := hp
  exact h.lt q hq
end Sh
end Go.Proofs.Ythhbpofcemoflab
namespace Go.Proofs.Ythhbpofcemoflab
open Go.RowKit
set_option maxRecDepth 20000
namespace Sh
def Byte (x : Int) : Prop := 0 ≤ x ∧ x ≤ 255
def bx (a b : Int) : Int := bits .xor .u8 a b
theorem bx_byte (a b : Int) : Byte (bx a b) := ⟨bits_lo_u8 _ _ _, bits_hi_u8 _ _ _⟩
theorem bx_nat (a b : Nat) (ha : a < 256) (hb : b < 256) : bx (a : Int) (b : Int) = ((a ^^^ b : Nat) : Int) := by
  have ha' : a % 2 ^ IntKind.u8.bits = a := Nat.mod_eq_of_lt ha
  have hb' : b % 2 ^ IntKind.u8.bits = b := Nat.mod_eq_of_lt hb
  have hx : a ^^^ b < 2 ^ 8 := Nat.xor_lt_two_pow (n := 8) ha hb
  simp only [bx, bits, BitVec.ofInt_natCast, BitVec.toNat_xor, BitVec.toNat_ofNat, ha', hb']
  exact wraps_u8 _ (Int.natCast_nonneg _) (by exact_mod_cast hx)
theorem byte_nat {x : Int} (h : Byte x) : ∃ n : Nat, x = n ∧ n < 256 := by
  obtain ⟨n, rfl⟩ := Int.eq_ofNat_of_zero_le h.1
  exact ⟨n, rfl, by have := h.2; omega⟩
theorem bx_zero {x : Int} (h : Byte x) : bx 0 x = x := by
  obtain ⟨n, rfl, hn⟩ := byte_nat h
  have := bx_nat 0 n (by decide) hn
  simpa using this
theorem bx_comm {x y : Int} (hx : Byte x) (hy : Byte y) : bx x y = bx y x := by
  obtain ⟨n, rfl, hn⟩ := byte_nat hx
  obtain ⟨m, rfl, hm⟩ := byte_nat hy
  rw [bx_nat n m hn hm, bx_nat m n hm hn, Nat.xor_comm]
theorem bx_assoc {x y z : Int} (hx : Byte x) (hy : Byte y) (hz : Byte z) : bx (bx x y) z = bx x (bx y z) := by
  obtain ⟨n, rfl, hn⟩ := byte_nat hx
  obtain ⟨m, rfl, hm⟩ := byte_nat hy
  obtain ⟨k, rfl, hk⟩ := byte_nat hz
  rw [bx_nat n m hn hm, bx_nat m k hm hk, bx_nat _ k (Nat.xor_lt_two_pow (n := 8) hn hm) hk, bx_nat n _ hn (Nat.xor_lt_two_pow (n := 8) hm hk), Nat.xor_assoc]
theorem bx_self {x : Int} (hx : Byte x) : bx x x = 0 := by
  obtain ⟨n, rfl, hn⟩ := byte_nat hx
  rw [bx_nat n n hn hn]
  simp
theorem bx_swap {a b c d : Int} (ha : Byte a) (hb : Byte b) (hc : Byte c) (hd : Byte d) : bx (bx a b) (bx c d) = bx (bx a c) (bx b d) := by
  rw [bx_assoc ha hb (bx_byte _ _), ← bx_assoc hb hc hd, bx_comm hb hc, bx_assoc hc hb hd, ← bx_assoc ha hc (bx_byte _ _)]
/-- the bits of a sum -/
def bit (s : Int) (k : Nat) : Bool := bits .and .u64 (s / 2 ^ k) 1 == 1
/-- the sum that a number stands for, over the first k of the given -/
def xs (s : Int) (env : Nat → Int) : Nat → Int
  | 0 => 0
  | k + 1 => if bit s k = true then bx (xs s env k) (env k) else xs s env k
theorem xs_t {s : Int} {env : Nat → Int} {k : Nat} (h : bit s k = true) : xs s env (k + 1) = bx (xs s env k) (env k) := if_pos h
theorem xs_f {s : Int} {env : Nat → Int} {k : Nat} (h : ¬ bit s k = true) : xs s env (k + 1) = xs s env k := if_neg h
theorem xs_byte (s : Int) (env : Nat → Int) (k : Nat) : Byte (xs s env k) := by
  induction k with
  | zero => exact ⟨(by decide : (0 : Int) ≤ 0), (by decide : (0 : Int) ≤ 255)⟩
  | succ k ih =>
    simp only [xs]
    split
    · exact bx_byte _ _
    · exact ih
theorem xs_congr (s : Int) (e1 e2 : Nat → Int) (k : Nat) (h : ∀ r, r < k → e1 r = e2 r) : xs s e1 k = xs s e2 k := by
  induction k with
  | zero => rfl
  | succ k ih => simp only [xs, ih (fun r hr => h r (by omega)), h k (by omega)]
theorem xs_none (s : Int) (env : Nat → Int) (k : Nat) (h : plK s k = 1) : xs s env k = 0 := by
  induction k with
  | zero => rfl
  | succ k ih =>
    simp only [plK] at h
    split at h
    · cases h
    · next c => rw [xs_f (s := s) (k := k) c]; exact ih h
theorem ev_append (a b : List (Int × Int × Int)) (env : Nat → Int) : ev (a ++ b) env = ev b (ev a env) := by simp [ev, List.foldl_append]
theorem nv_1 (x f : Int) : nv 1 x f = f := by simp [nv]
theorem nv_2 (x f : Int) : nv 2 x f = bx x f := by simp [nv, bx]
theorem ev_plO (s : Int) (t G : Nat) (hG : G ≤ t) (env : Nat → Int) (hb : ∀ r, r < G → Byte (env r)) (k : Nat) (hk : k ≤ G) :
    ev (plO s t k) env = fun r => if r = t then (if plK s k = 1 then env t else xs s env k) else env r := by
  induction k with
  | zero =>
    funext r
    simp only [plO, ev, List.foldl_nil, plK, if_true]
    split
    · next e => rw [e]
    · rfl
  | succ k ih =>
    have ih := ih (by omega)
    by_cases c : (bits .and .u64 (s / 2 ^ k) 1 == 1) = true
    · rw [plO_t c, ev_append, ih]
      funext r
      simp only [ev, List.foldl_cons, List.foldl_nil, stepE, Int.toNat_natCast, plK_t c]
      have hkt : ¬ k = t := by omega
      by_cases e : r = t
      · rw [if_pos e, if_pos e, if_pos trivial, if_neg hkt, if_neg (by decide : ¬ (2 : Int) = 1), xs_t (s := s) (k := k) c]
        rcases plK_12 s k with h1 | h2
        · rw [h1, xs_none s env k h1, nv_1]
          exact (bx_zero (hb k (by omega))).symm
        · rw [h2, nv_2, if_neg (by decide : ¬ (2 : Int) = 1)]
      · rw [if_neg e, if_neg e, if_neg e]
    · have c' : (bits .and .u64 (s / 2 ^ k) 1 == 1) = false := by simpa using c
      rw [plO_f c', ih]
      funext r
      rw [plK_f c', xs_f (s := s) (k := k) c]
theorem ev_plRow (s : Int) (t G : Nat) (hG : G ≤ t) (env : Nat → Int) (hb : ∀ r, r < G → Byte (env r)) :
    ev (plRow G s t) env = fun r => if r = t then xs s env G else env r := by
  unfold plRow
  rw [ev_append, ev_plO s t G hG env hb G (Nat.le_refl _)]
  by_cases c : plK s G = 1
  · have c' : (plK s G == 1) = true := beq_iff_eq.2 c
    rw [if_pos c']
    funext r
    simp only [ev, List.foldl_cons, List.foldl_nil, stepE, Int.toNat_natCast]
    by_cases e : r = t
    · rw [if_pos e, if_pos e, xs_none s env G c]
      rfl
    · rw [if_neg e, if_neg e, if_neg e]
  · have c' : ¬ (plK s G == 1) = true := fun h => c (beq_iff_eq.1 h)
    rw [if_neg c']
    funext r
    simp only [ev, List.foldl_nil]
    rw [if_neg c]
theorem ev_plA (G : Nat) (sums : List Int) (env : Nat → Int) (hb : ∀ r, r < G → Byte (env r)) (i : Nat) :
    ev (plA G sums i) env = fun r => if G ≤ r ∧ r < G + i then xs (sums.getD (r - G) 0) env G else env r := by
  induction i with
  | zero =>
    funext r
    simp only [plA, ev, List.foldl_nil]
    rw [if_neg (by omega)]
  | succ i ih =>
    have e : (G : Int) + (i : Int) = ((G + i : Nat) : Int) := by omega
    simp only [plA]
    rw [ev_append, ih, e, ev_plRow _ _ G (by omega) _ (by intro r hr; rw [if_neg (by omega)]; exact hb r hr)]
    funext r
    by_cases c : r = G + i
    · rw [if_pos c, if_pos (by omega), c, show G + i - G = i by omega]
      apply xs_congr
      intro q hq
      rw [if_neg (by omega)]
    · rw [if_neg c]
      by_cases c2 : G ≤ r ∧ r < G + i
      · rw [if_pos c2, if_pos (by omega)]
      · rw [if_neg c2, if_neg (by omega)]
theorem ev_plain (G : Nat) (sums : List Int) (env : Nat → Int) (hb : ∀ r, r < G → Byte (env r)) (j : Nat) (hj : j < sums.length) : ev (plain G sums) env (G + j) = xs (sums.getD j 0) env G := by
  unfold plain
  rw [ev_plA G sums env hb]
  simp only
  rw [if_pos (by omega), show G + j - G = j by omega]
end Sh
end Go.Proofs.Ythhbpofcemoflab
