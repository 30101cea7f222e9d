import Derived.Test.YtfnfnmonnfcpeabPure6
import Derived.Deep.AppendLies
import Derived.Deep.OwnRows
namespace Go.Proofs.Ytfnfnmonnfcpeab
open Go.RowKit
set_option maxRecDepth 20000
theorem heap_new2 (w : World) (o1 o2 : Obj) : ((w.alloc o1).alloc o2).heap[w.heap.size + 1]? = some o2 := by
  have h := heap_alloc_new (w.alloc o1) o2
  rwa [World.size_alloc] at h
theorem heap_new1 (w : World) (o1 o2 : Obj) : ((w.alloc o1).alloc o2).heap[w.heap.size]? = some o1 := (Below.heap_alloc _ _ _ (by simp)).trans (heap_alloc_new w _)
theorem made_zero (n : Nat) : madeCells #[.int .u8 0] n = ((List.replicate n (0 : Int)).map (Value.int .u8)).toArray := by
  apply Array.ext'
  rw [toList_madeCells_one]
  simp
theorem own_cells {w : World} {base : Nat} {e : TypeId} {size g n cap m : Nat} {xs : List Value} (h : w.ownsRow base e size (.slice (some ⟨g, 0, none⟩) n cap) m xs) (j : Nat) (u : Value) (hu : xs[j]? = some u) : w.cell? ⟨g, j, none⟩ = some u := by
  have h1 := h.cells (g := g) rfl j u hu
  have hadd : (⟨g, 0, none⟩ : Addr).add j = ⟨g, j, none⟩ := by unfold Addr.add; split <;> simp_all
  rwa [hadd] at h1
theorem hide {p : Prop} (h : p) : Hid p := h
namespace Sh
def stepE (o : Int × Int × Int) (env : Nat → Int) : Nat → Int := fun r => if r = o.2.1.toNat then nv o.1 (env o.2.1.toNat) (env o.2.2.toNat) else env r
def ev (ops : List (Int × Int × Int)) (env : Nat → Int) : Nat → Int := ops.foldl (fun e o => stepE o e) env
theorem ev_snoc (ops : List (Int × Int × Int)) (k : Nat) (o : Int × Int × Int) (h : ops[k]? = some o) (env : Nat → Int) : ev (ops.take (k + 1)) env = stepE o (ev (ops.take k) env) := by
  have hk := (List.getElem?_eq_some_iff.1 h)
  rw [List.take_succ_eq_append_getElem hk.1, hk.2]
  simp [ev, List.foldl_append]
def OpOk (G n : Nat) (o : Int × Int × Int) : Prop := (o.1 = 0 ∨ o.1 = 1 ∨ o.1 = 2) ∧ ∃ t f : Nat, o.2.1 = t ∧ o.2.2 = f ∧ G ≤ t ∧ t < n ∧ f < n ∧ f ≠ t
theorem ev_given {G n : Nat} (ops : List (Int × Int × Int)) (h : ∀ o ∈ ops, OpOk G n o) (env : Nat → Int) (r : Nat) (hr : r < G) : ev ops env r = env r := by
  induction ops generalizing env with
  | nil => rfl
  | cons o ops ih =>
    show ev ops (stepE o env) r = env r
    rw [ih (fun x hx => h x (by simp [hx]))]
    obtain ⟨_, t, f, ht, _, hG, _⟩ := h o (by simp)
    simp only [stepE, ht, Int.toNat_natCast]
    rw [if_neg (by omega)]
/-- the registers' values at place i as they are given -/
def env0 (D : List (List Int)) (i : Nat) : Nat → Int := fun r => (D.getD r []).getD i 0
def regAt (ops : List (Int × Int × Int)) (D : List (List Int)) (G size s f k j : Nat) : List Int := (List.range size).map fun i => if i < s then ev ops (env0 D i) (G + j) else if i < f then ev (ops.take k) (env0 D i) (G + j) else 0
theorem regAt_len (ops : List (Int × Int × Int)) (D : List (List Int)) (G size s f k j : Nat) : (regAt ops D G size s f k j).length = size := by simp [regAt]
def xsAt (ops : List (Int × Int × Int)) (D : List (List Int)) (G size s f k m : Nat) : List (List Int) := (List.range m).map (regAt ops D G size s f k)
theorem xsAt_get {ops : List (Int × Int × Int)} {D : List (List Int)} {G size s f k m j : Nat} (h : j < m) : (xsAt ops D G size s f k m)[j]? = some (regAt ops D G size s f k j) := by
  simp [xsAt, List.getElem?_range h]
theorem env0_out {D : List (List Int)} {G : Nat} (hD : D.length = G) (i r : Nat) (hr : G ≤ r) : env0 D i r = 0 := by
  have e : D.getD r [] = [] := by rw [List.getD_eq_getElem?_getD, List.getElem?_eq_none (by omega)]; rfl
  simp only [env0]
  rw [e]
  rfl
theorem regAt_start {ops : List (Int × Int × Int)} {D : List (List Int)} {G size f j : Nat} (hD : D.length = G) : regAt ops D G size 0 f 0 j = List.replicate size 0 := by
  apply List.ext_getElem
  · simp [regAt]
  · intro i h1 h2
    simp only [regAt, List.getElem_map, List.getElem_range, List.getElem_replicate]
    rw [if_neg (by omega)]
    split
    · exact env0_out hD i _ (by omega)
    · rfl
theorem regAt_next {ops : List (Int × Int × Int)} {D : List (List Int)} {G size s f f' j : Nat} (hD : D.length = G) (hs : s ≤ f) : regAt ops D G size s f ops.length j = regAt ops D G size f f' 0 j := by
  apply List.ext_getElem
  · simp [regAt]
  · intro i h1 h2
    simp only [regAt, List.getElem_map, List.getElem_range, List.take_length]
    by_cases c1 : i < s
    · rw [if_pos c1, if_pos (by omega)]
    · rw [if_neg c1]
      by_cases c2 : i < f
      · rw [if_pos c2, if_pos c2]
      · rw [if_neg c2, if_neg c2]
        split
        · exact (env0_out hD i _ (by omega)).symm
        · rfl
theorem xsAt_next {ops : List (Int × Int × Int)} {D : List (List Int)} {G size s f f' m : Nat} (hD : D.length = G) (hs : s ≤ f) : xsAt ops D G size s f ops.length m = xsAt ops D G size f f' 0 m := by
  simp only [xsAt]
  apply List.map_congr_left
  intro j _
  exact regAt_next hD hs
/-- what register r holds, as a list -/
def srcAt (ops : List (Int × Int × Int)) (D : List (List Int)) (G size s f k r : Nat) : List Int := if r < G then D.getD r [] else regAt ops D G size s f k (r - G)
theorem regAt_get {ops : List (Int × Int × Int)} {D : List (List Int)} {G size s f k j i : Nat} (h : i < size) : (regAt ops D G size s f k j).getD i 0 = if i < s then ev ops (env0 D i) (G + j) else if i < f then ev (ops.take k) (env0 D i) (G + j) else 0 := by
  rw [List.getD_eq_getElem?_getD]
  simp [regAt, List.getElem?_range h]
theorem upd_reg {ops : List (Int × Int × Int)} {D : List (List Int)} {G n size s f k t fr : Nat} {kd : Int} (hops : ∀ o ∈ ops, OpOk G n o) (ho : ops[k]? = some (kd, (t : Int), (fr : Int))) (hG : G ≤ t) :
    upd kd (regAt ops D G size s f k (t - G)) (srcAt ops D G size s f k fr) s f = regAt ops D G size s f (k + 1) (t - G) := by
  apply List.ext_getElem
  · simp [upd, regAt]
  · intro i h1 h2
    have hi : i < size := by simpa [regAt] using h2
    simp only [upd, List.getElem_map, List.getElem_range]
    rw [regAt_get hi]
    have e2 : (regAt ops D G size s f (k + 1) (t - G))[i] = (regAt ops D G size s f (k + 1) (t - G)).getD i 0 := by
      rw [List.getD_eq_getElem?_getD, List.getElem?_eq_getElem h2]; rfl
    rw [e2, regAt_get hi]
    by_cases c1 : i < s
    · rw [if_neg (by omega), if_pos c1, if_pos c1]
    · rw [if_neg c1, if_neg c1]
      by_cases c2 : i < f
      · rw [if_pos c2, if_pos c2, if_pos ⟨by omega, c2⟩, ev_snoc ops k _ ho]
        simp only [stepE, Int.toNat_natCast]
        rw [show G + (t - G) = t by omega, if_pos rfl]
        congr 1
        unfold srcAt
        by_cases c3 : fr < G
        · rw [if_pos c3, ev_given (G := G) (n := n) _ (fun o ho => hops o (List.mem_of_mem_take ho)) _ _ c3]
          rfl
        · rw [if_neg c3, regAt_get hi, if_neg c1, if_pos c2, show G + (fr - G) = fr by omega]
      · rw [if_neg c2, if_neg c2, if_neg (by omega)]
theorem other_reg {ops : List (Int × Int × Int)} {D : List (List Int)} {G size s f k t fr j : Nat} {kd : Int} (ho : ops[k]? = some (kd, (t : Int), (fr : Int))) (hj : G + j ≠ t) :
    regAt ops D G size s f (k + 1) j = regAt ops D G size s f k j := by
  simp only [regAt]
  apply List.map_congr_left
  intro i _
  rw [ev_snoc ops k _ ho]
  simp only [stepE, Int.toNat_natCast]
  rw [if_neg hj]
theorem xsAt_set {ops : List (Int × Int × Int)} {D : List (List Int)} {G n size s f k m t fr : Nat} {kd : Int} (hops : ∀ o ∈ ops, OpOk G n o) (ho : ops[k]? = some (kd, (t : Int), (fr : Int))) (hG : G ≤ t) :
    (xsAt ops D G size s f k m).set (t - G) (upd kd (regAt ops D G size s f k (t - G)) (srcAt ops D G size s f k fr) s f) = xsAt ops D G size s f (k + 1) m := by
  rw [upd_reg hops ho hG]
  apply List.ext_getElem
  · simp [xsAt]
  · intro j h1 h2
    rw [List.getElem_set]
    simp only [xsAt, List.getElem_map, List.getElem_range]
    split
    · next e => rw [e]
    · next e => exact (other_reg ho (by omega)).symm
end Sh
/-- the run's state: the machine, its registers, what those that it made hold -/
structure Sh.RS (w wr : World) (gr cap G size : Nat) (tP tM tS tB : TypeId) (pv : Array Value) (gv : List Value) (bs : List Nat) (xs : List (List Int)) : Prop where
  pbox : wr.heap[w.heap.size]? = some (.cells pv tP (0, 0))
  mbox : wr.heap[w.heap.size + 1]? = some (.cells #[.int .i64 G, .slice (some ⟨gr, 0, none⟩) (G + bs.length) cap] tM (0, 0))
  regs : wr.ownsRow (w.heap.size + 2) tS 1 (.slice (some ⟨gr, 0, none⟩) (G + bs.length) cap) (G + bs.length) (gv ++ bs.map (fun b => Value.slice (some ⟨b, 0, none⟩) size size))
  outs : ∀ (j b : Nat) (x : List Int), bs[j]? = some b → xs[j]? = some x → w.heap.size + 2 ≤ b ∧ wr.heap[b]? = some (.cells (x.map (Value.int .u8)).toArray tB (0, 0))
  lens : xs.length = bs.length
  nodup : bs.Nodup
  low : Below w.heap.size w wr
theorem Sh.RS.gr_ne {w wr : World} {gr cap G size : Nat} {tP tM tS tB : TypeId} {pv : Array Value} {gv : List Value} {bs : List Nat} {xs : List (List Int)} (h : Sh.RS w wr gr cap G size tP tM tS tB pv gv bs xs) (ht : tS ≠ tB) (j b : Nat) (x : List Int) (hb : bs[j]? = some b) (hx : xs[j]? = some x) : b ≠ gr := by
  intro e
  obtain ⟨_, h1⟩ := h.outs j b x hb hx
  rcases h.regs.2 with ⟨h2, _⟩ | ⟨g, c, cur, h2, _, h3, _⟩
  · cases h2
  · injection h2 with h4 _ _
    injection h4 with h4
    injection h4 with h4 _ _
    subst h4
    subst e
    rw [h1] at h3
    injection h3 with h3
    injection h3 with _ h3 _
    exact ht h3.symm
/-- behind 'do' -/
theorem Sh.RS.did {w wr w' : World} {gr cap G size : Nat} {tP tM tS tB : TypeId} {pv : Array Value} {gv : List Value} {bs : List Nat} {xs : List (List Int)} (h : Sh.RS w wr gr cap G size tP tM tS tB pv gv bs xs) (ht : tS ≠ tB)
    (j b : Nat) (x0 x : List Int) (hb : bs[j]? = some b) (hx : xs[j]? = some x0) (hn : w'.heap[b]? = some (.cells (x.map (Value.int .u8)).toArray tB (0, 0))) (hg : wr.grownBy w' (some b)) :
    Sh.RS w w' gr cap G size tP tM tS tB pv gv bs (xs.set j x) := by
  have hbb := (h.outs j b x0 hb hx).1
  have hne := h.gr_ne ht j b x0 hb hx
  refine ⟨?_, ?_, ?_, ?_, by simpa using h.lens, h.nodup, ?_⟩
  · exact (hg.block _ (blk_lt h.pbox) (by simp; omega)).trans h.pbox
  · exact (hg.block _ (blk_lt h.mbox) (by simp; omega)).trans h.mbox
  · exact h.regs.kept hg (Or.inr (by simp [Value.ownBlock]; omega))
  · intro j' b' x' hb' hx'
    rw [List.getElem?_set] at hx'
    by_cases e : j = j'
    · subst e
      rw [hb] at hb'
      injection hb' with hb'
      subst hb'
      rw [if_pos rfl] at hx'
      split at hx'
      · injection hx' with hx'
        subst hx'
        exact ⟨hbb, hn⟩
      · cases hx'
    · rw [if_neg e] at hx'
      obtain ⟨h1, h2⟩ := h.outs j' b' x' hb' hx'
      have hbne : b' ≠ b := by
        intro e2
        subst e2
        have l1 := (List.getElem?_eq_some_iff.1 hb)
        have l2 := (List.getElem?_eq_some_iff.1 hb')
        exact e ((List.getElem_inj h.nodup).1 (l1.2.trans l2.2.symm))
      exact ⟨h1, (hg.block b' (blk_lt h2) (by simpa using hbne)).trans h2⟩
  · refine h.low.trans ⟨hg.os, hg.tape, hg.output, hg.size, fun k hk => hg.block k (Nat.lt_of_lt_of_le hk h.low.size) ?_⟩
    intro e
    injection e with e
    omega
/-- behind 'm.registers = append(m.registers, make([]byte, size))' -/
theorem Sh.RS.made {w wr w' : World} {gr cap G size g' cap' : Nat} {tP tM tS tB : TypeId} {pv : Array Value} {gv : List Value} {bs : List Nat} {xs : List (List Int)} (h : Sh.RS w wr gr cap G size tP tM tS tB pv gv bs xs) (ht : tS ≠ tB)
    (o : Obj) (hown : w'.ownsRow (w.heap.size + 2) tS 1 (.slice (some ⟨g', 0, none⟩) (G + bs.length + 1) cap') (G + bs.length + 1) (gv ++ bs.map (fun b => Value.slice (some ⟨b, 0, none⟩) size size) ++ [.slice (some ⟨wr.heap.size, 0, none⟩) size size]))
    (hg : ((wr.alloc (.cells ((List.replicate size (0 : Int)).map (Value.int .u8)).toArray tB)).alloc o).grownBy w' (some gr)) (hgr : gr < wr.heap.size) :
    Sh.RS w (w'.setCell ⟨w.heap.size + 1, 1, none⟩ (.slice (some ⟨g', 0, none⟩) (G + bs.length + 1) cap')) g' cap' G size tP tM tS tB pv gv (bs ++ [wr.heap.size]) (xs ++ [List.replicate size 0]) := by
  have hgr2 : w.heap.size + 2 ≤ gr := (h.regs.lt gr rfl).1
  have hblk : ∀ k, k < wr.heap.size → k ≠ gr → w'.heap[k]? = wr.heap[k]? := fun k hk hne => (hg.block k (by simp; omega) (by simpa using hne)).trans ((Below.heap_alloc _ _ _ (by simp; omega)).trans (Below.heap_alloc _ _ _ hk))
  have hnew : w'.heap[wr.heap.size]? = some (.cells ((List.replicate size (0 : Int)).map (Value.int .u8)).toArray tB (0, 0)) :=
    (hg.block wr.heap.size (by simp; omega) (by simp; omega)).trans ((Below.heap_alloc _ _ _ (by simp)).trans (heap_alloc_new wr _))
  have hset : ∀ k, k ≠ w.heap.size + 1 → (w'.setCell ⟨w.heap.size + 1, 1, none⟩ (.slice (some ⟨g', 0, none⟩) (G + bs.length + 1) cap')).heap[k]? = w'.heap[k]? := fun k hk => Below.heap_setCell _ _ _ _ hk
  have hmlt := blk_lt h.mbox
  refine ⟨?_, ?_, ?_, ?_, by simp [h.lens], ?_, ?_⟩
  · rw [hset _ (by omega), hblk _ (by omega) (by omega)]; exact h.pbox
  · have := blk_set (j := 1) (u := .slice (some ⟨g', 0, none⟩) (G + bs.length + 1) cap') ((hblk _ (blk_lt h.mbox) (by omega)).trans h.mbox)
    simpa [Nat.add_assoc] using this
  · have := ownsRow_setCell_below hown (a := ⟨w.heap.size + 1, 1, none⟩) (by simp) (.slice (some ⟨g', 0, none⟩) (G + bs.length + 1) cap')
    simpa [List.map_append, List.append_assoc, Nat.add_assoc] using this
  · intro j b x hb hx
    rw [List.getElem?_append] at hb hx
    rw [h.lens] at hx
    by_cases c : j < bs.length
    · rw [if_pos c] at hb hx
      obtain ⟨h1, h2⟩ := h.outs j b x hb hx
      have hne : b ≠ gr := by
        intro e
        rcases h.regs.2 with ⟨h3, _⟩ | ⟨g, c, cur, h3, _, h4, _⟩
        · cases h3
        · injection h3 with h5 _ _
          injection h5 with h5
          injection h5 with h5 _ _
          subst h5
          subst e
          rw [h2] at h4
          injection h4 with h4
          injection h4 with _ h4 _
          exact ht h4.symm
      exact ⟨h1, by rw [hset _ (by omega), hblk _ (blk_lt h2) hne]; exact h2⟩
    · rw [if_neg c] at hb hx
      have hj : j - bs.length = 0 := by
        have := (List.getElem?_eq_some_iff.1 hb).1
        simp at this
        omega
      rw [hj] at hb hx
      simp at hb hx
      subst hb
      subst hx
      have := h.low.size
      exact ⟨by omega, by rw [hset _ (by omega)]; simpa using hnew⟩
  · rw [List.nodup_append]
    refine ⟨h.nodup, by simp, ?_⟩
    intro a ha b hb
    simp at hb
    subst hb
    obtain ⟨j, hj⟩ := List.getElem?_of_mem ha
    have hjl := (List.getElem?_eq_some_iff.1 hj).1
    have hjx : j < xs.length := by rw [h.lens]; exact hjl
    obtain ⟨_, h2⟩ := h.outs j a xs[j] hj (List.getElem?_eq_getElem hjx)
    have := blk_lt h2
    omega
  · refine (h.low.trans ⟨hg.os, hg.tape, hg.output, by have := hg.size; simp at this; omega, fun k hk => ?_⟩).setCell (by simp) _
    exact hblk k (Nat.lt_of_lt_of_le hk h.low.size) (by omega)
theorem Sh.RS.alloc {w wr : World} {gr cap G size : Nat} {tP tM tS tB : TypeId} {pv : Array Value} {gv : List Value} {bs : List Nat} {xs : List (List Int)} (h : Sh.RS w wr gr cap G size tP tM tS tB pv gv bs xs) (o : Obj) : Sh.RS w (wr.alloc o) gr cap G size tP tM tS tB pv gv bs xs :=
  ⟨(Below.heap_alloc _ _ _ (blk_lt h.pbox)).trans h.pbox, (Below.heap_alloc _ _ _ (blk_lt h.mbox)).trans h.mbox, h.regs.alloc o, fun j b x hb hx => ⟨(h.outs j b x hb hx).1, (Below.heap_alloc _ _ _ (blk_lt (h.outs j b x hb hx).2)).trans (h.outs j b x hb hx).2⟩, h.lens, h.nodup, h.low.alloc h.low.size o⟩
theorem Sh.RS.reg {w wr : World} {gr cap G size : Nat} {tP tM tS tB : TypeId} {pv : Array Value} {gv : List Value} {bs : List Nat} {xs : List (List Int)} (h : Sh.RS w wr gr cap G size tP tM tS tB pv gv bs xs) (hG : 1 ≤ G) (r : Nat) (u : Value) (hu : (gv ++ bs.map (fun b => Value.slice (some ⟨b, 0, none⟩) size size))[r]? = some u) : wr.cell? ⟨gr, r, none⟩ = some u := by
  obtain ⟨g, c, hv, _, _, _, hc⟩ := own_form h.regs (by omega)
  injection hv with h1 _ _
  injection h1 with h1
  injection h1 with h1 _ _
  subst h1
  exact hc r u hu
namespace Sh
theorem opCells_get {ops : List (Int × Int × Int)} {k : Nat} {o : Int × Int × Int} (h : ops[k]? = some o) : (opCells ops)[k * 3]? = some (.int .i64 o.1) ∧ (opCells ops)[k * 3 + 1]? = some (.int .i64 o.2.1) ∧ (opCells ops)[k * 3 + 2]? = some (.int .i64 o.2.2) := by
  induction ops generalizing k with
  | nil => simp at h
  | cons a ops ih =>
    cases k with
    | zero =>
      simp at h
      subst h
      simp [opCells]
    | succ k =>
      simp at h
      have := ih h
      have e : opCells (a :: ops) = [.int .i64 a.1, .int .i64 a.2.1, .int .i64 a.2.2] ++ opCells ops := by simp [opCells]
      rw [e, show (k + 1) * 3 = 3 + k * 3 by omega, show 3 + k * 3 + 1 = 3 + (k * 3 + 1) by omega, show 3 + k * 3 + 2 = 3 + (k * 3 + 2) by omega]
      refine ⟨?_, ?_, ?_⟩
      · rw [List.getElem?_append_right (by simp)]; simpa using this.1
      · rw [List.getElem?_append_right (by simp)]; simpa using this.2.1
      · rw [List.getElem?_append_right (by simp)]; simpa using this.2.2
theorem xsAt_any {ops : List (Int × Int × Int)} {D : List (List Int)} {G size s f f' m : Nat} (hD : D.length = G) : xsAt ops D G size s f 0 m = xsAt ops D G size s f' 0 m := by
  simp only [xsAt]
  apply List.map_congr_left
  intro j _
  simp only [regAt]
  apply List.map_congr_left
  intro i _
  have e : ev (List.take 0 ops) (env0 D i) (G + j) = 0 := env0_out hD i _ (by omega)
  rw [e]
  split
  · rfl
  · split <;> split <;> rfl
theorem xsAt_start {ops : List (Int × Int × Int)} {D : List (List Int)} {G size f m : Nat} (hD : D.length = G) : List.replicate m (List.replicate size 0) = xsAt ops D G size 0 f 0 m := by
  apply List.ext_getElem
  · simp [xsAt]
  · intro j h1 h2
    simp only [xsAt, List.getElem_map, List.getElem_range, List.getElem_replicate]
    exact (regAt_start hD).symm
theorem xsAt_len (ops : List (Int × Int × Int)) (D : List (List Int)) (G size s f k m : Nat) : (xsAt ops D G size s f k m).length = m := by simp [xsAt]
end Sh
end Go.Proofs.Ytfnfnmonnfcpeab
