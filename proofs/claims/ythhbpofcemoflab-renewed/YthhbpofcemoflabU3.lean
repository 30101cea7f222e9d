import Derived.Test.YthhbpofcemoflabU2
import Derived.Test.YthhbpofcemoflabGk
namespace Go.Proofs.Ythhbpofcemoflab
open Go.RowKit
set_option maxRecDepth 20000
/-- the coder, behind a write into a list of shards -/
theorem Sh.CS.setRow {w : World} {cb : Nat} {kind : Int} {K M : Nat} {N gd lev scr blk cac : Int} (h : Sh.CS w cb kind K M N gd lev scr blk cac) {base b n m c k : Nat} {x : List Value} (hb : w.ownsRow base 33 1 (.slice (some ⟨b, 0, none⟩) m c) n x) (hne : b ≠ cb) (u : Value) : Sh.CS (w.setCell ⟨b, k, none⟩ u) cb kind K M N gd lev scr blk cac := by
  rcases h with h | ⟨go, co, h, ho⟩
  · exact Or.inl ((Below.heap_setCell _ _ _ _ (by simpa using Ne.symm hne)).trans h)
  · exact Or.inr ⟨go, co, (Below.heap_setCell _ _ _ _ (by simpa using Ne.symm hne)).trans h, ho.kept (grown_set (grown_refl w (some b)) u) (own_ne ho hb (by decide))⟩
theorem Sh.One.set {w : World} {n : Nat} {p : Nat × Nat × Nat} {x : List Int} (h : Sh.One w n p x) {g k : Nat} (hne : p.1 ≠ g) (u : Value) : Sh.One (w.setCell ⟨g, k, none⟩ u) n p x :=
  ⟨h.caps, by simpa [World.setCell] using h.lt, h.len, fun i b hi => (grown_cell (grown_set (grown_refl w (some g)) u) h.lt hne).trans (h.cells i b hi)⟩
/-- a list of shards, behind 'd[j] = f[j]' -/
theorem Sh.dat_setrow {w : World} {b1 b2 : Nat} {v2 : Value} {n g K cap : Nat} {ps qs : List (Nat × Nat × Nat)} {X Y : List (List Int)} (hX : Sh.Own w b1 33 5 (.slice (some ⟨g, 0, none⟩) K cap) n ps X) (hY : Sh.Own w b2 33 5 v2 n qs Y) {j : Nat} {q : Nat × Nat × Nat} {y : List Int} (hj : j < ps.length) (hq : qs[j]? = some q) (hy : Y[j]? = some y) :
    Sh.Dat (w.setCell ⟨g, j, none⟩ (.slice (some ⟨q.1, q.2.1, none⟩) n q.2.2)) b1 33 (.slice (some ⟨g, 0, none⟩) K cap) n (ps.set j q) (X.set j y) := by
  have hg : w.grownBy (w.setCell ⟨g, j, none⟩ (.slice (some ⟨q.1, q.2.1, none⟩) n q.2.2)) (some g) := grown_set (grown_refl w _) _
  have hbne : ∀ (b c cp : Nat) (x : List Value), w.ownsRow b 5 1 (.slice (some ⟨c, 0, none⟩) n cp) n x → c ≠ g := by
    intro b c cp x ho e
    subst e
    rcases own_ne ho hX.row (by decide) with h | h
    · simp [Value.ownBlock] at h
    · exact h rfl
  refine Sh.Dat.mk' ?_ (by rw [List.length_set, List.length_set]; exact hX.lens) ?_
  · have hr := hX.row
    have hl := hr.1
    rcases hr.2 with ⟨hc, _⟩ | ⟨g', cap', cur, hv, hb, hgg, h1, h2, h3, h4⟩
    · cases hc
    · injection hv with hv1 hv2 hv3
      injection hv1 with hv1
      injection hv1 with hv1
      subst hv1
      refine ⟨by rw [List.length_set]; simp [Sh.sv_len], Or.inr ⟨g, cap', cur.setIfInBounds j (.slice (some ⟨q.1, q.2.1, none⟩) n q.2.2), by rw [List.length_set, hv2, hv3], hb, blk_set hgg, by rw [List.length_set]; exact h1, h2, by rw [Array.size_setIfInBounds]; exact h3, ?_⟩⟩
      have e : Sh.sv n (ps.set j q) = (Sh.sv n ps).set j (.slice (some ⟨q.1, q.2.1, none⟩) n q.2.2) := by unfold Sh.sv; rw [List.map_set]
      rw [e, Array.toList_setIfInBounds, ← h4, List.take_set, List.length_set]
  · intro i p x hp hx
    by_cases c : i = j
    · subst c
      rw [List.getElem?_set_self hj] at hp
      rw [List.getElem?_set_self (by rw [hX.lens]; exact hj)] at hx
      injection hp with hp
      injection hx with hx
      subst hp
      subst hx
      exact (Sh.One.of (own_dat hY) hq hy).set (hbne _ _ _ _ (hY.each i q y hq hy).2) _
    · rw [List.getElem?_set_ne (by omega)] at hp hx
      exact (Sh.One.of (own_dat hX) hp hx).set (hbne _ _ _ _ (hX.each i p x hp hx).2) _
end Go.Proofs.Ythhbpofcemoflab
