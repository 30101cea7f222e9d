import Derived.Test.YthhbpofcemoflabPure12
namespace Go.Proofs.Ythhbpofcemoflab
open Go.RowKit
set_option maxRecDepth 20000

theorem pick_any (c n : Int) (w : World) (hl : -9223372036854775808 ≤ c) (hn : 1 ≤ n) :
    Calls Try.prog 11 #[.int .i64 c, .int .i64 n] w fun e w' => ∃ r : Nat, e = .returned (.int .i64 r) ∧ (r : Int) < n ∧ w' = w := by
  by_cases h : 0 ≤ c
  · refine (pick_pos c n w h hn).mono ?_
    rintro e w' ⟨rfl, rfl⟩
    have h1 := Int.emod_nonneg c (show n ≠ 0 by omega)
    have h2 := Int.emod_lt_of_pos c (show 0 < n by omega)
    exact ⟨(c % n).toNat, ret_int (by omega), by omega, rfl⟩
  · refine (pick_neg c n w (by omega) hl hn).mono ?_
    rintro e w' ⟨rfl, rfl⟩
    have h1 := Int.emod_nonneg (-1 - c) (show n ≠ 0 by omega)
    have h2 := Int.emod_lt_of_pos (-1 - c) (show 0 < n by omega)
    exact ⟨((-1 - c) % n).toNat, ret_int (by omega), by omega, rfl⟩

namespace Sh
def cds : List (Int × Nat × Nat × Int × Int) := [(0, 1, 1, 1, 0), (0, 2, 2, 2, 0), (0, 2, 2, 2, 1), (0, 5, 3, 3, 0), (0, 4, 4, 3, 1), (0, 6, 3, 4, 1), (0, 7, 3, 4, 0), (0, 2, 8, 4, 0), (1, 3, 2, 3, 0), (1, 2, 2, 5, 0), (1, 5, 2, 5, 0), (1, 7, 2, 7, 0), (2, 2, 2, 3, 0), (2, 4, 2, 5, 0), (2, 3, 2, 5, 0), (2, 6, 2, 7, 0), (3, 3, 3, 3, 0), (3, 5, 3, 5, 0), (3, 4, 3, 7, 0), (3, 7, 3, 7, 0)]
def five (l : List (Int × Nat × Nat × Int × Int)) : List Value := l.flatMap fun t => [.int .i64 t.1, .int .i64 t.2.1, .int .i64 t.2.2.1, .int .i64 t.2.2.2.1, .int .i64 t.2.2.2.2]
theorem five_get {l : List (Int × Nat × Nat × Int × Int)} {k : Nat} {t : Int × Nat × Nat × Int × Int} (h : l[k]? = some t) : (five l)[k * 5]? = some (.int .i64 t.1) ∧ (five l)[k * 5 + 1]? = some (.int .i64 t.2.1) ∧ (five l)[k * 5 + 2]? = some (.int .i64 t.2.2.1) ∧ (five l)[k * 5 + 3]? = some (.int .i64 t.2.2.2.1) ∧ (five l)[k * 5 + 4]? = some (.int .i64 t.2.2.2.2) := by
  induction l generalizing k with
  | nil => simp at h
  | cons a l ih =>
    cases k with
    | zero =>
      simp at h
      subst h
      simp [five]
    | succ k =>
      simp at h
      have := ih h
      have e : five (a :: l) = [.int .i64 a.1, .int .i64 a.2.1, .int .i64 a.2.2.1, .int .i64 a.2.2.2.1, .int .i64 a.2.2.2.2] ++ five l := by simp [five]
      rw [e, show (k + 1) * 5 = 5 + k * 5 by omega, show 5 + k * 5 + 1 = 5 + (k * 5 + 1) by omega, show 5 + k * 5 + 2 = 5 + (k * 5 + 2) by omega, show 5 + k * 5 + 3 = 5 + (k * 5 + 3) by omega, show 5 + k * 5 + 4 = 5 + (k * 5 + 4) by omega]
      refine ⟨?_, ?_, ?_, ?_, ?_⟩
      · rw [List.getElem?_append_right (by simp)]; simpa using this.1
      · rw [List.getElem?_append_right (by simp)]; simpa using this.2.1
      · rw [List.getElem?_append_right (by simp)]; simpa using this.2.2.1
      · rw [List.getElem?_append_right (by simp)]; simpa using this.2.2.2.1
      · rw [List.getElem?_append_right (by simp)]; simpa using this.2.2.2.2
theorem cds_ok0 : ∀ t ∈ cds, Ok0 t.1 t.2.1 t.2.2.1 t.2.2.2.1 t.2.2.2.2 := by
  intro t ht
  simp only [cds, List.mem_cons, List.not_mem_nil, or_false] at ht
  rcases ht with rfl | rfl | rfl | rfl | rfl | rfl | rfl | rfl | rfl | rfl | rfl | rfl | rfl | rfl | rfl | rfl | rfl | rfl | rfl | rfl
  · exact Or.inl ⟨1, rfl, rfl, by decide, by decide, by decide, by decide, by decide, by decide, by decide⟩
  · exact Or.inl ⟨2, rfl, rfl, by decide, by decide, by decide, by decide, by decide, by decide, by decide⟩
  · exact Or.inl ⟨2, rfl, rfl, by decide, by decide, by decide, by decide, by decide, by decide, by decide⟩
  · exact Or.inl ⟨3, rfl, rfl, by decide, by decide, by decide, by decide, by decide, by decide, by decide⟩
  · exact Or.inl ⟨3, rfl, rfl, by decide, by decide, by decide, by decide, by decide, by decide, by decide⟩
  · exact Or.inl ⟨4, rfl, rfl, by decide, by decide, by decide, by decide, by decide, by decide, by decide⟩
  · exact Or.inl ⟨4, rfl, rfl, by decide, by decide, by decide, by decide, by decide, by decide, by decide⟩
  · exact Or.inl ⟨4, rfl, rfl, by decide, by decide, by decide, by decide, by decide, by decide, by decide⟩
  · exact Or.inr ⟨2, rfl, by decide, by decide, by decide, by decide⟩
  · exact Or.inr ⟨4, rfl, by decide, by decide, by decide, by decide⟩
  · exact Or.inr ⟨4, rfl, by decide, by decide, by decide, by decide⟩
  · exact Or.inr ⟨6, rfl, by decide, by decide, by decide, by decide⟩
  · exact Or.inr ⟨2, rfl, by decide, by decide, by decide, by decide⟩
  · exact Or.inr ⟨4, rfl, by decide, by decide, by decide, by decide⟩
  · exact Or.inr ⟨4, rfl, by decide, by decide, by decide, by decide⟩
  · exact Or.inr ⟨6, rfl, by decide, by decide, by decide, by decide⟩
  · exact Or.inr ⟨2, rfl, by decide, by decide, by decide, by decide⟩
  · exact Or.inr ⟨4, rfl, by decide, by decide, by decide, by decide⟩
  · exact Or.inr ⟨6, rfl, by decide, by decide, by decide, by decide⟩
  · exact Or.inr ⟨6, rfl, by decide, by decide, by decide, by decide⟩
set_option maxRecDepth 100000 in
theorem cds_pbk : ∀ t ∈ cds, pbk t.1 t.2.1 t.2.2.1 t.2.2.2.1 t.2.2.2.2 = true := by decide +kernel
theorem cds_ok : ∀ t ∈ cds, Ok t.1 t.2.1 t.2.2.1 t.2.2.2.1 t.2.2.2.2 := fun t ht => Ok.of (cds_ok0 t ht) (cds_pbk t ht)
end Sh

set_option maxRecDepth 10000 in
set_option maxHeartbeats 2000000 in
theorem codes_any (c : Int) (w : World) (hl : -9223372036854775808 ≤ c) : Calls Try.prog 28 #[.int .i64 c] w fun e w' => ∃ t ∈ Sh.cds, e = .returned (.agg #[.int .i64 t.1, .int .i64 t.2.1, .int .i64 t.2.2.1, .int .i64 t.2.2.2.1, .int .i64 t.2.2.2.2]) ∧ Below w.heap.size w w' := by
  have HP := hide (fun w => pick_any c 20 w hl (by decide))
  go_enter Try.func28, Try.ntmps28
  go_wp2_with fail
  refine (HP.out _).mono ?_
  rintro e w1 ⟨r, rfl, hr, hw1⟩
  have hr20 : r < 20 := by omega
  obtain ⟨t, ht⟩ : ∃ t, Sh.cds[r]? = some t := ⟨_, List.getElem?_eq_getElem (by simpa [Sh.cds] using hr20)⟩
  have hblk : w1.heap[w.heap.size + 1]? = some (.cells (Sh.five Sh.cds).toArray 25 (0, 0)) := by rw [hw1]; exact heap_new2 w _ _
  have hres : w1.heap[w.heap.size]? = some (.cells #[.int .i64 0, .int .i64 0, .int .i64 0, .int .i64 0, .int .i64 0] 25 (0, 0)) := by rw [hw1]; exact heap_new1 w _ _
  have hlow : Below w.heap.size w w1 := by rw [hw1]; exact ((Below.refl _ _).alloc (Nat.le_refl _) _).alloc (by simp) _
  have Hw := hide hw1
  clear hw1
  obtain ⟨f0, f1, f2, f3, f4⟩ := Sh.five_get ht
  have k0 : w1.cell? ⟨w.heap.size + 1, r * 5, none⟩ = some (.int .i64 t.1) := blk_cell hblk (by simpa using f0)
  have k1 : w1.cell? ⟨w.heap.size + 1, r * 5 + 1, none⟩ = some (.int .i64 t.2.1) := blk_cell hblk (by simpa using f1)
  have k2 : w1.cell? ⟨w.heap.size + 1, r * 5 + 2, none⟩ = some (.int .i64 t.2.2.1) := blk_cell hblk (by simpa using f2)
  have k3 : w1.cell? ⟨w.heap.size + 1, r * 5 + 3, none⟩ = some (.int .i64 t.2.2.2.1) := blk_cell hblk (by simpa using f3)
  have k4 : w1.cell? ⟨w.heap.size + 1, r * 5 + 4, none⟩ = some (.int .i64 t.2.2.2.2) := blk_cell hblk (by simpa using f4)
  have q0 : w1.cell? ⟨w.heap.size, 0, none⟩ = some (.int .i64 0) := blk_cell hres rfl
  have q1 : w1.cell? ⟨w.heap.size, 1, none⟩ = some (.int .i64 0) := blk_cell hres rfl
  have q2 : w1.cell? ⟨w.heap.size, 2, none⟩ = some (.int .i64 0) := blk_cell hres rfl
  have q3 : w1.cell? ⟨w.heap.size, 3, none⟩ = some (.int .i64 0) := blk_cell hres rfl
  have q4 : w1.cell? ⟨w.heap.size, 4, none⟩ = some (.int .i64 0) := blk_cell hres rfl
  have qf := blk_frozen hres
  have Hblk := hide hblk
  have Hres := hide hres
  have Ht := hide ht
  clear f0 f1 f2 f3 f4 hblk hres ht
  go_wp2
  refine bodyPost_ret (v := .agg #[.int .i64 t.1, .int .i64 t.2.1, .int .i64 t.2.2.1, .int .i64 t.2.2.2.1, .int .i64 t.2.2.2.2]) (by simp [results, Try.results28, go_sem, q0, q1, q2, q3, q4]) rfl ⟨t, List.mem_of_getElem? Ht.out, rfl, ?_⟩
  exact ((((hlow.setCell (by simp) _).setCell (by simp) _).setCell (by simp) _).setCell (by simp) _).setCell (by simp) _

end Go.Proofs.Ythhbpofcemoflab
