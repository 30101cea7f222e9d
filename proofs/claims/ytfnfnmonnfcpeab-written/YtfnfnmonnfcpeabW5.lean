import Derived.Test.YtfnfnmonnfcpeabW4
import Derived.Test.YtfnfnmonnfcpeabPure2
namespace Go.Proofs.Ytfnfnmonnfcpeab
open Go.RowKit
set_option maxRecDepth 20000

theorem int_cells {w : World} {g : Nat} {xs : List Int} {k : IntKind} (h : ∀ (j : Nat) (u : Value), (xs.map (Value.int k))[j]? = some u → w.cell? ⟨g, j, none⟩ = some u) (j : Nat) (x : Int) (hj : xs[j]? = some x) : w.cell? ⟨g, j, none⟩ = some (.int k x) :=
  h j _ (by simp [hj])

set_option maxHeartbeats 400000 in
theorem div_any (d : Nat) (v : Value) (base : Nat) (xs : List Int) (y : Int) (w : World) (h1 : 1 ≤ d) (h4 : d ≤ 4) (hx : 1 ≤ xs.length) (hx' : xs.length ≤ 10)
    (hv : w.ownsRow base 3 1 v xs.length (xs.map (Value.int .i64))) :
    Calls Try.prog 76 #[.agg #[.int .i64 d, .int .i64 (Sh.mod d)], v, .int .i64 y] w
      fun e w' => ∃ v', e = .returned v' ∧ w'.ownsRow w.heap.size 3 1 v' xs.length ((Sh.div d (Sh.mod d) y xs).map (Value.int .i64)) ∧ Below w.heap.size w w' := by
  have Ho := over_any d
  have HO : Hid (∀ (a b : Int) (w : World), 1 ≤ d → d ≤ 4 → Calls Try.prog 71 #[.agg #[.int .i64 d, .int .i64 (Sh.mod d)], .int .i64 a, .int .i64 b] w fun e w' => e = .returned (.int .i64 (Sh.over d (Sh.mod d) a b)) ∧ Below w.heap.size w w') := Ho
  clear Ho
  generalize hm : Sh.mod d = m at *
  clear hm
  obtain ⟨i0, hi, hz0, hz1, hz2⟩ := info_parts Try.infoInt
  obtain ⟨g, cap, rfl, _, hg, hcap, hcells⟩ := own_form hv hx
  have HC := int_cells hcells
  have HCC : Hid (∀ (j : Nat) (x : Int), xs[j]? = some x → w.cell? ⟨g, j, none⟩ = some (.int .i64 x)) := HC
  clear HC hcells hv
  generalize hL : xs.length = L at *
  have HL : Hid (xs.length = L) := hL
  clear hL
  go_enter Try.func76, Try.ntmps76
  go_wp2
  go_loopw [7, 9, 10, 14] (fun v _ _ i' wr => ∃ k : Nat, k ≤ L ∧ i' = .int .i64 k ∧ wr.ownsRow (w.heap.size + 1) 3 1 v k ((Sh.div d m y (xs.take k)).map (Value.int .i64)) ∧
     Below (w.heap.size + 1) (w.alloc (.cells #[.int .i64 d, .int .i64 m] 109)) wr) (fun _ _ _ i _ => L - (intOf i).toNat)
  case atStart =>
    refine ⟨0, Nat.zero_le _, rfl, ?_, (Below.refl _ _).alloc (by simp) _⟩
    exact own_empty (by simp) (by omega)
  case round =>
    obtain ⟨k, hk, rfl, hown, hbl⟩ := hrel
    have hc0 := box_cell hbl (by simp) 0 rfl
    have hc1 := box_cell hbl (by simp) 1 rfl
    have hsz := box_size hbl
    by_cases hlt : k < L
    · have hlx : k < xs.length := by rw [HL.out]; exact hlt
      have hck : wr.cell? ⟨g, k, none⟩ = some (.int .i64 xs[k]) := by
        rw [hbl.cell (p := ⟨g, k, none⟩) (by simp; omega)]
        exact cell_later ((Below.refl _ _).alloc (Nat.le_refl _) _) (HCC.out k _ (List.getElem?_eq_getElem hlx))
      have HS : Hid _ := Sh.div_snoc d m y xs k hlx
      generalize hx0 : xs[k] = x0 at *
      clear hx0
      go_wp2_with (first | (go_at_call 71; refine (HO.out _ _ _ h1 h4).mono ?_; rintro e w1 ⟨rfl, hb1⟩; have hown1 := own_below hown hb1; have hs1 := hb1.size) | (at_builtin; refine append1 _ rfl (.tmp 22) (.tmp 24) 63 rfl (w.heap.size + 1) 3 i0 (.int .i64 0) 8 Try.underlying63 hi hz0 hz1 hz2 rfl (by decide) _ _ _ _ rfl hown1 rfl rfl (by omega) (by omega) ?_; intro v' w2 hown2 hb2))
      go_roundw
      case rel => exact ⟨k + 1, by omega, by go_num, by rw [HS.out, List.map_append]; exact hown2, (hbl.trans (hb1.mono (by omega))).trans hb2⟩
      case measure => simp [intOf]; omega
    · have hkd : k = L := by omega
      subst hkd
      go_wp2
      go_ret
      exact ⟨_, rfl, by rw [List.take_of_length_le (by rw [HL.out]; omega)] at hown; exact own_mono hown (by omega), ((Below.refl _ _).alloc (Nat.le_refl _) _).trans (hbl.mono (by omega))⟩

set_option maxHeartbeats 400000 in
theorem sum_any (d : Nat) (v : Value) (base : Nat) (xs : List Int) (w : World) (h1 : 1 ≤ d) (h4 : d ≤ 4) (hx : 1 ≤ xs.length) (hx' : xs.length ≤ 10) (hin : ∀ x ∈ xs, Sh.In d x)
    (hv : w.ownsRow base 3 1 v xs.length (xs.map (Value.int .i64))) :
    Calls Try.prog 77 #[.agg #[.int .i64 d, .int .i64 (Sh.mod d)], v] w
      fun e w' => e = .returned (.int .i64 (Sh.sumOnes d (Sh.mod d) xs)) ∧ Below w.heap.size w w' := by
  have HO : Hid (∀ (a : Int) (w : World), Sh.In d a → Calls Try.prog 79 #[.agg #[.int .i64 d, .int .i64 (Sh.mod d)], .int .i64 a] w fun e w' => e = .returned (.int .i64 (Sh.ones d (Sh.mod d) a)) ∧ Below w.heap.size w w') := fun a w h => ones_any d a w h1 h4 h
  have HB : Hid (∀ k, 0 ≤ Sh.sumOnes d (Sh.mod d) (xs.take k) ∧ Sh.sumOnes d (Sh.mod d) (xs.take k) ≤ 160) := fun k => by
    have := Sh.sum_le h1 h4 (xs.take k) (fun x hx => hin x (List.mem_of_mem_take hx))
    have h2 : (xs.take k).length ≤ xs.length := by simp; omega
    omega
  have HB1 : Hid (∀ x ∈ xs, 0 ≤ Sh.ones d (Sh.mod d) x ∧ Sh.ones d (Sh.mod d) x ≤ 16) := fun x hx => Sh.ones_le h1 h4 (hin x hx)
  have HI : Hid (∀ x ∈ xs, Sh.In d x) := hin
  clear hin
  generalize hm : Sh.mod d = m at *
  clear hm
  obtain ⟨g, cap, rfl, _, hg, hcap, hcells⟩ := own_form hv hx
  have HC := int_cells hcells
  have HCC : Hid (∀ (j : Nat) (x : Int), xs[j]? = some x → w.cell? ⟨g, j, none⟩ = some (.int .i64 x)) := HC
  clear HC hcells hv
  generalize hL : xs.length = L at *
  have HL : Hid (xs.length = L) := hL
  clear hL
  go_enter Try.func77, Try.ntmps77
  go_wp2
  go_loopw [5, 7, 10] (fun o _ i' wr => ∃ k : Nat, k ≤ L ∧ i' = .int .i64 k ∧ o = .int .i64 (Sh.sumOnes d m (xs.take k)) ∧
     Below (w.heap.size + 1) (w.alloc (.cells #[.int .i64 d, .int .i64 m] 109)) wr) (fun _ _ i _ => L - (intOf i).toNat)
  case atStart => exact ⟨0, Nat.zero_le _, rfl, rfl, Below.refl _ _⟩
  case round =>
    obtain ⟨k, hk, rfl, rfl, hbl⟩ := hrel
    have hc0 := box_cell hbl (by simp) 0 rfl
    have hc1 := box_cell hbl (by simp) 1 rfl
    have hsz := box_size hbl
    have hb0 := HB.out k
    by_cases hlt : k < L
    · have hlx : k < xs.length := by rw [HL.out]; exact hlt
      have hck : wr.cell? ⟨g, k, none⟩ = some (.int .i64 xs[k]) := by
        rw [hbl.cell (p := ⟨g, k, none⟩) (by simp; omega)]
        exact cell_later ((Below.refl _ _).alloc (Nat.le_refl _) _) (HCC.out k _ (List.getElem?_eq_getElem hlx))
      have HS : Hid _ := Sh.sum_snoc d m xs k hlx
      have hin := HI.out xs[k] (List.getElem_mem _)
      have hb1' := HB1.out xs[k] (List.getElem_mem _)
      generalize hx0 : xs[k] = x0 at *
      generalize hs0 : Sh.sumOnes d m (xs.take k) = s0 at *
      clear hx0 hs0
      go_wp2_with (go_at_call 79; refine (HO.out _ _ hin).mono ?_; rintro e w1 ⟨rfl, hb1⟩)
      go_roundw
      case rel => exact ⟨k + 1, by omega, by go_num, val_int HS.out.symm, hbl.trans (hb1.mono (by omega))⟩
      case measure => simp [intOf]; omega
    · have hkd : k = L := by omega
      subst hkd
      go_wp2
      go_ret
      exact ⟨ret_int (by rw [List.take_of_length_le (by rw [HL.out]; omega)]), ((Below.refl _ _).alloc (Nat.le_refl _) _).trans (hbl.mono (by omega))⟩

end Go.Proofs.Ytfnfnmonnfcpeab
