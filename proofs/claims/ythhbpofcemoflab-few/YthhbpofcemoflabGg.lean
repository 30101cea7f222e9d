import Derived.Test.YthhbpofcemoflabGf
import Derived.Test.YthhbpofcemoflabGa
namespace Go.Proofs.Ythhbpofcemoflab
open Go.RowKit
set_option maxRecDepth 20000

theorem Try.infoInt : (Try.prog.info? 3).map (fun i => (i.zero, i.size, i.bytes)) = some (some (.int .i64 0), 1, 8) := by kernel_rfl
theorem Try.infoU64 : (Try.prog.info? 94).map (fun i => (i.zero, i.size, i.bytes)) = some (some (.int .u64 0), 1, 8) := by kernel_rfl

set_option maxHeartbeats 400000 in
theorem ces_any (d K : Nat) (kind M N good i : Int) (w : World) (h1 : 1 ≤ d) (h4 : d ≤ 4) (hK : 1 ≤ K) (hK' : K ≤ 10) (hM : 0 ≤ M) (hM' : M ≤ 10) :
    Calls Try.prog 85 #[.agg #[.int .i64 d, .int .i64 (Sh.mod d)], .agg #[.int .i64 kind, .int .i64 K, .int .i64 M, .int .i64 N, .int .i64 good], .int .i64 i] w
      fun e w' => ∃ v, e = .returned v ∧ w'.ownsRow w.heap.size 3 1 v K ((Sh.ces d (Sh.mod d) M i K).map (Value.int .i64)) ∧ Below w.heap.size w w' := by
  have Ho := over_any d
  have HO : Hid (∀ (a b : Int) (w : World), 1 ≤ d → d ≤ 4 → Calls Try.prog 92 #[.agg #[.int .i64 d, .int .i64 (Sh.mod d)], .int .i64 a, .int .i64 b] w fun e w' => e = .returned (.int .i64 (Sh.over d (Sh.mod d) a b)) ∧ Below w.heap.size w w') := Ho
  clear Ho
  generalize hm : Sh.mod d = m at *
  clear hm
  obtain ⟨i0, hi, hz0, hz1, hz2⟩ := info_parts Try.infoInt
  go_enter Try.func85, Try.ntmps85
  go_wp2
  go_loopw [7, 9, 13] (fun v _ i' wr => ∃ k : Nat, k ≤ K ∧ i' = .int .i64 k ∧ wr.ownsRow (w.heap.size + 2) 3 1 v k ((Sh.ces d m M i k).map (Value.int .i64)) ∧
     Below (w.heap.size + 2) ((w.alloc (.cells #[.int .i64 d, .int .i64 m] 129)).alloc (.cells #[.int .i64 kind, .int .i64 K, .int .i64 M, .int .i64 N, .int .i64 good] 25)) wr) (fun _ _ i _ => K - (intOf i).toNat)
  case atStart =>
    refine ⟨0, Nat.zero_le _, rfl, ?_, (Below.refl _ _).alloc (by simp) _⟩
    exact own_empty (by simp) (by omega)
  case round =>
    obtain ⟨k, hk, rfl, hown, hbl⟩ := hrel
    have hc0 := box_cell2 hbl (by simp) 0 rfl
    have hc1 := box_cell2 hbl (by simp) 1 rfl
    have hd1 := box_cell2b hbl (by simp) 1 rfl
    have hd2 := box_cell2b hbl (by simp) 2 rfl
    have hsz := box_size2 hbl
    by_cases hlt : k < K
    · go_wp2_with (first | (go_at_call 92; refine (HO.out _ _ _ h1 h4).mono ?_; rintro e w1 ⟨rfl, hb1⟩; have hown1 := own_below hown hb1; have hs1 := hb1.size) | (at_builtin; refine append1 _ rfl (.tmp 24) (.tmp 26) 63 rfl (w.heap.size + 2) 3 i0 (.int .i64 0) 8 Try.underlying63 hi hz0 hz1 hz2 rfl (by decide) _ _ _ _ rfl hown1 rfl rfl (by omega) (by omega) ?_; intro v' w2 hown2 hb2))
      go_roundw
      case rel => exact ⟨k + 1, by omega, by go_num, by rw [Sh.ces_succ, List.map_append]; exact hown2, (hbl.trans (hb1.mono (by omega))).trans hb2⟩
      case measure => simp [intOf]; omega
    · have hkd : k = K := by omega
      subst hkd
      go_wp2
      go_ret
      exact ⟨_, rfl, own_mono hown (by omega), (((Below.refl _ _).alloc (Nat.le_refl _) _).alloc (by simp) _).trans (hbl.mono (by omega))⟩

end Go.Proofs.Ythhbpofcemoflab
namespace Go.Proofs.Ythhbpofcemoflab
open Go.RowKit
set_option maxRecDepth 20000

theorem int_cells {w : World} {g : Nat} {xs : List Int} {k : IntKind} (h : ∀ (j : Nat) (u : Value), (xs.map (Value.int k))[j]? = some u → w.cell? ⟨g, j, none⟩ = some u) (j : Nat) (x : Int) (hj : xs[j]? = some x) : w.cell? ⟨g, j, none⟩ = some (.int k x) :=
  h j _ (by simp [hj])

set_option maxHeartbeats 400000 in
theorem div_any (d : Nat) (v : Value) (base : Nat) (xs : List Int) (y : Int) (w : World) (h1 : 1 ≤ d) (h4 : d ≤ 4) (hx : 1 ≤ xs.length) (hx' : xs.length ≤ 10)
    (hv : w.ownsRow base 3 1 v xs.length (xs.map (Value.int .i64))) :
    Calls Try.prog 97 #[.agg #[.int .i64 d, .int .i64 (Sh.mod d)], v, .int .i64 y] w
      fun e w' => ∃ v', e = .returned v' ∧ w'.ownsRow w.heap.size 3 1 v' xs.length ((Sh.div d (Sh.mod d) y xs).map (Value.int .i64)) ∧ Below w.heap.size w w' := by
  have Ho := over_any d
  have HO : Hid (∀ (a b : Int) (w : World), 1 ≤ d → d ≤ 4 → Calls Try.prog 92 #[.agg #[.int .i64 d, .int .i64 (Sh.mod d)], .int .i64 a, .int .i64 b] w fun e w' => e = .returned (.int .i64 (Sh.over d (Sh.mod d) a b)) ∧ Below w.heap.size w w') := Ho
  clear Ho
  generalize hm : Sh.mod d = m at *
  clear hm
  obtain ⟨i0, hi, hz0, hz1, hz2⟩ := info_parts Try.infoInt
  obtain ⟨g, cap, rfl, _, hg, hcap, hcells⟩ := own_form hv hx
  have HC := int_cells hcells
  have HCC : Hid (∀ (j : Nat) (x : Int), xs[j]? = some x → w.cell? ⟨g, j, none⟩ = some (.int .i64 x)) := HC
  clear HC hcells hv
  generalize hL : xs.length = L at *
  have HL : Hid (xs.length = L) := hL
  clear hL
  go_enter Try.func97, Try.ntmps97
  go_wp2
  go_loopw [7, 9, 10, 14] (fun v _ _ i' wr => ∃ k : Nat, k ≤ L ∧ i' = .int .i64 k ∧ wr.ownsRow (w.heap.size + 1) 3 1 v k ((Sh.div d m y (xs.take k)).map (Value.int .i64)) ∧
     Below (w.heap.size + 1) (w.alloc (.cells #[.int .i64 d, .int .i64 m] 129)) wr) (fun _ _ _ i _ => L - (intOf i).toNat)
  case atStart =>
    refine ⟨0, Nat.zero_le _, rfl, ?_, (Below.refl _ _).alloc (by simp) _⟩
    exact own_empty (by simp) (by omega)
  case round =>
    obtain ⟨k, hk, rfl, hown, hbl⟩ := hrel
    have hc0 := box_cell hbl (by simp) 0 rfl
    have hc1 := box_cell hbl (by simp) 1 rfl
    have hsz := box_size hbl
    by_cases hlt : k < L
    · have hlx : k < xs.length := by rw [HL.out]; exact hlt
      have hck : wr.cell? ⟨g, k, none⟩ = some (.int .i64 xs[k]) := by
        rw [hbl.cell (p := ⟨g, k, none⟩) (by simp; omega)]
        exact cell_later ((Below.refl _ _).alloc (Nat.le_refl _) _) (HCC.out k _ (List.getElem?_eq_getElem hlx))
      have HS : Hid _ := Sh.div_snoc d m y xs k hlx
      generalize hx0 : xs[k] = x0 at *
      clear hx0
      go_wp2_with (first | (go_at_call 92; refine (HO.out _ _ _ h1 h4).mono ?_; rintro e w1 ⟨rfl, hb1⟩; have hown1 := own_below hown hb1; have hs1 := hb1.size) | (at_builtin; refine append1 _ rfl (.tmp 22) (.tmp 24) 63 rfl (w.heap.size + 1) 3 i0 (.int .i64 0) 8 Try.underlying63 hi hz0 hz1 hz2 rfl (by decide) _ _ _ _ rfl hown1 rfl rfl (by omega) (by omega) ?_; intro v' w2 hown2 hb2))
      go_roundw
      case rel => exact ⟨k + 1, by omega, by go_num, by rw [HS.out, List.map_append]; exact hown2, (hbl.trans (hb1.mono (by omega))).trans hb2⟩
      case measure => simp [intOf]; omega
    · have hkd : k = L := by omega
      subst hkd
      go_wp2
      go_ret
      exact ⟨_, rfl, by rw [List.take_of_length_le (by rw [HL.out]; omega)] at hown; exact own_mono hown (by omega), ((Below.refl _ _).alloc (Nat.le_refl _) _).trans (hbl.mono (by omega))⟩

set_option maxHeartbeats 400000 in
theorem sum_any (d : Nat) (v : Value) (base : Nat) (xs : List Int) (w : World) (h1 : 1 ≤ d) (h4 : d ≤ 4) (hx : 1 ≤ xs.length) (hx' : xs.length ≤ 10) (hin : ∀ x ∈ xs, Sh.In d x)
    (hv : w.ownsRow base 3 1 v xs.length (xs.map (Value.int .i64))) :
    Calls Try.prog 98 #[.agg #[.int .i64 d, .int .i64 (Sh.mod d)], v] w
      fun e w' => e = .returned (.int .i64 (Sh.sumOnes d (Sh.mod d) xs)) ∧ Below w.heap.size w w' := by
  have HO : Hid (∀ (a : Int) (w : World), Sh.In d a → Calls Try.prog 100 #[.agg #[.int .i64 d, .int .i64 (Sh.mod d)], .int .i64 a] w fun e w' => e = .returned (.int .i64 (Sh.ones d (Sh.mod d) a)) ∧ Below w.heap.size w w') := fun a w h => ones_any d a w h1 h4 h
  have HB : Hid (∀ k, 0 ≤ Sh.sumOnes d (Sh.mod d) (xs.take k) ∧ Sh.sumOnes d (Sh.mod d) (xs.take k) ≤ 160) := fun k => by
    have := Sh.sum_le h1 h4 (xs.take k) (fun x hx => hin x (List.mem_of_mem_take hx))
    have h2 : (xs.take k).length ≤ xs.length := by simp; omega
    omega
  have HB1 : Hid (∀ x ∈ xs, 0 ≤ Sh.ones d (Sh.mod d) x ∧ Sh.ones d (Sh.mod d) x ≤ 16) := fun x hx => Sh.ones_le h1 h4 (hin x hx)
  have HI : Hid (∀ x ∈ xs, Sh.In d x) := hin
  clear hin
  generalize hm : Sh.mod d = m at *
  clear hm
  obtain ⟨g, cap, rfl, _, hg, hcap, hcells⟩ := own_form hv hx
  have HC := int_cells hcells
  have HCC : Hid (∀ (j : Nat) (x : Int), xs[j]? = some x → w.cell? ⟨g, j, none⟩ = some (.int .i64 x)) := HC
  clear HC hcells hv
  generalize hL : xs.length = L at *
  have HL : Hid (xs.length = L) := hL
  clear hL
  go_enter Try.func98, Try.ntmps98
  go_wp2
  go_loopw [5, 7, 10] (fun o _ i' wr => ∃ k : Nat, k ≤ L ∧ i' = .int .i64 k ∧ o = .int .i64 (Sh.sumOnes d m (xs.take k)) ∧
     Below (w.heap.size + 1) (w.alloc (.cells #[.int .i64 d, .int .i64 m] 129)) wr) (fun _ _ i _ => L - (intOf i).toNat)
  case atStart => exact ⟨0, Nat.zero_le _, rfl, rfl, Below.refl _ _⟩
  case round =>
    obtain ⟨k, hk, rfl, rfl, hbl⟩ := hrel
    have hc0 := box_cell hbl (by simp) 0 rfl
    have hc1 := box_cell hbl (by simp) 1 rfl
    have hsz := box_size hbl
    have hb0 := HB.out k
    by_cases hlt : k < L
    · have hlx : k < xs.length := by rw [HL.out]; exact hlt
      have hck : wr.cell? ⟨g, k, none⟩ = some (.int .i64 xs[k]) := by
        rw [hbl.cell (p := ⟨g, k, none⟩) (by simp; omega)]
        exact cell_later ((Below.refl _ _).alloc (Nat.le_refl _) _) (HCC.out k _ (List.getElem?_eq_getElem hlx))
      have HS : Hid _ := Sh.sum_snoc d m xs k hlx
      have hin := HI.out xs[k] (List.getElem_mem _)
      have hb1' := HB1.out xs[k] (List.getElem_mem _)
      generalize hx0 : xs[k] = x0 at *
      generalize hs0 : Sh.sumOnes d m (xs.take k) = s0 at *
      clear hx0 hs0
      go_wp2_with (go_at_call 100; refine (HO.out _ _ hin).mono ?_; rintro e w1 ⟨rfl, hb1⟩)
      go_roundw
      case rel => exact ⟨k + 1, by omega, by go_num, val_int HS.out.symm, hbl.trans (hb1.mono (by omega))⟩
      case measure => simp [intOf]; omega
    · have hkd : k = L := by omega
      subst hkd
      go_wp2
      go_ret
      exact ⟨ret_int (by rw [List.take_of_length_le (by rw [HL.out]; omega)]), ((Below.refl _ _).alloc (Nat.le_refl _) _).trans (hbl.mono (by omega))⟩

end Go.Proofs.Ythhbpofcemoflab
namespace Go.Proofs.Ythhbpofcemoflab
open Go.RowKit
set_option maxRecDepth 20000

set_option maxHeartbeats 400000 in
theorem light_any (d : Nat) (v : Value) (base : Nat) (xs : List Int) (w : World) (h1 : 1 ≤ d) (h4 : d ≤ 4) (hx : 1 ≤ xs.length) (hx' : xs.length ≤ 10)
    (hv : w.ownsRow base 3 1 v xs.length (xs.map (Value.int .i64))) :
    Calls Try.prog 94 #[.agg #[.int .i64 d, .int .i64 (Sh.mod d)], v] w
      fun e w' => ∃ v', e = .returned v' ∧ w'.ownsRow w.heap.size 3 1 v' xs.length ((Sh.lightest d (Sh.mod d) xs).map (Value.int .i64)) ∧ Below w.heap.size w w' := by
  have HD : Hid (∀ (y : Int) (wx : World), wx.ownsRow base 3 1 v xs.length (xs.map (Value.int .i64)) → Calls Try.prog 97 #[.agg #[.int .i64 d, .int .i64 (Sh.mod d)], v, .int .i64 y] wx
      fun e w' => ∃ v', e = .returned v' ∧ w'.ownsRow wx.heap.size 3 1 v' xs.length ((Sh.div d (Sh.mod d) y xs).map (Value.int .i64)) ∧ Below wx.heap.size wx w') := fun y wx h => div_any d v base xs y wx h1 h4 hx hx' h
  have HO : Hid (∀ (v : Value) (base : Nat) (y : Int) (w : World), w.ownsRow base 3 1 v xs.length ((Sh.div d (Sh.mod d) y xs).map (Value.int .i64)) → Calls Try.prog 98 #[.agg #[.int .i64 d, .int .i64 (Sh.mod d)], v] w
      fun e w' => e = .returned (.int .i64 (Sh.sumOnes d (Sh.mod d) (Sh.div d (Sh.mod d) y xs))) ∧ Below w.heap.size w w') := fun v base y w h =>
    sum_any d v base (Sh.div d (Sh.mod d) y xs) w h1 h4 (by rw [Sh.div_len]; exact hx) (by rw [Sh.div_len]; exact hx') (Sh.in_div y xs) (by rw [Sh.div_len]; exact h)
  generalize hm : Sh.mod d = m at *
  clear hm
  obtain ⟨g, cap, rfl, _, hg, hcap, hcells⟩ := own_form hv hx
  have HC := int_cells hcells
  have HCC : Hid (∀ (j : Nat) (x : Int), xs[j]? = some x → w.cell? ⟨g, j, none⟩ = some (.int .i64 x)) := HC
  clear HC hcells
  generalize hL : xs.length = L at *
  have HL : Hid (xs.length = L) := hL
  clear hL
  go_enter Try.func94, Try.ntmps94
  go_wp2_with (first | (go_at_call 97; refine (HD.out _ _ (hv.alloc _)).mono ?_; rintro e w1 ⟨v1, rfl, hown1, hb1⟩; have hk0 := box_cell ((Below.refl _ _).trans hb1) (by simp) 0 rfl; have hk1 := box_cell ((Below.refl _ _).trans hb1) (by simp) 1 rfl) | (go_at_call 98; refine (HO.out _ _ _ _ hown1).mono ?_; rintro e w2 ⟨rfl, hb2⟩))
  have hown2 := own_below hown1 hb2
  have hbl0 : Below (w.heap.size + 1) (w.alloc (.cells #[.int .i64 d, .int .i64 m] 129)) w2 := (hb1.mono (by simp)).trans (hb2.mono (by have := hb1.size; simp at this; omega))
  clear hb1 hb2 hown1 hk0 hk1
  have hown2 := own_mono hown2 (base' := w.heap.size + 1) (by simp)
  go_loopw [5, 6, 8, 9, 10, 19] (fun b f _ _ _ i' wr => ∃ (k : Nat) (y : Int), k ≤ L ∧ i' = .int .i64 k ∧ wr.ownsRow (w.heap.size + 1) 3 1 b L ((Sh.div d m y xs).map (Value.int .i64)) ∧ f = .int .i64 (Sh.sumOnes d m (Sh.div d m y xs)) ∧
     Sh.lightS d m xs k = (Sh.div d m y xs, Sh.sumOnes d m (Sh.div d m y xs)) ∧ Below (w.heap.size + 1) (w.alloc (.cells #[.int .i64 d, .int .i64 m] 129)) wr) (fun _ _ _ _ _ i _ => L - (intOf i).toNat)
  case atStart => exact ⟨0, 1, Nat.zero_le _, rfl, hown2, rfl, rfl, hbl0⟩
  case round =>
    obtain ⟨k, y, hk, rfl, hown, rfl, hS, hbl⟩ := hrel
    have HS : Hid _ := hS
    clear hS hown2 hbl0
    have hc0 := box_cell hbl (by simp) 0 rfl
    have hc1 := box_cell hbl (by simp) 1 rfl
    have hsz := box_size hbl
    have hvr : wr.ownsRow base 3 1 (.slice (some ⟨g, 0, none⟩) L cap) L (xs.map (Value.int .i64)) := own_below (hv.alloc _) (hbl.mono (by simp))
    by_cases hlt : k < L
    · have hlx : k < xs.length := by rw [HL.out]; exact hlt
      have hck : wr.cell? ⟨g, k, none⟩ = some (.int .i64 xs[k]) := by
        rw [hbl.cell (p := ⟨g, k, none⟩) (by simp; omega)]
        exact cell_later ((Below.refl _ _).alloc (Nat.le_refl _) _) (HCC.out k _ (List.getElem?_eq_getElem hlx))
      have HT : Hid (Sh.sumOnes d m (Sh.div d m xs[k] xs) < Sh.sumOnes d m (Sh.div d m y xs) → Sh.lightS d m xs (k + 1) = (Sh.div d m xs[k] xs, Sh.sumOnes d m (Sh.div d m xs[k] xs))) := fun h => Sh.lightS_t hlx (by rw [HS.out]; exact h)
      have HF : Hid (¬ Sh.sumOnes d m (Sh.div d m xs[k] xs) < Sh.sumOnes d m (Sh.div d m y xs) → Sh.lightS d m xs (k + 1) = (Sh.div d m y xs, Sh.sumOnes d m (Sh.div d m y xs))) := fun h => (Sh.lightS_f hlx (by rw [HS.out]; exact h)).trans HS.out
      generalize hx0 : xs[k] = x0 at *
      clear hx0
      by_cases hlight : Sh.sumOnes d m (Sh.div d m x0 xs) < Sh.sumOnes d m (Sh.div d m y xs)
      all_goals
        go_wp2_with (first | (go_at_call 97; refine (HD.out _ _ hvr).mono ?_; rintro e w1 ⟨v1, rfl, hown1, hb1⟩; have hk0 := (hb1.cell (p := ⟨w.heap.size, 0, none⟩) hsz).trans hc0; have hk1 := (hb1.cell (p := ⟨w.heap.size, 1, none⟩) hsz).trans hc1; have hs1 := hb1.size) | (go_at_call 98; refine (HO.out _ _ _ _ hown1).mono ?_; rintro e w2 ⟨rfl, hb2⟩))
        go_roundw
        case rel => first | exact ⟨k + 1, x0, by omega, by go_num, own_mono (own_below hown1 hb2) (by omega), rfl, HT.out hlight, (hbl.trans (hb1.mono (by omega))).trans (hb2.mono (by omega))⟩ | exact ⟨k + 1, y, by omega, by go_num, own_below (own_below hown hb1) hb2, rfl, HF.out hlight, (hbl.trans (hb1.mono (by omega))).trans (hb2.mono (by omega))⟩
        case measure => simp [intOf]; omega
    · have hkd : k = L := by omega
      subst hkd
      go_wp2
      go_ret
      refine ⟨_, rfl, ?_, ((Below.refl _ _).alloc (Nat.le_refl _) _).trans (hbl.mono (by omega))⟩
      have he := Sh.lightS_end d m xs
      rw [HL.out, HS.out] at he
      rw [← he]
      exact own_mono hown (by omega)

set_option maxHeartbeats 400000 in
theorem bit_any (d : Nat) (v : Value) (base : Nat) (xs : List Int) (r : Nat) (w : World) (h1 : 1 ≤ d) (h4 : d ≤ 4) (hr : r ≤ 3) (hx : 1 ≤ xs.length) (hx' : xs.length ≤ 10) (hin : ∀ x ∈ xs, Sh.In d x)
    (hv : w.ownsRow base 3 1 v xs.length (xs.map (Value.int .i64))) :
    Calls Try.prog 87 #[.agg #[.int .i64 d, .int .i64 (Sh.mod d)], .int .i64 d, v, .int .i64 r] w
      fun e w' => e = .returned (.int .u64 (Sh.bitRow d (Sh.mod d) d r xs)) ∧ Below w.heap.size w w' := by
  have HO : Hid (∀ (a b : Int) (w : World), Sh.In d a → Calls Try.prog 93 #[.agg #[.int .i64 d, .int .i64 (Sh.mod d)], .int .i64 a, .int .i64 b] w fun e w' => e = .returned (.int .i64 (Sh.times d (Sh.mod d) a b)) ∧ Below w.heap.size w w') := fun a b w h => times_any d a b w h1 h4 h
  have HI : Hid (∀ x ∈ xs, Sh.In d x) := hin
  clear hin
  generalize hm : Sh.mod d = m at *
  clear hm
  obtain ⟨g, cap, rfl, _, hg, hcap, hcells⟩ := own_form hv hx
  have HC := int_cells hcells
  have HCC : Hid (∀ (j : Nat) (x : Int), xs[j]? = some x → w.cell? ⟨g, j, none⟩ = some (.int .i64 x)) := HC
  clear HC hcells hv
  generalize hL : xs.length = L at *
  have HL : Hid (xs.length = L) := hL
  clear hL
  go_enter Try.func87, Try.ntmps87
  go_wp2
  go_loopw [9, 10, 11, 12, 13, 16] (fun s _ _ _ _ i' wr => ∃ (k : Nat), k ≤ L ∧ i' = .int .i64 k ∧ s = .int .u64 (Sh.br d m d r xs k) ∧
     Below (w.heap.size + 1) (w.alloc (.cells #[.int .i64 d, .int .i64 m] 129)) wr) (fun _ _ _ _ _ i _ => L - (intOf i).toNat)
  case atStart => exact ⟨0, Nat.zero_le _, rfl, rfl, Below.refl _ _⟩
  case round =>
    obtain ⟨k, hk, rfl, rfl, hbl⟩ := hrel
    have hc0 := box_cell hbl (by simp) 0 rfl
    have hc1 := box_cell hbl (by simp) 1 rfl
    have hsz := box_size hbl
    by_cases hlt : k < L
    · have hlx : k < xs.length := by rw [HL.out]; exact hlt
      have hck : wr.cell? ⟨g, k, none⟩ = some (.int .i64 xs[k]) := by
        rw [hbl.cell (p := ⟨g, k, none⟩) (by simp; omega)]
        exact cell_later ((Below.refl _ _).alloc (Nat.le_refl _) _) (HCC.out k _ (List.getElem?_eq_getElem hlx))
      have hin := HI.out xs[k] (List.getElem_mem _)
      have HS : Hid (Sh.br d m d r xs (k + 1) = Sh.brI d m xs[k] k d r (Sh.br d m d r xs k) d) := by
        show Sh.brI d m (xs.getD k 0) k d r (Sh.br d m d r xs k) d = _
        rw [List.getD_eq_getElem?_getD, List.getElem?_eq_getElem hlx]; rfl
      generalize hx0 : xs[k] = x0 at *
      generalize hs0 : Sh.br d m d r xs k = s0 at *
      clear hx0 hs0
      have hkd : 0 ≤ (k : Int) * (d : Int) ∧ (k : Int) * (d : Int) ≤ 40 := ⟨Int.mul_nonneg (by omega) (by omega), by
        have : (k : Int) * d ≤ 10 * 4 := Int.mul_le_mul (by omega) (by omega) (by omega) (by omega)
        omega⟩
      go_wp2
      go_loopw [9, 12, 13, 22] (fun s _ _ i' wr' => ∃ (c : Nat), c ≤ d ∧ i' = .int .i64 c ∧ s = .int .u64 (Sh.brI d m x0 k d r s0 c) ∧ Below wr.heap.size wr wr') (fun _ _ _ i _ => d - (intOf i).toNat)
      case atStart => exact ⟨0, Nat.zero_le _, rfl, rfl, Below.refl _ _⟩
      case round =>
        obtain ⟨c, hc, rfl, rfl, hbc⟩ := hrel
        have hc0' := (hbc.cell (p := ⟨w.heap.size, 0, none⟩) hsz).trans hc0
        have hc1' := (hbc.cell (p := ⟨w.heap.size, 1, none⟩) hsz).trans hc1
        have hsz' := hbc.size
        by_cases hlc : c < d
        · go_wp2_with (go_at_call 93; refine (HO.out _ _ _ hin).mono ?_; rintro e w1 ⟨rfl, hb1⟩)
          all_goals
            go_roundw
            case rel => exact ⟨c + 1, by omega, by go_num, by first | exact val_int (Sh.brI_t (by assumption)).symm | exact val_int (Sh.brI_f (by assumption)).symm, hbc.trans (hb1.mono (by omega))⟩
            case measure => simp [intOf]; omega
        · have hcd : c = d := by omega
          subst hcd
          go_wp2
          go_roundw
          case rel => exact ⟨k + 1, by omega, by go_num, val_int HS.out.symm, hbl.trans (hbc.mono (by omega))⟩
          case measure => simp [intOf]; omega
    · have hkd : k = L := by omega
      subst hkd
      go_wp2
      go_ret
      exact ⟨ret_int (by rw [Sh.bitRow, HL.out]), ((Below.refl _ _).alloc (Nat.le_refl _) _).trans (hbl.mono (by omega))⟩
end Go.Proofs.Ythhbpofcemoflab
