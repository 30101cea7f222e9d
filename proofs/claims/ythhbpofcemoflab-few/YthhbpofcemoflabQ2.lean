import Derived.Test.YthhbpofcemoflabQ1
namespace Go.Proofs.Ythhbpofcemoflab
open Go.RowKit
set_option maxRecDepth 20000

structure Sh.U64 (s : Nat) : Prop where
  lt : s < 2 ^ 64
set_option maxHeartbeats 2000000 in
theorem cheapest_ok (v : Value) (base : Nat) (ws : List (Bool × Int × Nat)) (w : World) (hL1 : 1 ≤ ws.length) (hL : ws.length ≤ 40) (hs : ∀ x ∈ ws, x.2.2 < 2 ^ 64) (hv : w.ownsRow base 120 3 v ws.length (Sh.wayC ws)) :
    Calls Try.prog 78 #[v] w fun e w' => e = .returned (.int .i64 (Sh.cheap ws ws.length)) ∧ Below w.heap.size w w' := by
  obtain ⟨g, cap, rfl, _, hgw⟩ := own_form3 hv hL1
  have HC := hide (fun (j : Nat) (u : Value) (hu : (Sh.wayC ws)[j]? = some u) => own_cells hv j u hu)
  have HX := hide (fun (mk : Bool) (f : Int) (s : Nat) (w : World) (hs : Sh.U64 s) => xorsW_ok mk f s w hs.lt)
  have HU := hide (fun (x : Bool × Int × Nat) (hx : x ∈ ws) => (⟨hs x hx⟩ : Sh.U64 x.2.2))
  have HN := hide (fun (k : Nat) => Sh.cheap_new (ws := ws) (k := k))
  have HO := hide (fun (k : Nat) => Sh.cheap_old (ws := ws) (k := k))
  obtain ⟨W, hW⟩ : ∃ W : Int → Nat → Nat, W = Sh.wx := ⟨_, rfl⟩
  rw [← hW] at HX HN HO
  clear hv hs hW
  generalize hLe : ws.length = L at *
  have HL := hide hLe
  clear hLe
  go_enter Try.func78, Try.ntmps78
  go_wp2
  go_loopw [3, 4, 5, 8] (fun b _ _ i wr => ∃ k : Nat, k ≤ L ∧ i = .int .i64 k ∧ b = .int .i64 (Sh.cheap ws k) ∧ Below w.heap.size w wr) (fun _ _ _ i _ => L - (intOf i).toNat)
  case atStart => exact ⟨0, Nat.zero_le _, rfl, rfl, Below.refl _ _⟩
  case round =>
    obtain ⟨k, hk, rfl, rfl, hbl⟩ := hrel
    by_cases hlt : k < L
    · obtain ⟨x, hx⟩ : ∃ x, ws[k]? = some x := ⟨_, List.getElem?_eq_getElem (by rw [HL.out]; exact hlt)⟩
      have hxg : ws.getD k Sh.w0 = x := by rw [List.getD_eq_getElem?_getD, hx]; rfl
      obtain ⟨f0, f1, f2⟩ := Sh.wayC_get hx
      have hsz := hbl.size
      have c0 : wr.cell? ⟨g, k * 3, none⟩ = some (.bool x.1) := (hbl.cell (p := ⟨g, k * 3, none⟩) hgw).trans (HC.out _ _ f0)
      have c1 : wr.cell? ⟨g, k * 3 + 1, none⟩ = some (.int .i64 x.2.1) := (hbl.cell (p := ⟨g, k * 3 + 1, none⟩) hgw).trans (HC.out _ _ f1)
      have c2 : wr.cell? ⟨g, k * 3 + 2, none⟩ = some (.int .u64 (x.2.2 : Int)) := (hbl.cell (p := ⟨g, k * 3 + 2, none⟩) hgw).trans (HC.out _ _ f2)
      have Hx := hide hx
      have hUx := HU.out x (List.mem_of_getElem? hx)
      clear f0 f1 f2 hx
      obtain ⟨mk, f, s⟩ := x
      simp only at c0 c1 c2 hUx
      cases mk with
      | true =>
        have HCh := hide (Sh.cheap_made (ws := ws) (k := k) (by rw [hxg]))
        clear hxg
        go_wp2
        go_roundw
        case rel => exact ⟨k + 1, by omega, by go_num, val_int HCh.out.symm, hbl.alloc hsz _⟩
        case measure => simp [intOf]; omega
      | false =>
        rcases Sh.cheap_is ws k with ⟨hn, _⟩ | ⟨j, hj, hjk, _⟩
        · have HCh := hide (HN.out k (by rw [hxg]) (Or.inl hn))
          rw [hn]
          clear hxg hn
          go_wp2
          go_quiet (fail)
          go_wp2
          go_roundw
          case rel => exact ⟨k + 1, by omega, by go_num, val_int HCh.out.symm, (hbl.alloc hsz _).trans ⟨rfl, rfl, rfl, Nat.le_refl _, fun _ _ => rfl⟩⟩
          case measure => simp [intOf]; omega
        · obtain ⟨y, hy⟩ : ∃ y, ws[j]? = some y := ⟨_, List.getElem?_eq_getElem (by rw [HL.out]; omega)⟩
          have hyg : ws.getD j Sh.w0 = y := by rw [List.getD_eq_getElem?_getD, hy]; rfl
          obtain ⟨f0, f1, f2⟩ := Sh.wayC_get hy
          have d0 : wr.cell? ⟨g, j * 3, none⟩ = some (.bool y.1) := (hbl.cell (p := ⟨g, j * 3, none⟩) hgw).trans (HC.out _ _ f0)
          have d1 : wr.cell? ⟨g, j * 3 + 1, none⟩ = some (.int .i64 y.2.1) := (hbl.cell (p := ⟨g, j * 3 + 1, none⟩) hgw).trans (HC.out _ _ f1)
          have d2 : wr.cell? ⟨g, j * 3 + 2, none⟩ = some (.int .u64 (y.2.2 : Int)) := (hbl.cell (p := ⟨g, j * 3 + 2, none⟩) hgw).trans (HC.out _ _ f2)
          have hUy := HU.out y (List.mem_of_getElem? hy)
          have hcn := HN.out k (by rw [hxg])
          have hco := HO.out k (by rw [hxg])
          rw [hj, Int.toNat_natCast, hyg, hxg] at hcn hco
          clear f0 f1 f2 hy hyg hxg
          obtain ⟨mk', f', s'⟩ := y
          simp only at d0 d1 d2 hUy hcn hco
          rw [hj]
          have HCn := hide hcn
          have HCo := hide hco
          have hjn : ((j : Int) == -1) = false := beq_eq_false_iff_ne.2 (by omega)
          clear hcn hco hj
          obtain ⟨W1, hW1⟩ : ∃ W1 : World, W1 = wr.alloc (.cells #[.bool false, .int .i64 f, .int .u64 (s : Int)] 120) := ⟨_, rfl⟩
          have hnew : W1.heap[wr.heap.size]? = some (.cells #[.bool false, .int .i64 f, .int .u64 (s : Int)] 120 (0, 0)) := by rw [hW1]; exact heap_alloc_new wr _
          have hlow1 : Below wr.heap.size wr W1 := by rw [hW1]; exact (Below.refl _ _).alloc (Nat.le_refl _) _
          have hgw1 : g < wr.heap.size := by omega
          have hnb : Nonempty (BW W1) := ⟨⟨W1, Below.refl _ _⟩⟩
          have b0 : ∀ q : BW W1, q.out.cell? ⟨wr.heap.size, 0, none⟩ = some (.bool false) := fun q => keepc q.low (blk_lt hnew) 0 (blk_cell hnew rfl)
          have b1 : ∀ q : BW W1, q.out.cell? ⟨wr.heap.size, 1, none⟩ = some (.int .i64 f) := fun q => keepc q.low (blk_lt hnew) 1 (blk_cell hnew rfl)
          have b2 : ∀ q : BW W1, q.out.cell? ⟨wr.heap.size, 2, none⟩ = some (.int .u64 (s : Int)) := fun q => keepc q.low (blk_lt hnew) 2 (blk_cell hnew rfl)
          have hgW : g < W1.heap.size := by have := hlow1.size; omega
          have e0 : ∀ q : BW W1, q.out.cell? ⟨g, j * 3, none⟩ = some (.bool mk') := fun q => keepc q.low hgW _ (keepc hlow1 hgw1 _ d0)
          have e1 : ∀ q : BW W1, q.out.cell? ⟨g, j * 3 + 1, none⟩ = some (.int .i64 f') := fun q => keepc q.low hgW _ (keepc hlow1 hgw1 _ d1)
          have e2 : ∀ q : BW W1, q.out.cell? ⟨g, j * 3 + 2, none⟩ = some (.int .u64 (s' : Int)) := fun q => keepc q.low hgW _ (keepc hlow1 hgw1 _ d2)
          have hjL : j < L := by omega
          have hfin : Below w.heap.size w W1 := hbl.trans (hlow1.mono hsz)
          go_wp2
          rw [← hW1]
          have HW1 := hide hW1
          clear hW1 hnew
          refine wp_region_low_lit (by kernel_rfl) (by kernel_rfl) ?_
          repeat (go_big_quiet_step ((refine (HX.out _ _ _ _ (by assumption)).mono ?_; rintro e w1 ⟨rfl, hb1⟩; exact ⟨rfl, ⟨w1, (BW.low _).trans (hb1.mono (BW.low _).size)⟩, rfl⟩)))
          refine wpQuiet_nil ?_
          rintro w1 ⟨s1, rfl⟩
          have hlow2 := s1.low
          generalize s1.out = w2 at *
          clear b0 b1 b2 e0 e1 e2
          have hfin2 : Below w.heap.size w w2 := hfin.trans (hlow2.mono hfin.size)
          by_cases hab : W f s < W f' s'
          · have hd : decide ((W f s : Int) < (W f' s' : Int)) = true := by simp; omega
            go_wp2
            go_roundw
            case rel => exact ⟨k + 1, by omega, by go_num, val_int (HCn.out (Or.inr hab)).symm, hfin2⟩
            case measure => simp [intOf]; omega
          · have hd : decide ((W f s : Int) < (W f' s' : Int)) = false := by simp; omega
            go_wp2
            go_roundw
            case rel => exact ⟨k + 1, by omega, by go_num, val_int (HCo.out (by rintro (h | h); omega; exact hab h)).symm, hfin2⟩
            case measure => simp [intOf]; omega
    · have hkd : k = L := by omega
      subst hkd
      go_wp2
      go_ret
      exact ⟨rfl, hbl⟩
end Go.Proofs.Ythhbpofcemoflab
