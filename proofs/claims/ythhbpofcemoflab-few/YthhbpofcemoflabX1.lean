import Derived.Test.YthhbpofcemoflabW14
import Derived.Test.YthhbpofcemoflabGc
namespace Go.Proofs.Ythhbpofcemoflab
open Go.RowKit
set_option maxRecDepth 20000
theorem below_allocN (w : World) (o : Obj) (q : Nat) : Below w.heap.size w ((w.alloc o).drewN q) := ((Below.refl w.heap.size w).alloc (Nat.le_refl _) o).trans ⟨rfl, rfl, rfl, Nat.le_refl _, fun _ _ => rfl⟩
theorem below_allocNN (w : World) (o : Obj) (q r : Nat) : Below w.heap.size w (((w.alloc o).drewN q).drewN r) := (below_allocN w o q).trans ⟨rfl, rfl, rfl, Nat.le_refl _, fun _ _ => rfl⟩
set_option maxHeartbeats 1000000 in
theorem allows_ok (fb G n : Nat) (f : Nat → Bool) (o : Int × Int × Int) (w : World) (hb : w.heap[fb]? = some (.cells (Sh.flA G n f) 108 (0, 0))) (hn : n ≤ 104) (ho : Sh.StepOk G n f o) :
    Calls Try.prog 74 #[.pointer (some ⟨fb, 0, none⟩), .agg #[.int .i64 o.1, .int .i64 o.2.1, .int .i64 o.2.2]] w fun e w' => e = .returned (.bool true) ∧ Below w.heap.size w w' := by
  obtain ⟨t, s, ht, hs, hGt, htn, hsn, hk⟩ := ho
  obtain ⟨kd, ot, os⟩ := o
  simp only at ht hs hk
  subst ht
  subst hs
  have hfb := blk_lt hb
  have c0 : w.cell? ⟨fb, 0, none⟩ = some (.int .i64 G) := blk_cell hb rfl
  have c1 : w.cell? ⟨fb, 1, none⟩ = some (.int .i64 n) := blk_cell hb rfl
  have ct : w.cell? ⟨fb, 2 + t, none⟩ = some (.bool (f t)) := blk_cell hb (Sh.flA_get G n f t (by omega))
  have cs : w.cell? ⟨fb, 2 + s, none⟩ = some (.bool (f s)) := blk_cell hb (Sh.flA_get G n f s (by omega))
  have d1 : decide ((t : Int) < (G : Int)) = false := by simp; omega
  have d2 : decide ((n : Int) ≤ (t : Int)) = false := by simp; omega
  have d3 : decide ((s : Int) < 0) = false := by simp
  have d4 : decide ((n : Int) ≤ (s : Int)) = false := by simp; omega
  clear hb
  rcases hk with ⟨rfl, rfl⟩ | ⟨rfl, hfs⟩ | ⟨rfl, hfs, hft⟩
  · go_enter Try.func74, Try.ntmps74
    go_wp2
    go_quiet (fail)
    go_wp2
    go_ret
    exact ⟨rfl, below_allocN _ _ _⟩
  · rw [hfs] at cs
    go_enter Try.func74, Try.ntmps74
    go_wp2
    go_quiet (fail)
    go_wp2
    go_quiet (fail)
    go_wp2
    go_ret
    exact ⟨rfl, below_allocNN _ _ _ _⟩
  · rw [hfs] at cs
    rw [hft] at ct
    go_enter Try.func74, Try.ntmps74
    go_wp2
    go_quiet (fail)
    go_wp2
    go_quiet (fail)
    go_wp2
    go_ret
    exact ⟨rfl, below_allocNN _ _ _ _⟩
theorem setRow_alloc (w : World) (old new : Array Value) (t : TypeId) : (w.alloc (.cells old t)).setRow w.heap.size new = w.alloc (.cells new t) := by
  have hm : ∀ (a : Array Obj) (x : Obj) (f : Obj → Obj), (a.push x).modify a.size f = a.push (f x) := by
    intro a x f
    apply Array.ext
    · simp
    · intro i h1 h2
      simp only [Array.getElem_modify, Array.getElem_push]
      by_cases h : a.size = i
      · subst h
        simp
      · have hi : i < a.size := by simp at h1; omega
        simp [h, hi]
  unfold World.setRow World.alloc
  simp only [hm]
theorem Try.zeroF : Try.zeroCells108.toList = [Value.int .i64 0, Value.int .i64 0] ++ (List.range 104).map fun r => Value.bool (decide (r < 0)) := by kernel_rfl
theorem fill_start (G n : Nat) (w : World) : (storeCells ⟨w.heap.size, 0, none⟩ ((Try.zeroCells108.toList.set 0 (.int .i64 G)).set 1 (.int .i64 n)) 0).run Try.prog (w.alloc (.cells Try.zeroCells108 108)) = .ok () (w.alloc (.cells (Sh.flA G n fun r => decide (r < 0)) 108)) := by
  have e : (Try.zeroCells108.toList.set 0 (Value.int .i64 G)).set 1 (Value.int .i64 n) = (Sh.flA G n fun r => decide (r < 0)).toList := by
    rw [Try.zeroF]
    unfold Sh.flA
    rfl
  have hsz : (Sh.flA G n fun r => decide (r < 0)).toList.length = 106 := by simp [Sh.flA]
  have hz : Try.zeroCells108.size = 106 := by
    rw [← Array.length_toList, Try.zeroF]
    rfl
  have := run_storeCells_from (P := Try.prog) w.heap.size 108 (Sh.flA G n fun r => decide (r < 0)).toList 0 Try.zeroCells108 (w.alloc (.cells Try.zeroCells108 108)) (heap_alloc_new w _) (by omega) (by
    intro v hv
    unfold Sh.flA at hv
    simp only [List.mem_append, List.mem_cons, List.mem_map, List.not_mem_nil, or_false] at hv
    rcases hv with (rfl | rfl) | ⟨r, _, rfl⟩ <;> rfl)
  rw [e, this]
  rw [List.take_zero, List.nil_append, Array.toArray_toList, setRow_alloc]
set_option maxHeartbeats 2000000 in
theorem sound_ok (G O B : Nat) (ops : List (Int × Int × Int)) (bo go co : Nat) (w : World) (hG : G ≤ 48) (hO : O ≤ 40) (hB : B ≤ 16) (hn1 : 1 ≤ ops.length) (hn : ops.length ≤ 2048) (hS : Sh.Snd G O B ops) (ho : w.ownsRow bo 98 3 (.slice (some ⟨go, 0, none⟩) ops.length co) ops.length (Sh.opCells ops)) :
    Calls Try.prog 62 #[.agg #[.int .i64 G, .int .i64 O, .int .i64 B, .slice (some ⟨go, 0, none⟩) ops.length co]] w fun e w' => e = .returned (.bool true) ∧ Below w.heap.size w w' := by
  have hgo : go < w.heap.size := (ho.lt go rfl).2
  have HCO := hide (own_cells ho)
  have HS := hide hS
  clear hS ho
  generalize hL : ops.length = L at *
  have HL : Hid (ops.length = L) := hL
  have hsum : G + O + B ≤ 104 := by omega
  clear hL
  go_enter Try.func62, Try.ntmps62
  go_wp2_with fail
  refine (bounded_ok G O B _ L co _ hG hO hB hn).mono ?_
  rintro e w1 ⟨rfl, rfl⟩
  have hpb : ((w.alloc (.cells #[.int .i64 G, .int .i64 O, .int .i64 B, .slice (some ⟨go, 0, none⟩) L co] 49)).alloc (.cells #[.int .i64 G, .int .i64 O, .int .i64 B, .slice (some ⟨go, 0, none⟩) L co] 49)).heap[w.heap.size]? = some (.cells #[.int .i64 G, .int .i64 O, .int .i64 B, .slice (some ⟨go, 0, none⟩) L co] 49 (0, 0)) := heap_new1 w _ _
  have hlow0 : Below w.heap.size w ((w.alloc (.cells #[.int .i64 G, .int .i64 O, .int .i64 B, .slice (some ⟨go, 0, none⟩) L co] 49)).alloc (.cells #[.int .i64 G, .int .i64 O, .int .i64 B, .slice (some ⟨go, 0, none⟩) L co] 49)) := ((Below.refl _ _).alloc (Nat.le_refl _) _).alloc (by simp) _
  generalize ((w.alloc (.cells #[.int .i64 G, .int .i64 O, .int .i64 B, .slice (some ⟨go, 0, none⟩) L co] 49)).alloc (.cells #[.int .i64 G, .int .i64 O, .int .i64 B, .slice (some ⟨go, 0, none⟩) L co] 49)) = w0 at *
  have hq0 : w0.cell? ⟨w.heap.size, 0, none⟩ = some (.int .i64 G) := blk_cell hpb rfl
  have hq1 : w0.cell? ⟨w.heap.size, 1, none⟩ = some (.int .i64 O) := blk_cell hpb rfl
  have hq2 : w0.cell? ⟨w.heap.size, 2, none⟩ = some (.int .i64 B) := blk_cell hpb rfl
  have hq3 : w0.cell? ⟨w.heap.size, 3, none⟩ = some (.slice (some ⟨go, 0, none⟩) L co) := blk_cell hpb rfl
  have hwz0 := blk_lt hpb
  have hgo0 : go < w0.heap.size := by omega
  have hfs := fill_start G (G + O + B) w0
  rw [Int.natCast_add, Int.natCast_add] at hfs
  go_wp2
  clear hfs
  go_loopw [4, 24] (fun _ i wr => ∃ k : Nat, k ≤ G ∧ i = .int .i64 k ∧ wr.heap[w0.heap.size]? = some (.cells (Sh.flA G (G + O + B) fun r => decide (r < k)) 108 (0, 0)) ∧ Below w0.heap.size w0 wr) (fun _ i _ => G - (intOf i).toNat)
  case atStart => exact ⟨0, Nat.zero_le _, rfl, heap_alloc_new w0 _, (Below.refl _ _).alloc (Nat.le_refl _) _⟩
  case round =>
    obtain ⟨k, hk, rfl, hf, hbl⟩ := hrel
    have hfz := blk_lt hf
    by_cases hlt : k < G
    · have hc := blk_cell hf (Sh.flA_get G (G + O + B) (fun r => decide (r < k)) k (by omega))
      have hfr := blk_frozen hf (2 + k)
      have Hf := hide hf
      clear hf
      go_wp2
      go_roundw
      case rel => exact ⟨k + 1, by omega, by go_num, by rw [← Sh.fl_zero, ← Sh.flA_set]; exact blk_set Hf.out, hbl.setCell (Nat.le_refl _) _⟩
      case measure => simp [intOf]; omega
    · have hkG : G = k := by omega
      subst hkG
      have hf1 : wr.heap[w0.heap.size]? = some (.cells (Sh.flA G (G + O + B) (Sh.fl G (ops.take 0))) 108 (0, 0)) := by
        rw [hf]
        have : (fun r => decide (r < G)) = Sh.fl G (ops.take 0) := by funext r; rw [List.take_zero, Sh.fl_start]
        rw [this]
      have Hf := hide hf1
      clear hf hf1
      have hp3 := (hbl.cell (p := ⟨w.heap.size, 3, none⟩) hwz0).trans hq3
      go_wp2
      go_loopw [6, 34] (fun _ i wr => ∃ k : Nat, k ≤ L ∧ i = .int .i64 k ∧ wr.heap[w0.heap.size]? = some (.cells (Sh.flA G (G + O + B) (Sh.fl G (ops.take k))) 108 (0, 0)) ∧ Below w0.heap.size w0 wr) (fun _ i _ => L - (intOf i).toNat)
      case atStart => exact ⟨0, Nat.zero_le _, rfl, Hf.out, hbl⟩
      case round =>
        clear Hf hbl hp3 hfz
        obtain ⟨k, hk, rfl, hf, hbl⟩ := hrel
        have hfz := blk_lt hf
        by_cases hlq : k < L
        · obtain ⟨o, hoq⟩ : ∃ o, ops[k]? = some o := ⟨_, List.getElem?_eq_getElem (by rw [HL.out]; exact hlq)⟩
          have hoc := Sh.opCells_get hoq
          have hst := HS.out.steps k o hoq
          rw [List.nil_append] at hst
          have Hst := hide hst
          obtain ⟨t, s, ht, hs, hGt, htn, hsn, _⟩ := hst
          obtain ⟨kd, ot, os⟩ := o
          simp only at ht hs hoc
          subst ht
          subst hs
          have x0 : wr.cell? ⟨go, k * 3, none⟩ = some (.int .i64 kd) := ((hbl.mono hlow0.size).cell (p := ⟨go, k * 3, none⟩) hgo).trans ((hlow0.cell (p := ⟨go, k * 3, none⟩) hgo).trans (HCO.out (k * 3) _ hoc.1))
          have x1 : wr.cell? ⟨go, k * 3 + 1, none⟩ = some (.int .i64 t) := ((hbl.mono hlow0.size).cell (p := ⟨go, k * 3 + 1, none⟩) hgo).trans ((hlow0.cell (p := ⟨go, k * 3 + 1, none⟩) hgo).trans (HCO.out (k * 3 + 1) _ hoc.2.1))
          have x2 : wr.cell? ⟨go, k * 3 + 2, none⟩ = some (.int .i64 s) := ((hbl.mono hlow0.size).cell (p := ⟨go, k * 3 + 2, none⟩) hgo).trans ((hlow0.cell (p := ⟨go, k * 3 + 2, none⟩) hgo).trans (HCO.out (k * 3 + 2) _ hoc.2.2))
          have HA := hide (fun (wx : World) (hx : wx.heap[w0.heap.size]? = some (.cells (Sh.flA G (G + O + B) (Sh.fl G (ops.take k))) 108 (0, 0))) => allows_ok w0.heap.size G (G + O + B) (Sh.fl G (ops.take k)) _ wx hx hsum Hst.out)
          have Hf := hide hf
          have Hoq := hide hoq
          clear hoc hoq hf
          go_wp2_with (go_at_call 74; refine (HA.out _ ((Below.heap_alloc _ _ _ hfz).trans Hf.out)).mono ?_; rintro e w2 ⟨rfl, hb2⟩; have hf2 := (hb2.block w0.heap.size (by simp; omega)).trans ((Below.heap_alloc _ _ _ hfz).trans Hf.out); have hob := (hb2.block wr.heap.size (by simp)).trans (heap_alloc_new wr _); have y1 := blk_cell (j := 1) hob rfl; have hc := blk_cell hf2 (Sh.flA_get G (G + O + B) _ t (by omega)); have hfr := blk_frozen hf2 (2 + t))
          go_roundw
          case rel => exact ⟨k + 1, by omega, by go_num, by rw [← Sh.fl_snoc G ops k t _ Hoq.out rfl, ← Sh.flA_set]; exact blk_set hf2, ((hbl.alloc hbl.size _).trans (hb2.mono (by simp; omega))).setCell (Nat.le_refl _) _⟩
          case measure => simp [intOf]; omega
        · have hkL : L = k := by omega
          subst hkL
          have hta : ops.take L = ops := List.take_of_length_le (by rw [HL.out]; exact Nat.le_refl _)
          rw [hta] at hf
          have hp0 := (hbl.cell (p := ⟨w.heap.size, 0, none⟩) hwz0).trans hq0
          have hp1 := (hbl.cell (p := ⟨w.heap.size, 1, none⟩) hwz0).trans hq1
          have Hf := hide hf
          clear hf hta
          go_wp2
          go_loop [7, 48] (fun _ i => ∃ k : Nat, k ≤ O ∧ i = .int .i64 k) (fun _ i => O - (intOf i).toNat)
          case atStart => exact ⟨0, Nat.zero_le _, rfl⟩
          case round =>
            obtain ⟨k, hk, rfl⟩ := hrel
            by_cases hlk : k < O
            · have hc := blk_cell Hf.out (Sh.flA_get G (G + O + B) _ (G + k) (by omega))
              rw [HS.out.outs k hlk] at hc
              go_wp2
              go_round
              case rel => exact ⟨k + 1, by omega, by go_num⟩
              case measure => simp [intOf]; omega
            · have hkO : O = k := by omega
              subst hkO
              go_wp2
              go_ret
              exact ⟨rfl, hlow0.trans (hbl.mono hlow0.size)⟩
end Go.Proofs.Ythhbpofcemoflab
