import Derived.Test.YtfnfnmonnfcpeabW14
import Derived.Test.YtfnfnmonnfcpeabGj
import Derived.Lib.SlBytesConst
import Derived.ArgAppend
namespace Go.Proofs.Ytfnfnmonnfcpeab
open Go.RowKit
set_option maxRecDepth 20000
theorem below_allocN (w : World) (o : Obj) (q : Nat) : Below w.heap.size w ((w.alloc o).drewN q) := ((Below.refl w.heap.size w).alloc (Nat.le_refl _) o).trans ⟨rfl, rfl, rfl, Nat.le_refl _, fun _ _ => rfl⟩
theorem below_allocNN (w : World) (o : Obj) (q r : Nat) : Below w.heap.size w (((w.alloc o).drewN q).drewN r) := (below_allocN w o q).trans ⟨rfl, rfl, rfl, Nat.le_refl _, fun _ _ => rfl⟩
set_option maxHeartbeats 1000000 in
theorem allows_ok (fb G n : Nat) (f : Nat → Bool) (o : Int × Int × Int) (w : World) (hb : w.heap[fb]? = some (.cells (Sh.flA G n f) 98 (0, 0))) (hn : n ≤ 104) (ho : Sh.StepOk G n f o) :
    Calls Try.prog 61 #[.pointer (some ⟨fb, 0, none⟩), .agg #[.int .i64 o.1, .int .i64 o.2.1, .int .i64 o.2.2]] w fun e w' => e = .returned (.bool true) ∧ Below w.heap.size w w' := by
  obtain ⟨t, s, ht, hs, hGt, htn, hsn, hk⟩ := ho
  obtain ⟨kd, ot, os⟩ := o
  simp only at ht hs hk
  subst ht
  subst hs
  have hfb := blk_lt hb
  have c0 : w.cell? ⟨fb, 0, none⟩ = some (.int .i64 G) := blk_cell hb rfl
  have c1 : w.cell? ⟨fb, 1, none⟩ = some (.int .i64 n) := blk_cell hb rfl
  have ct : w.cell? ⟨fb, 2 + t, none⟩ = some (.bool (f t)) := blk_cell hb (Sh.flA_get G n f t (by omega))
  have cs : w.cell? ⟨fb, 2 + s, none⟩ = some (.bool (f s)) := blk_cell hb (Sh.flA_get G n f s (by omega))
  have d1 : decide ((t : Int) < (G : Int)) = false := by simp; omega
  have d2 : decide ((n : Int) ≤ (t : Int)) = false := by simp; omega
  have d3 : decide ((s : Int) < 0) = false := by simp
  have d4 : decide ((n : Int) ≤ (s : Int)) = false := by simp; omega
  clear hb
  rcases hk with ⟨rfl, rfl⟩ | ⟨rfl, hfs⟩ | ⟨rfl, hfs, hft⟩
  · go_enter Try.func61, Try.ntmps61
    go_wp2
    go_quiet (fail)
    go_wp2
    go_ret
    exact ⟨rfl, below_allocN _ _ _⟩
  · rw [hfs] at cs
    go_enter Try.func61, Try.ntmps61
    go_wp2
    go_quiet (fail)
    go_wp2
    go_quiet (fail)
    go_wp2
    go_ret
    exact ⟨rfl, below_allocNN _ _ _ _⟩
  · rw [hfs] at cs
    rw [hft] at ct
    go_enter Try.func61, Try.ntmps61
    go_wp2
    go_quiet (fail)
    go_wp2
    go_quiet (fail)
    go_wp2
    go_ret
    exact ⟨rfl, below_allocNN _ _ _ _⟩
theorem setRow_alloc (w : World) (old new : Array Value) (t : TypeId) : (w.alloc (.cells old t)).setRow w.heap.size new = w.alloc (.cells new t) := by
  have hm : ∀ (a : Array Obj) (x : Obj) (f : Obj → Obj), (a.push x).modify a.size f = a.push (f x) := by
    intro a x f
    apply Array.ext
    · simp
    · intro i h1 h2
      simp only [Array.getElem_modify, Array.getElem_push]
      by_cases h : a.size = i
      · subst h
        simp
      · have hi : i < a.size := by simp at h1; omega
        simp [h, hi]
  unfold World.setRow World.alloc
  simp only [hm]
theorem Try.zeroF : Try.zeroCells98.toList = [Value.int .i64 0, Value.int .i64 0] ++ (List.range 104).map fun r => Value.bool (decide (r < 0)) := by kernel_rfl
theorem fill_start (G n : Nat) (w : World) : (storeCells ⟨w.heap.size, 0, none⟩ ((Try.zeroCells98.toList.set 0 (.int .i64 G)).set 1 (.int .i64 n)) 0).run Try.prog (w.alloc (.cells Try.zeroCells98 98)) = .ok () (w.alloc (.cells (Sh.flA G n fun r => decide (r < 0)) 98)) := by
  have e : (Try.zeroCells98.toList.set 0 (Value.int .i64 G)).set 1 (Value.int .i64 n) = (Sh.flA G n fun r => decide (r < 0)).toList := by
    rw [Try.zeroF]
    unfold Sh.flA
    rfl
  have hsz : (Sh.flA G n fun r => decide (r < 0)).toList.length = 106 := by simp [Sh.flA]
  have hz : Try.zeroCells98.size = 106 := by
    rw [← Array.length_toList, Try.zeroF]
    rfl
  have := run_storeCells_from (P := Try.prog) w.heap.size 98 (Sh.flA G n fun r => decide (r < 0)).toList 0 Try.zeroCells98 (w.alloc (.cells Try.zeroCells98 98)) (heap_alloc_new w _) (by omega) (by
    intro v hv
    unfold Sh.flA at hv
    simp only [List.mem_append, List.mem_cons, List.mem_map, List.not_mem_nil, or_false] at hv
    rcases hv with (rfl | rfl) | ⟨r, _, rfl⟩ <;> rfl)
  rw [e, this]
  rw [List.take_zero, List.nil_append, Array.toArray_toList, setRow_alloc]
set_option maxHeartbeats 2000000 in
theorem sound_ok (G O B : Nat) (ops : List (Int × Int × Int)) (bo go co : Nat) (w : World) (hG : G ≤ 48) (hO : O ≤ 40) (hB : B ≤ 16) (hn1 : 1 ≤ ops.length) (hn : ops.length ≤ 2048) (hS : Sh.Snd G O B ops) (ho : w.ownsRow bo 91 3 (.slice (some ⟨go, 0, none⟩) ops.length co) ops.length (Sh.opCells ops)) :
    Calls Try.prog 55 #[.agg #[.int .i64 G, .int .i64 O, .int .i64 B, .slice (some ⟨go, 0, none⟩) ops.length co]] w fun e w' => e = .returned (.bool true) ∧ Below w.heap.size w w' := by
  have hgo : go < w.heap.size := (ho.lt go rfl).2
  have HCO := hide (own_cells ho)
  have HS := hide hS
  clear hS ho
  generalize hL : ops.length = L at *
  have HL : Hid (ops.length = L) := hL
  have hsum : G + O + B ≤ 104 := by omega
  clear hL
  go_enter Try.func55, Try.ntmps55
  go_wp2_with fail
  refine (bounded_ok G O B _ L co _ hG hO hB hn).mono ?_
  rintro e w1 ⟨rfl, rfl⟩
  have hpb : ((w.alloc (.cells #[.int .i64 G, .int .i64 O, .int .i64 B, .slice (some ⟨go, 0, none⟩) L co] 49)).alloc (.cells #[.int .i64 G, .int .i64 O, .int .i64 B, .slice (some ⟨go, 0, none⟩) L co] 49)).heap[w.heap.size]? = some (.cells #[.int .i64 G, .int .i64 O, .int .i64 B, .slice (some ⟨go, 0, none⟩) L co] 49 (0, 0)) := heap_new1 w _ _
  have hlow0 : Below w.heap.size w ((w.alloc (.cells #[.int .i64 G, .int .i64 O, .int .i64 B, .slice (some ⟨go, 0, none⟩) L co] 49)).alloc (.cells #[.int .i64 G, .int .i64 O, .int .i64 B, .slice (some ⟨go, 0, none⟩) L co] 49)) := ((Below.refl _ _).alloc (Nat.le_refl _) _).alloc (by simp) _
  generalize ((w.alloc (.cells #[.int .i64 G, .int .i64 O, .int .i64 B, .slice (some ⟨go, 0, none⟩) L co] 49)).alloc (.cells #[.int .i64 G, .int .i64 O, .int .i64 B, .slice (some ⟨go, 0, none⟩) L co] 49)) = w0 at *
  have hq0 : w0.cell? ⟨w.heap.size, 0, none⟩ = some (.int .i64 G) := blk_cell hpb rfl
  have hq1 : w0.cell? ⟨w.heap.size, 1, none⟩ = some (.int .i64 O) := blk_cell hpb rfl
  have hq2 : w0.cell? ⟨w.heap.size, 2, none⟩ = some (.int .i64 B) := blk_cell hpb rfl
  have hq3 : w0.cell? ⟨w.heap.size, 3, none⟩ = some (.slice (some ⟨go, 0, none⟩) L co) := blk_cell hpb rfl
  have hwz0 := blk_lt hpb
  have hgo0 : go < w0.heap.size := by omega
  have hfs := fill_start G (G + O + B) w0
  rw [Int.natCast_add, Int.natCast_add] at hfs
  go_wp2
  clear hfs
  go_loopw [4, 24] (fun _ i wr => ∃ k : Nat, k ≤ G ∧ i = .int .i64 k ∧ wr.heap[w0.heap.size]? = some (.cells (Sh.flA G (G + O + B) fun r => decide (r < k)) 98 (0, 0)) ∧ Below w0.heap.size w0 wr) (fun _ i _ => G - (intOf i).toNat)
  case atStart => exact ⟨0, Nat.zero_le _, rfl, heap_alloc_new w0 _, (Below.refl _ _).alloc (Nat.le_refl _) _⟩
  case round =>
    obtain ⟨k, hk, rfl, hf, hbl⟩ := hrel
    have hfz := blk_lt hf
    by_cases hlt : k < G
    · have hc := blk_cell hf (Sh.flA_get G (G + O + B) (fun r => decide (r < k)) k (by omega))
      have hfr := blk_frozen hf (2 + k)
      have Hf := hide hf
      clear hf
      go_wp2
      go_roundw
      case rel => exact ⟨k + 1, by omega, by go_num, by rw [← Sh.fl_zero, ← Sh.flA_set]; exact blk_set Hf.out, hbl.setCell (Nat.le_refl _) _⟩
      case measure => simp [intOf]; omega
    · have hkG : G = k := by omega
      subst hkG
      have hf1 : wr.heap[w0.heap.size]? = some (.cells (Sh.flA G (G + O + B) (Sh.fl G (ops.take 0))) 98 (0, 0)) := by
        rw [hf]
        have : (fun r => decide (r < G)) = Sh.fl G (ops.take 0) := by funext r; rw [List.take_zero, Sh.fl_start]
        rw [this]
      have Hf := hide hf1
      clear hf hf1
      have hp3 := (hbl.cell (p := ⟨w.heap.size, 3, none⟩) hwz0).trans hq3
      go_wp2
      go_loopw [6, 34] (fun _ i wr => ∃ k : Nat, k ≤ L ∧ i = .int .i64 k ∧ wr.heap[w0.heap.size]? = some (.cells (Sh.flA G (G + O + B) (Sh.fl G (ops.take k))) 98 (0, 0)) ∧ Below w0.heap.size w0 wr) (fun _ i _ => L - (intOf i).toNat)
      case atStart => exact ⟨0, Nat.zero_le _, rfl, Hf.out, hbl⟩
      case round =>
        clear Hf hbl hp3 hfz
        obtain ⟨k, hk, rfl, hf, hbl⟩ := hrel
        have hfz := blk_lt hf
        by_cases hlq : k < L
        · obtain ⟨o, hoq⟩ : ∃ o, ops[k]? = some o := ⟨_, List.getElem?_eq_getElem (by rw [HL.out]; exact hlq)⟩
          have hoc := Sh.opCells_get hoq
          have hst := HS.out.steps k o hoq
          rw [List.nil_append] at hst
          have Hst := hide hst
          obtain ⟨t, s, ht, hs, hGt, htn, hsn, _⟩ := hst
          obtain ⟨kd, ot, os⟩ := o
          simp only at ht hs hoc
          subst ht
          subst hs
          have x0 : wr.cell? ⟨go, k * 3, none⟩ = some (.int .i64 kd) := ((hbl.mono hlow0.size).cell (p := ⟨go, k * 3, none⟩) hgo).trans ((hlow0.cell (p := ⟨go, k * 3, none⟩) hgo).trans (HCO.out (k * 3) _ hoc.1))
          have x1 : wr.cell? ⟨go, k * 3 + 1, none⟩ = some (.int .i64 t) := ((hbl.mono hlow0.size).cell (p := ⟨go, k * 3 + 1, none⟩) hgo).trans ((hlow0.cell (p := ⟨go, k * 3 + 1, none⟩) hgo).trans (HCO.out (k * 3 + 1) _ hoc.2.1))
          have x2 : wr.cell? ⟨go, k * 3 + 2, none⟩ = some (.int .i64 s) := ((hbl.mono hlow0.size).cell (p := ⟨go, k * 3 + 2, none⟩) hgo).trans ((hlow0.cell (p := ⟨go, k * 3 + 2, none⟩) hgo).trans (HCO.out (k * 3 + 2) _ hoc.2.2))
          have HA := hide (fun (wx : World) (hx : wx.heap[w0.heap.size]? = some (.cells (Sh.flA G (G + O + B) (Sh.fl G (ops.take k))) 98 (0, 0))) => allows_ok w0.heap.size G (G + O + B) (Sh.fl G (ops.take k)) _ wx hx hsum Hst.out)
          have Hf := hide hf
          have Hoq := hide hoq
          clear hoc hoq hf
          go_wp2_with (go_at_call 61; refine (HA.out _ ((Below.heap_alloc _ _ _ hfz).trans Hf.out)).mono ?_; rintro e w2 ⟨rfl, hb2⟩; have hf2 := (hb2.block w0.heap.size (by simp; omega)).trans ((Below.heap_alloc _ _ _ hfz).trans Hf.out); have hob := (hb2.block wr.heap.size (by simp)).trans (heap_alloc_new wr _); have y1 := blk_cell (j := 1) hob rfl; have hc := blk_cell hf2 (Sh.flA_get G (G + O + B) _ t (by omega)); have hfr := blk_frozen hf2 (2 + t))
          go_roundw
          case rel => exact ⟨k + 1, by omega, by go_num, by rw [← Sh.fl_snoc G ops k t _ Hoq.out rfl, ← Sh.flA_set]; exact blk_set hf2, ((hbl.alloc hbl.size _).trans (hb2.mono (by simp; omega))).setCell (Nat.le_refl _) _⟩
          case measure => simp [intOf]; omega
        · have hkL : L = k := by omega
          subst hkL
          have hta : ops.take L = ops := List.take_of_length_le (by rw [HL.out]; exact Nat.le_refl _)
          rw [hta] at hf
          have hp0 := (hbl.cell (p := ⟨w.heap.size, 0, none⟩) hwz0).trans hq0
          have hp1 := (hbl.cell (p := ⟨w.heap.size, 1, none⟩) hwz0).trans hq1
          have Hf := hide hf
          clear hf hta
          go_wp2
          go_loop [7, 48] (fun _ i => ∃ k : Nat, k ≤ O ∧ i = .int .i64 k) (fun _ i => O - (intOf i).toNat)
          case atStart => exact ⟨0, Nat.zero_le _, rfl⟩
          case round =>
            obtain ⟨k, hk, rfl⟩ := hrel
            by_cases hlk : k < O
            · have hc := blk_cell Hf.out (Sh.flA_get G (G + O + B) _ (G + k) (by omega))
              rw [HS.out.outs k hlk] at hc
              go_wp2
              go_round
              case rel => exact ⟨k + 1, by omega, by go_num⟩
              case measure => simp [intOf]; omega
            · have hkO : O = k := by omega
              subst hkO
              go_wp2
              go_ret
              exact ⟨rfl, hlow0.trans (hbl.mono hlow0.size)⟩
end Go.Proofs.Ytfnfnmonnfcpeab
namespace Go.Proofs.Ytfnfnmonnfcpeab
open Go.RowKit
set_option maxRecDepth 20000
theorem row_conv {w : World} {base : Nat} {v : Value} {n : Nat} {xs : List Int} (h : w.ownsRow base 5 1 v n (xs.map (Value.int .u8))) (hn : 1 ≤ n) : (convert 33 9 v).run Try.prog w = .ok (.string (strOfNums xs)) w := by
  obtain ⟨g, cap, rfl, _, _, _, hc⟩ := own_form h hn
  have hl : xs.length = n := by have := h.1; simpa using this
  exact run_convert_bytes_arg (P := Try.prog) w 33 5 Try.underlying33 Try.underlying5 g 0 n cap xs hl (fun i hi => by
    rw [List.getD_eq_getElem?_getD, List.getElem?_eq_getElem (by omega), Option.getD_some, Nat.zero_add]
    exact hc i _ (by rw [List.getElem?_map, List.getElem?_eq_getElem (by omega)]; rfl)) 9 Try.underlying9
theorem bytes_one (l : List Int) : ∀ u ∈ l.map (Value.int .u8), u.oneCell' = true := by
  intro u hu
  rw [List.mem_map] at hu
  obtain ⟨b, _, rfl⟩ := hu
  rfl
/-- bytes behind a full row, whatever its mark -/
theorem appendG {P : Program} {ops : Array Oper} {rest : List Oper} {o : Oper} {a : Act} {Q : Exit → Act → World → Prop} (w : World) (hgd : o.guard = Option.none) (s x : Operand) (t : TypeId)
    (ho : o.op = .call { callee := .builtin .append, args := #[s, x], argTypes := #[t, t] })
    (e : TypeId) (i : TypeInfo) (z : Value) (size bytes : Nat) (ht : P.underlying t = some (.slice e)) (hi : P.info? e = some i) (hz : i.zero = some z)
    (hsize : i.size = size) (hby : i.bytes = bytes) (hzs : z.cells.size = size) (hsz : 0 < size)
    (b : Addr) (n cap : Nat) (olds : List Value) (hs : a.eval s = .slice (some b) n cap) (hlo : olds.length = n * size) (holds : ∀ j u, olds[j]? = some u → w.cell? (b.add j) = some u)
    (ad : Addr) (m c : Nat) (news : List Value) (hx : a.eval x = .slice (some ad) m c) (hl : news.length = m * size) (hnews : ∀ j u, news[j]? = some u → w.cell? (ad.add j) = some u)
    (hg : cap < n + m) (h63 : n + m ≤ maxLen) (hbytes : (n + m) * bytes ≤ 140737488355328)
    (h : ∀ v' w', w'.ownsRow w.heap.size e size v' (n + m) (olds ++ news) → Below w.heap.size w w' → wpList P ops Q rest (a.put o.dst v') w') : wpList P ops Q (o :: rest) a w := by
  obtain ⟨v', w', hr, h2, h3⟩ := run_append_arg_grows (P := P) w t o.type e i z size bytes ht hi hz hsize hby hzs hsz b n cap olds hlo holds ad m c news hl hnews hg h63 hbytes
  refine wpList_plain hgd fun _ hK => ?_
  unfold Oper.wp execOp
  simp only [ho, resolve, invoke, builtin, Sem.run_bind, Sem.run_pure, Result.andThen_ok, List.map_toArray, List.map_cons, List.map_nil, hs, hx, hr]
  exact hK _ _ (h v' w' h2 ((Below.refl _ w).grown h3 (Nat.le_refl _) (fun k hk => by cases hk)))
set_option maxHeartbeats 2000000 in
theorem text_ok (G O B : Nat) (ops : List (Int × Int × Int)) (bo go co : Nat) (w : World) (hG : G ≤ 48) (hO : O ≤ 40) (hB : B ≤ 16) (hn1 : 1 ≤ ops.length) (hn : ops.length ≤ 2048) (hS : Sh.Snd G O B ops) (ho : w.ownsRow bo 91 3 (.slice (some ⟨go, 0, none⟩) ops.length co) ops.length (Sh.opCells ops)) :
    Calls Try.prog 47 #[.agg #[.int .i64 G, .int .i64 O, .int .i64 B, .slice (some ⟨go, 0, none⟩) ops.length co]] w fun e w' => e = .returned (.string (strOfNums (Sh.txt G O B ops))) ∧ Below w.heap.size w w' := by
  obtain ⟨i1, ui, uz0, uz1, uz2⟩ := info_parts Try.infoU8
  have hgo : go < w.heap.size := (ho.lt go rfl).2
  have HCO := hide (own_cells ho)
  have HS := hide hS
  have HSo := hide (fun (wx : World) (hx : Below w.heap.size w wx) => sound_ok G O B ops bo go co wx hG hO hB hn1 hn hS (own_below ho hx))
  have HT : Hid (Sh.txt G O B ops = [(88 : Int), 80, (G : Int), (O : Int), (B : Int), (ops.length : Int) % 256, (ops.length : Int) / 256] ++ ops.flatMap fun o => [o.1, o.2.1, o.2.2]) := rfl
  rw [HT.out]
  clear hS ho HT
  generalize hL : ops.length = L at *
  have HL : Hid (ops.length = L) := hL
  clear hL
  go_enter Try.func47, Try.ntmps47
  go_wp2_with fail
  refine (HSo.out _ ((Below.refl _ _).alloc (Nat.le_refl _) _)).mono ?_
  rintro e w1 ⟨rfl, hb1⟩
  have hs1 := hb1.size
  simp only [World.size_alloc] at hs1
  have hpb := (hb1.block w.heap.size (by simp)).trans (heap_alloc_new w _)
  have hlow : Below w.heap.size w w1 := ((Below.refl _ _).alloc (Nat.le_refl _) _).trans (hb1.mono (by simp))
  have hpz := blk_lt hpb
  have hq0 : w1.cell? ⟨w.heap.size, 0, none⟩ = some (.int .i64 G) := blk_cell hpb rfl
  have hq1 : w1.cell? ⟨w.heap.size, 1, none⟩ = some (.int .i64 O) := blk_cell hpb rfl
  have hq2 : w1.cell? ⟨w.heap.size, 2, none⟩ = some (.int .i64 B) := blk_cell hpb rfl
  have hq3 : w1.cell? ⟨w.heap.size, 3, none⟩ = some (.slice (some ⟨go, 0, none⟩) L co) := blk_cell hpb rfl
  have HP := hide hpb
  clear hpb hb1 HSo
  have hcv := Lib.run_convert_bytes_const (P := Try.prog) w1 33 5 #[.int .u8 88, .int .u8 80] 2 2 Try.underlying33 Try.underlying5
  have hs2 : w1.heap.size + 1 + 1 = w1.heap.size + 2 := rfl
  go_wp2_with (first
    | (at_builtin; (refine appendG _ rfl (.tmp 12) (.tmp 22) 33 rfl 5 i1 (.int .u8 0) 1 1 Try.underlying33 ui uz0 uz1 uz2 rfl (by decide) ⟨w1.heap.size, 0, none⟩ 2 2 ([88, 80].map (Value.int .u8)) rfl rfl (by exact World.news_of_block (cs := #[.int .u8 88, .int .u8 80]) (t := 5) (fr := (2, 3)) (heap_new1 w1 _ _)) ⟨w1.heap.size + 1, 0, none⟩ 3 3 ([(G : Int), (O : Int), (B : Int)].map (Value.int .u8)) rfl rfl (by exact World.news_of_block (cs := #[.int .u8 G, .int .u8 O, .int .u8 B]) (t := 5) (fr := (0, 0)) (heap_new2 w1 _ _)) (by decide) (by decide) (by decide) ?_); intro v2 w2 hown2 hb2; go_must (have hb12 : Below w1.heap.size w1 w2 := (((Below.refl _ _).alloc (Nat.le_refl _) _).alloc (by simp) _).trans (hb2.mono (by simp; omega))); go_must (obtain ⟨g2, cap2, hv2, _, hg2z, _, _⟩ := own_form hown2 (by decide)); rw [hv2] at hown2; rw [hv2]; have e3 := (hb12.cell (p := ⟨w.heap.size, 3, none⟩) hpz).trans hq3; have hz2 := hb12.size; have hown2 := own_mono hown2 (show w1.heap.size ≤ _ by simp; omega))
    | (at_builtin; go_must (refine appendX (w2.alloc (.cells #[.int .u8 ((L : Int) % 256), .int .u8 ((L : Int) / 256)] 5)) rfl (.tmp 27) (.tmp 33) 33 rfl w1.heap.size 5 i1 (.int .u8 0) 1 1 Try.underlying33 ui uz0 uz1 uz2 rfl (by decide) _ _ _ rfl (hown2.alloc _) ⟨w2.heap.size, 0, none⟩ 2 2 ([(L : Int) % 256, (L : Int) / 256].map (Value.int .u8)) rfl rfl (by exact World.news_of_block (cs := #[.int .u8 ((L : Int) % 256), .int .u8 ((L : Int) / 256)]) (t := 5) (fr := (0, 0)) (heap_alloc_new w2 _)) (bytes_one _) (by decide) (by decide) (by decide) (by simp; omega) ?_); intro v3 w3 hown3 hb3 _ _; go_must (have hb13 : Below w1.heap.size w1 w3 := (hb12.alloc (by omega) _).trans hb3); go_must (obtain ⟨g3, cap3, hv3, _, hg3z, _, _⟩ := own_form hown3 (by decide)); rw [hv3] at hown3; rw [hv3]; have e3' := (hb13.cell (p := ⟨w.heap.size, 3, none⟩) hpz).trans hq3))
  have HB13 := hide hb13
  have HOw3 := hide hown3
  clear hown2 hown3 hb12 hb2 hb3 hb13 e3 hv2 hv3 hcv
  go_loopw [3, 6, 38] (fun v _ i wr => ∃ k : Nat, k ≤ L ∧ i = .int .i64 k ∧ wr.ownsRow w1.heap.size 5 1 v (7 + 3 * k) (([(88 : Int), 80, (G : Int), (O : Int), (B : Int), (L : Int) % 256, (L : Int) / 256] ++ (ops.take k).flatMap fun o => [o.1, o.2.1, o.2.2]).map (Value.int .u8)) ∧ Below w1.heap.size w1 wr) (fun _ _ i _ => L - (intOf i).toNat)
  case atStart => exact ⟨0, Nat.zero_le _, rfl, HOw3.out, HB13.out⟩
  case round =>
    clear HB13 HOw3 e3' hg3z
    obtain ⟨k, hk, rfl, hown, hbl⟩ := hrel
    have hsz := hbl.size
    obtain ⟨g, cap, hv, _, hgz, _, _⟩ := own_form hown (by omega)
    rw [hv] at hown
    subst hv
    by_cases hlt : k < L
    · obtain ⟨o, hoq⟩ : ∃ o, ops[k]? = some o := ⟨_, List.getElem?_eq_getElem (by rw [HL.out]; exact hlt)⟩
      have hoc := Sh.opCells_get hoq
      have hby := Sh.snd_byte HS.out hG hO hB hoq
      have HN := hide (Sh.oflat_snoc hoq)
      obtain ⟨kd, ot, os⟩ := o
      simp only at hoc hby HN
      obtain ⟨⟨b1, b2⟩, ⟨b3, b4⟩, ⟨b5, b6⟩⟩ := hby
      have hB := hlow.trans (hbl.mono (by omega))
      have x0 : wr.cell? ⟨go, k * 3, none⟩ = some (.int .i64 kd) := (hB.cell (p := ⟨go, k * 3, none⟩) hgo).trans (HCO.out (k * 3) _ hoc.1)
      have x1 : wr.cell? ⟨go, k * 3 + 1, none⟩ = some (.int .i64 ot) := (hB.cell (p := ⟨go, k * 3 + 1, none⟩) hgo).trans (HCO.out (k * 3 + 1) _ hoc.2.1)
      have x2 : wr.cell? ⟨go, k * 3 + 2, none⟩ = some (.int .i64 os) := (hB.cell (p := ⟨go, k * 3 + 2, none⟩) hgo).trans (HCO.out (k * 3 + 2) _ hoc.2.2)
      clear hoc hoq hB
      go_wp2_with (at_builtin; go_must (refine appendX ((wr.alloc (.cells #[.int .i64 kd, .int .i64 ot, .int .i64 os] 91)).alloc (.cells #[.int .u8 kd, .int .u8 ot, .int .u8 os] 5)) rfl (.tmp 42) (.tmp 52) 33 rfl w1.heap.size 5 i1 (.int .u8 0) 1 1 Try.underlying33 ui uz0 uz1 uz2 rfl (by decide) _ _ _ rfl ((hown.alloc _).alloc _) ⟨wr.heap.size + 1, 0, none⟩ 3 3 ([kd, ot, os].map (Value.int .u8)) rfl rfl (by exact World.news_of_block (cs := #[.int .u8 kd, .int .u8 ot, .int .u8 os]) (t := 5) (fr := (0, 0)) (heap_new2 wr _ _)) (bytes_one _) (by decide) (by unfold maxLen; omega) (by omega) (by simp; omega) ?_); intro v3 w3 hown3 hb3 _ _)
      go_roundw
      case rel =>
        refine ⟨k + 1, by omega, by go_num, ?_, ((hbl.alloc (by omega) _).alloc (by simp; omega) _).trans hb3⟩
        rw [HN.out, ← List.append_assoc, List.map_append]
        exact hown3
      case measure => simp [intOf]; omega
    · have hkL : L = k := by omega
      subst hkL
      have hta : ops.take L = ops := List.take_of_length_le (by rw [HL.out]; exact Nat.le_refl _)
      rw [hta] at hown
      have hcv := row_conv hown (by omega)
      go_wp2
      go_ret
      exact ⟨rfl, hlow.trans (hbl.mono (by omega))⟩
end Go.Proofs.Ytfnfnmonnfcpeab
