import Derived.Test.YthhbpofcemoflabX1
import Derived.Lib.SlBytesConst
import Derived.ArgAppend
namespace Go.Proofs.Ythhbpofcemoflab
open Go.RowKit
set_option maxRecDepth 20000
theorem row_conv {w : World} {base : Nat} {v : Value} {n : Nat} {xs : List Int} (h : w.ownsRow base 5 1 v n (xs.map (Value.int .u8))) (hn : 1 ≤ n) : (convert 33 9 v).run Try.prog w = .ok (.string (strOfNums xs)) w := by
  obtain ⟨g, cap, rfl, _, _, _, hc⟩ := own_form h hn
  have hl : xs.length = n := by have := h.1; simpa using this
  exact run_convert_bytes_arg (P := Try.prog) w 33 5 Try.underlying33 Try.underlying5 g 0 n cap xs hl (fun i hi => by
    rw [List.getD_eq_getElem?_getD, List.getElem?_eq_getElem (by omega), Option.getD_some, Nat.zero_add]
    exact hc i _ (by rw [List.getElem?_map, List.getElem?_eq_getElem (by omega)]; rfl)) 9 Try.underlying9
theorem bytes_one (l : List Int) : ∀ u ∈ l.map (Value.int .u8), u.oneCell' = true := by
  intro u hu
  rw [List.mem_map] at hu
  obtain ⟨b, _, rfl⟩ := hu
  rfl
/-- bytes behind a full row, whatever its mark -/
theorem appendG {P : Program} {ops : Array Oper} {rest : List Oper} {o : Oper} {a : Act} {Q : Exit → Act → World → Prop} (w : World) (hgd : o.guard = Option.none) (s x : Operand) (t : TypeId)
    (ho : o.op = .call { callee := .builtin .append, args := #[s, x], argTypes := #[t, t] })
    (e : TypeId) (i : TypeInfo) (z : Value) (size bytes : Nat) (ht : P.underlying t = some (.slice e)) (hi : P.info? e = some i) (hz : i.zero = some z)
    (hsize : i.size = size) (hby : i.bytes = bytes) (hzs : z.cells.size = size) (hsz : 0 < size)
    (b : Addr) (n cap : Nat) (olds : List Value) (hs : a.eval s = .slice (some b) n cap) (hlo : olds.length = n * size) (holds : ∀ j u, olds[j]? = some u → w.cell? (b.add j) = some u)
    (ad : Addr) (m c : Nat) (news : List Value) (hx : a.eval x = .slice (some ad) m c) (hl : news.length = m * size) (hnews : ∀ j u, news[j]? = some u → w.cell? (ad.add j) = some u)
    (hg : cap < n + m) (h63 : n + m ≤ maxLen) (hbytes : (n + m) * bytes ≤ 140737488355328)
    (h : ∀ v' w', w'.ownsRow w.heap.size e size v' (n + m) (olds ++ news) → Below w.heap.size w w' → wpList P ops Q rest (a.put o.dst v') w') : wpList P ops Q (o :: rest) a w := by
  obtain ⟨v', w', hr, h2, h3⟩ := run_append_arg_grows (P := P) w t o.type e i z size bytes ht hi hz hsize hby hzs hsz b n cap olds hlo holds ad m c news hl hnews hg h63 hbytes
  refine wpList_plain hgd fun _ hK => ?_
  unfold Oper.wp execOp
  simp only [ho, resolve, invoke, builtin, Sem.run_bind, Sem.run_pure, Result.andThen_ok, List.map_toArray, List.map_cons, List.map_nil, hs, hx, hr]
  exact hK _ _ (h v' w' h2 ((Below.refl _ w).grown h3 (Nat.le_refl _) (fun k hk => by cases hk)))
set_option maxHeartbeats 2000000 in
theorem text_ok (G O B : Nat) (ops : List (Int × Int × Int)) (bo go co : Nat) (w : World) (hG : G ≤ 48) (hO : O ≤ 40) (hB : B ≤ 16) (hn1 : 1 ≤ ops.length) (hn : ops.length ≤ 2048) (hS : Sh.Snd G O B ops) (ho : w.ownsRow bo 98 3 (.slice (some ⟨go, 0, none⟩) ops.length co) ops.length (Sh.opCells ops)) :
    Calls Try.prog 51 #[.agg #[.int .i64 G, .int .i64 O, .int .i64 B, .slice (some ⟨go, 0, none⟩) ops.length co]] w fun e w' => e = .returned (.string (strOfNums (Sh.txt G O B ops))) ∧ Below w.heap.size w w' := by
  obtain ⟨i1, ui, uz0, uz1, uz2⟩ := info_parts Try.infoU8
  have hgo : go < w.heap.size := (ho.lt go rfl).2
  have HCO := hide (own_cells ho)
  have HS := hide hS
  have HSo := hide (fun (wx : World) (hx : Below w.heap.size w wx) => sound_ok G O B ops bo go co wx hG hO hB hn1 hn hS (own_below ho hx))
  have HT : Hid (Sh.txt G O B ops = [(88 : Int), 80, (G : Int), (O : Int), (B : Int), (ops.length : Int) % 256, (ops.length : Int) / 256] ++ ops.flatMap fun o => [o.1, o.2.1, o.2.2]) := rfl
  rw [HT.out]
  clear hS ho HT
  generalize hL : ops.length = L at *
  have HL : Hid (ops.length = L) := hL
  clear hL
  go_enter Try.func51, Try.ntmps51
  go_wp2_with fail
  refine (HSo.out _ ((Below.refl _ _).alloc (Nat.le_refl _) _)).mono ?_
  rintro e w1 ⟨rfl, hb1⟩
  have hs1 := hb1.size
  simp only [World.size_alloc] at hs1
  have hpb := (hb1.block w.heap.size (by simp)).trans (heap_alloc_new w _)
  have hlow : Below w.heap.size w w1 := ((Below.refl _ _).alloc (Nat.le_refl _) _).trans (hb1.mono (by simp))
  have hpz := blk_lt hpb
  have hq0 : w1.cell? ⟨w.heap.size, 0, none⟩ = some (.int .i64 G) := blk_cell hpb rfl
  have hq1 : w1.cell? ⟨w.heap.size, 1, none⟩ = some (.int .i64 O) := blk_cell hpb rfl
  have hq2 : w1.cell? ⟨w.heap.size, 2, none⟩ = some (.int .i64 B) := blk_cell hpb rfl
  have hq3 : w1.cell? ⟨w.heap.size, 3, none⟩ = some (.slice (some ⟨go, 0, none⟩) L co) := blk_cell hpb rfl
  have HP := hide hpb
  clear hpb hb1 HSo
  have hcv := Lib.run_convert_bytes_const (P := Try.prog) w1 33 5 #[.int .u8 88, .int .u8 80] 2 2 Try.underlying33 Try.underlying5
  have hs2 : w1.heap.size + 1 + 1 = w1.heap.size + 2 := rfl
  go_wp2_with (first
    | (at_builtin; (refine appendG _ rfl (.tmp 12) (.tmp 22) 33 rfl 5 i1 (.int .u8 0) 1 1 Try.underlying33 ui uz0 uz1 uz2 rfl (by decide) ⟨w1.heap.size, 0, none⟩ 2 2 ([88, 80].map (Value.int .u8)) rfl rfl (by exact World.news_of_block (cs := #[.int .u8 88, .int .u8 80]) (t := 5) (fr := (2, 3)) (heap_new1 w1 _ _)) ⟨w1.heap.size + 1, 0, none⟩ 3 3 ([(G : Int), (O : Int), (B : Int)].map (Value.int .u8)) rfl rfl (by exact World.news_of_block (cs := #[.int .u8 G, .int .u8 O, .int .u8 B]) (t := 5) (fr := (0, 0)) (heap_new2 w1 _ _)) (by decide) (by decide) (by decide) ?_); intro v2 w2 hown2 hb2; go_must (have hb12 : Below w1.heap.size w1 w2 := (((Below.refl _ _).alloc (Nat.le_refl _) _).alloc (by simp) _).trans (hb2.mono (by simp; omega))); go_must (obtain ⟨g2, cap2, hv2, _, hg2z, _, _⟩ := own_form hown2 (by decide)); rw [hv2] at hown2; rw [hv2]; have e3 := (hb12.cell (p := ⟨w.heap.size, 3, none⟩) hpz).trans hq3; have hz2 := hb12.size; have hown2 := own_mono hown2 (show w1.heap.size ≤ _ by simp; omega))
    | (at_builtin; go_must (refine appendX (w2.alloc (.cells #[.int .u8 ((L : Int) % 256), .int .u8 ((L : Int) / 256)] 5)) rfl (.tmp 27) (.tmp 33) 33 rfl w1.heap.size 5 i1 (.int .u8 0) 1 1 Try.underlying33 ui uz0 uz1 uz2 rfl (by decide) _ _ _ rfl (hown2.alloc _) ⟨w2.heap.size, 0, none⟩ 2 2 ([(L : Int) % 256, (L : Int) / 256].map (Value.int .u8)) rfl rfl (by exact World.news_of_block (cs := #[.int .u8 ((L : Int) % 256), .int .u8 ((L : Int) / 256)]) (t := 5) (fr := (0, 0)) (heap_alloc_new w2 _)) (bytes_one _) (by decide) (by decide) (by decide) (by simp; omega) ?_); intro v3 w3 hown3 hb3 _ _; go_must (have hb13 : Below w1.heap.size w1 w3 := (hb12.alloc (by omega) _).trans hb3); go_must (obtain ⟨g3, cap3, hv3, _, hg3z, _, _⟩ := own_form hown3 (by decide)); rw [hv3] at hown3; rw [hv3]; have e3' := (hb13.cell (p := ⟨w.heap.size, 3, none⟩) hpz).trans hq3))
  have HB13 := hide hb13
  have HOw3 := hide hown3
  clear hown2 hown3 hb12 hb2 hb3 hb13 e3 hv2 hv3 hcv
  go_loopw [3, 6, 38] (fun v _ i wr => ∃ k : Nat, k ≤ L ∧ i = .int .i64 k ∧ wr.ownsRow w1.heap.size 5 1 v (7 + 3 * k) (([(88 : Int), 80, (G : Int), (O : Int), (B : Int), (L : Int) % 256, (L : Int) / 256] ++ (ops.take k).flatMap fun o => [o.1, o.2.1, o.2.2]).map (Value.int .u8)) ∧ Below w1.heap.size w1 wr) (fun _ _ i _ => L - (intOf i).toNat)
  case atStart => exact ⟨0, Nat.zero_le _, rfl, HOw3.out, HB13.out⟩
  case round =>
    clear HB13 HOw3 e3' hg3z
    obtain ⟨k, hk, rfl, hown, hbl⟩ := hrel
    have hsz := hbl.size
    obtain ⟨g, cap, hv, _, hgz, _, _⟩ := own_form hown (by omega)
    rw [hv] at hown
    subst hv
    by_cases hlt : k < L
    · obtain ⟨o, hoq⟩ : ∃ o, ops[k]? = some o := ⟨_, List.getElem?_eq_getElem (by rw [HL.out]; exact hlt)⟩
      have hoc := Sh.opCells_get hoq
      have hby := Sh.snd_byte HS.out hG hO hB hoq
      have HN := hide (Sh.oflat_snoc hoq)
      obtain ⟨kd, ot, os⟩ := o
      simp only at hoc hby HN
      obtain ⟨⟨b1, b2⟩, ⟨b3, b4⟩, ⟨b5, b6⟩⟩ := hby
      have hB := hlow.trans (hbl.mono (by omega))
      have x0 : wr.cell? ⟨go, k * 3, none⟩ = some (.int .i64 kd) := (hB.cell (p := ⟨go, k * 3, none⟩) hgo).trans (HCO.out (k * 3) _ hoc.1)
      have x1 : wr.cell? ⟨go, k * 3 + 1, none⟩ = some (.int .i64 ot) := (hB.cell (p := ⟨go, k * 3 + 1, none⟩) hgo).trans (HCO.out (k * 3 + 1) _ hoc.2.1)
      have x2 : wr.cell? ⟨go, k * 3 + 2, none⟩ = some (.int .i64 os) := (hB.cell (p := ⟨go, k * 3 + 2, none⟩) hgo).trans (HCO.out (k * 3 + 2) _ hoc.2.2)
      clear hoc hoq hB
      go_wp2_with (at_builtin; go_must (refine appendX ((wr.alloc (.cells #[.int .i64 kd, .int .i64 ot, .int .i64 os] 98)).alloc (.cells #[.int .u8 kd, .int .u8 ot, .int .u8 os] 5)) rfl (.tmp 42) (.tmp 52) 33 rfl w1.heap.size 5 i1 (.int .u8 0) 1 1 Try.underlying33 ui uz0 uz1 uz2 rfl (by decide) _ _ _ rfl ((hown.alloc _).alloc _) ⟨wr.heap.size + 1, 0, none⟩ 3 3 ([kd, ot, os].map (Value.int .u8)) rfl rfl (by exact World.news_of_block (cs := #[.int .u8 kd, .int .u8 ot, .int .u8 os]) (t := 5) (fr := (0, 0)) (heap_new2 wr _ _)) (bytes_one _) (by decide) (by unfold maxLen; omega) (by omega) (by simp; omega) ?_); intro v3 w3 hown3 hb3 _ _)
      go_roundw
      case rel =>
        refine ⟨k + 1, by omega, by go_num, ?_, ((hbl.alloc (by omega) _).alloc (by simp; omega) _).trans hb3⟩
        rw [HN.out, ← List.append_assoc, List.map_append]
        exact hown3
      case measure => simp [intOf]; omega
    · have hkL : L = k := by omega
      subst hkL
      have hta : ops.take L = ops := List.take_of_length_le (by rw [HL.out]; exact Nat.le_refl _)
      rw [hta] at hown
      have hcv := row_conv hown (by omega)
      go_wp2
      go_ret
      exact ⟨rfl, hlow.trans (hbl.mono (by omega))⟩
end Go.Proofs.Ythhbpofcemoflab
