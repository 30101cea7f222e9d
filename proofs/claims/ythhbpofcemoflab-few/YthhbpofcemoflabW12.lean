import Derived.Test.YthhbpofcemoflabW11
import Derived.Test.YthhbpofcemoflabGe
import Derived.Deep.RegionHeld3
import Derived.Deep.RegionLaw
namespace Go.Proofs.Ythhbpofcemoflab
open Go.RowKit
set_option maxRecDepth 20000
theorem Try.infoOp : (Try.prog.info? 98).map (fun i => (i.zero, i.size, i.bytes)) = some (some (.agg #[.int .i64 0, .int .i64 0, .int .i64 0]), 3, 24) := by kernel_rfl
/-- a program that is being made, in its box -/
structure Sh.PB (w : World) (pb : Nat) (G O B : Int) (v : Value) (ops : List (Int × Int × Int)) : Prop where
  own : w.ownsRow (pb + 1) 98 3 v ops.length (Sh.opCells ops)
  box : w.heap[pb]? = some (.cells #[.int .i64 G, .int .i64 O, .int .i64 B, v] 49 (0, 0))
theorem Sh.PB.below {w w' : World} {pb : Nat} {G O B : Int} {v : Value} {ops : List (Int × Int × Int)} (h : Sh.PB w pb G O B v ops) (hb : Below w.heap.size w w') : Sh.PB w' pb G O B v ops := ⟨own_below h.own hb, (hb.block pb (blk_lt h.box)).trans h.box⟩

set_option maxHeartbeats 1000000 in
theorem lay_ok (pb : Nat) (G O B kd to fr : Int) (v : Value) (ops : List (Int × Int × Int)) (w : World) (hp : Sh.PB w pb G O B v ops) (hl : ops.length ≤ 4000) :
    Calls Try.prog 72 #[.pointer (some ⟨pb, 0, none⟩), .int .i64 kd, .int .i64 to, .int .i64 fr] w fun e w' => e = .returned (.tuple #[]) ∧ ∃ v', Sh.PB w' pb G O B v' (ops ++ [(kd, to, fr)]) ∧ Sh.Ad w w' pb v v' := by
  obtain ⟨i0, hi, hz0, hz1, hz2⟩ := info_parts Try.infoOp
  obtain ⟨hown, hbox⟩ := hp
  have hpl := blk_lt hbox
  have c3 : w.cell? ⟨pb, 3, none⟩ = some v := blk_cell (j := 3) hbox rfl
  have cf := blk_frozen hbox
  have Hbox := hide hbox
  have hnb : some pb ≠ v.ownBlock := fun h => by
    have := (hown.lt pb h.symm).1
    omega
  clear hbox
  go_enter Try.func72, Try.ntmps72
  go_wp2_with (at_builtin; refine append1x _ rfl (.tmp 12) (.tmp 17) 47 rfl (pb + 1) 98 i0 (.agg #[.int .i64 0, .int .i64 0, .int .i64 0]) 3 24 Try.underlying47 hi hz0 hz1 hz2 rfl (by decide) (by decide) _ _ _ _ rfl hown rfl rfl (by simp; exact ⟨rfl, rfl, rfl⟩) (by omega) (by omega) ?_; intro v' w2 hown2 hb2 hg2 hf2; have hm2 := (hg2.block pb hpl hnb).trans Hbox.out; have hm20 := blk_cell (j := 3) hm2 rfl; have hm2f := blk_frozen hm2 3; have Hm2 := hide hm2; have hlt2 := blk_lt hm2; obtain ⟨g2, cap2, hv2, hgb2, hgw2⟩ := own_form3 hown2 (by omega); rw [hv2] at hown2; rw [hv2]; clear hm2)
  go_end0
  refine ⟨rfl, .slice (some ⟨g2, 0, none⟩) (ops.length + 1) cap2, ⟨?_, ?_⟩, ⟨hg2.os, hg2.tape, hg2.output, by have := hg2.size; simpa [World.setCell] using this, ?_⟩, ?_⟩
  · rw [Sh.opCells_snoc, List.length_append]
    exact ownsRow_setCell_below hown2 (by simp) _
  · have := blk_set (j := 3) (u := .slice (some ⟨g2, 0, none⟩) (ops.length + 1) cap2) Hm2.out
    simpa using this
  · intro k hk h1 h2
    rw [Below.heap_setCell _ _ _ _ (by simpa using h1)]
    exact hg2.block k hk h2
  · have := hf2 g2 (by rw [hv2]; rfl)
    rcases this with h | h
    · exact Or.inl h.symm
    · exact Or.inr ⟨g2, rfl, h⟩

set_option maxHeartbeats 400000 in
theorem term_ok (pb G O i : Nat) (B : Int) (v : Value) (ops : List (Int × Int × Int)) (w : World) (hp : Sh.PB w pb G O B v ops) (hO : O ≤ 40) (hi : i ≤ 64) :
    Calls Try.prog 90 #[.pointer (some ⟨pb, 0, none⟩), .int .i64 i] w fun e w' => e = .returned (.int .i64 ((Sh.trm G O i : Nat) : Int)) ∧ w' = w := by
  have hpl := blk_lt hp.box
  have c0 : w.cell? ⟨pb, 0, none⟩ = some (.int .i64 G) := blk_cell (j := 0) hp.box rfl
  have c1 : w.cell? ⟨pb, 1, none⟩ = some (.int .i64 O) := blk_cell (j := 1) hp.box rfl
  clear hp
  by_cases h : i < G
  · have e : Sh.trm G O i = i := if_pos h
    rw [e]
    go_enter Try.func90, Try.ntmps90
    go_wp2
    go_ret
    exact ⟨rfl, rfl⟩
  · have e : ((Sh.trm G O i : Nat) : Int) = (i : Int) + (O : Int) := by unfold Sh.trm; rw [if_neg h]; omega
    rw [e]
    go_enter Try.func90, Try.ntmps90
    go_wp2
    go_ret
    exact ⟨rfl, rfl⟩

set_option maxHeartbeats 1000000 in
theorem addp_ok (pb G O : Nat) (B kd t : Int) (s : Nat) (v : Value) (ops : List (Int × Int × Int)) (w : World) (hp : Sh.PB w pb G O B v ops) (hO : O ≤ 40) (hs : s < 2 ^ 64) (hl : ops.length ≤ 3900) :
    Calls Try.prog 73 #[.pointer (some ⟨pb, 0, none⟩), .int .i64 kd, .int .i64 t, .int .u64 (s : Int)] w fun e w' => e = .returned (.tuple #[]) ∧ ∃ v', Sh.PB w' pb G O B v' (ops ++ Sh.addO G O kd t s) ∧ Sh.Ad w w' pb v v' := by
  have HP := hide hp
  clear hp
  have HS := hide hs
  clear hs
  obtain ⟨n64, hn64⟩ : ∃ n : Nat, n = 64 := ⟨_, rfl⟩
  have Hn := hide hn64
  go_enter Try.func73, Try.ntmps73
  go_wp2
  go_loopw [1, 8, 9] (fun kd' i' _ wr => ∃ (k : Nat) (v1 : Value), k ≤ n64 ∧ i' = .int .i64 k ∧ kd' = .int .i64 (Sh.addK kd s k) ∧ Sh.PB wr pb G O B v1 (ops ++ Sh.addN G O kd t s k) ∧ Sh.Ad w wr pb v v1) (fun _ i _ _ => n64 - (intOf i).toNat)
  case atStart => exact ⟨0, v, Nat.zero_le _, rfl, rfl, by show Sh.PB _ _ _ _ _ _ (ops ++ []); rw [List.append_nil]; exact HP.out, Sh.Ad.refl _ _ _⟩
  case round =>
    obtain ⟨k, v1, hk, rfl, rfl, hpb, had⟩ := hrel
    have hcast : (s : Int) / 2 ^ k = ((s / 2 ^ k : Nat) : Int) := by simp
    have hlen : (ops ++ Sh.addN G O kd t s k).length ≤ 4000 := by
      rw [List.length_append, Sh.addN_len]
      have := Sh.pcF_le k s
      omega
    by_cases hz : s / 2 ^ k = 0
    · have hz1 : ((s : Int) / 2 ^ k == 0) = true := by rw [hcast, hz]; rfl
      have hz2 : (s : Int) / 2 ^ k = 0 := by rw [hcast, hz]; rfl
      go_wp2
      go_end0
      exact ⟨rfl, v1, by rw [Sh.addN_end hz (by omega)]; exact hpb, had⟩
    · have hk64 : k < 64 := by
        apply Decidable.byContradiction
        intro h
        have : k = 64 := by omega
        subst this
        exact hz (Nat.div_eq_of_lt HS.out)
      have hz2 : ¬ (s : Int) / 2 ^ k = 0 := by rw [hcast]; omega
      have hz1 : ((s : Int) / 2 ^ k == 0) = false := beq_eq_false_iff_ne.2 hz2
      clear hz2
      have HT := hide (term_ok pb G O k B v1 _ wr hpb hO (by omega))
      have HL := hide (fun (kd fr : Int) => lay_ok pb G O B kd t fr v1 _ wr hpb hlen)
      have hb := Sh.bit_nat s k HS.out
      unfold Sh.bit at hb
      clear hcast hz hn64 hlen
      have Had := hide had
      have Hpb := hide hpb
      clear had hpb
      cases c : s.testBit k
      · rw [c] at hb
        have Hc := hide c
        clear c
        go_wp2
        go_roundw
        case rel => exact ⟨k + 1, v1, by rw [Hn.out]; omega, by go_num, val_int (Sh.addK_f Hc.out).symm, by rw [Sh.addN_f Hc.out]; exact Hpb.out, Had.out⟩
        case measure => have := Hn.out; simp [intOf]; omega
      · rw [c] at hb
        have Hc := hide c
        clear c
        go_wp2_with (first | (go_at_call 90; refine HT.out.mono ?_; rintro e w1 ⟨rfl, rfl⟩) | (go_at_call 72; refine (HL.out _ _).mono ?_; rintro e w2 ⟨rfl, v2, hp2, ha2⟩))
        go_roundw
        case rel => exact ⟨k + 1, v2, by rw [Hn.out]; omega, by go_num, val_int (Sh.addK_t Hc.out).symm, by rw [Sh.addN_t Hc.out, ← List.append_assoc]; exact hp2, Had.out.trans ha2⟩
        case measure => have := Hn.out; simp [intOf]; omega

set_option maxHeartbeats 400000 in
theorem sum_ok (pb G O : Nat) (B t : Int) (s : Nat) (v : Value) (ops : List (Int × Int × Int)) (w : World) (hp : Sh.PB w pb G O B v ops) (hO : O ≤ 40) (hs : s < 2 ^ 64) (hl : ops.length ≤ 3900) :
    Calls Try.prog 61 #[.pointer (some ⟨pb, 0, none⟩), .int .i64 t, .int .u64 (s : Int)] w fun e w' => e = .returned (.tuple #[]) ∧ ∃ v', Sh.PB w' pb G O B v' (ops ++ Sh.sumO G O t s) ∧ Sh.Ad w w' pb v v' := by
  have HA := hide (addp_ok pb G O B 1 t s v ops w hp hO hs hl)
  have HL := hide (lay_ok pb G O B 0 t 0 v ops w hp (by omega))
  by_cases h : s = 0
  · subst h
    have e : Sh.sumO G O t 0 = [(0, t, 0)] := if_pos rfl
    rw [e, show (((0 : Nat) : Int)) = 0 from rfl]
    clear hp hs HA
    go_enter Try.func61, Try.ntmps61
    go_wp2_with (go_at_call 72; refine HL.out.mono ?_; rintro e w2 ⟨rfl, v2, hp2, ha2⟩)
    exact bodyPost_ret (v := .tuple #[]) (by simp [results, Try.results61, go_sem]) rfl ⟨rfl, v2, hp2, ha2⟩
  · have e : Sh.sumO G O t s = Sh.addO G O 1 t s := if_neg h
    rw [e]
    have h1 : ((s : Int) == 0) = false := by simp; exact h
    have h2 : ¬ (s : Int) = 0 := by omega
    clear hp hs
    go_enter Try.func61, Try.ntmps61
    go_wp2_with (go_at_call 73; refine HA.out.mono ?_; rintro e w2 ⟨rfl, v2, hp2, ha2⟩)
    go_end0
    exact ⟨rfl, v2, hp2, ha2⟩

theorem Sh.PB.keep {w w2 : World} {pb : Nat} {G O B : Int} {v v2 : Value} {ops : List (Int × Int × Int)} (h : Sh.PB w pb G O B v ops) (ha : Sh.Ad w w2 pb v v2) {k : Nat} (hk : k < pb) : w2.heap[k]? = w.heap[k]? :=
  ha.1.block k (Nat.lt_trans hk (blk_lt h.box)) (by omega) (fun e => by have := (h.own.lt k e.symm).1; omega)
theorem Sh.PB.low {w w2 : World} {pb n : Nat} {G O B : Int} {v v2 : Value} {ops : List (Int × Int × Int)} (h : Sh.PB w pb G O B v ops) (ha : Sh.Ad w w2 pb v v2) (hn : n ≤ pb) : Below n w w2 :=
  ha.below hn (fun g hg => by have := (h.own.lt g hg).1; omega) (by have := blk_lt h.box; omega)
theorem own_sl {w : World} {base : Nat} {e : TypeId} {size : Nat} {v : Value} {n : Nat} {xs : List Value} (h : w.ownsRow base e size v n xs) : ∃ a c, v = .slice a n c := by
  obtain ⟨h1, h2⟩ := h
  rcases h2 with ⟨hv, h2⟩ | ⟨g, cap, cur, hv, _⟩
  · subst h2; exact ⟨none, 0, hv⟩
  · exact ⟨_, _, hv⟩

set_option maxHeartbeats 1000000 in
theorem plainN_ok (G : Nat) (v : Value) (base : Nat) (S : List Nat) (w : World) (hG : G ≤ 48) (hL1 : 1 ≤ S.length) (hL2 : S.length ≤ 40) (hS : ∀ s ∈ S, s < 2 ^ 64) (hv : w.ownsRow base 94 1 v S.length (S.map fun (s : Nat) => Value.int .u64 (s : Int))) :
    Calls Try.prog 50 #[.int .i64 G, v] w fun e w' => ∃ vo, e = .returned (.agg #[.int .i64 G, .int .i64 S.length, .int .i64 0, vo]) ∧
      w'.ownsRow w.heap.size 98 3 vo (Sh.sumsO G S.length S S.length).length (Sh.opCells (Sh.sumsO G S.length S S.length)) ∧ Below w.heap.size w w' := by
  obtain ⟨g, cap, rfl, _, hgw, hcap, hcells⟩ := own_form hv hL1
  have HCC : Hid (∀ (j : Nat) (x : Nat), S[j]? = some x → w.cell? ⟨g, j, none⟩ = some (.int .u64 (x : Int))) := fun j x hx => hcells j _ (by simp [hx])
  have HS := hide hS
  clear hcells hv hS
  have HLen := hide (Sh.sumsO_len G S.length S)
  generalize hL : S.length = L at *
  have HL := hide hL
  clear hL
  go_enter Try.func50, Try.ntmps50
  go_wp2
  go_loopw [6, 7, 14] (fun _ _ i' wr => ∃ (k : Nat) (v1 : Value), k ≤ L ∧ i' = .int .i64 k ∧ Sh.PB wr (w.heap.size + 1) G L 0 v1 (Sh.sumsO G L S k) ∧ wr.heap[w.heap.size]? = some (.cells #[.int .i64 0, .int .i64 0, .int .i64 0, .slice none 0 0] 49 (0, 0)) ∧ Below w.heap.size w wr) (fun _ _ i _ => L - (intOf i).toNat)
  case atStart =>
    refine ⟨0, .slice none 0 0, Nat.zero_le _, rfl, ⟨World.ownsRow_nil _ _ _ _, ?_⟩, ?_, ((Below.refl _ _).alloc (Nat.le_refl _) _).alloc (by simp) _⟩
    · exact heap_new2 w _ _
    · exact heap_new1 w _ _
  case round =>
    obtain ⟨k, v1, hk, rfl, hpb, hres, hlow⟩ := hrel
    by_cases hlt : k < L
    · have hlx : k < S.length := by rw [HL.out]; exact hlt
      have hck : wr.cell? ⟨g, k, none⟩ = some (.int .u64 ((S[k] : Nat) : Int)) := by
        rw [hlow.cell (p := ⟨g, k, none⟩) hgw]
        exact HCC.out k _ (List.getElem?_eq_getElem hlx)
      have hsm := sum_ok (w.heap.size + 1) G L 0 ((G : Int) + k) S[k] v1 _ wr hpb hL2 (HS.out _ (List.getElem_mem hlx)) (by have := HLen.out k; omega)
      have e : Sh.sumsO G L S k ++ Sh.sumO G L ((G : Int) + k) S[k] = Sh.sumsO G L S (k + 1) := by
        show _ = Sh.sumsO G L S k ++ Sh.sumO G L ((G + k : Nat) : Int) (S.getD k 0)
        rw [List.getD_eq_getElem?_getD, List.getElem?_eq_getElem hlx, Int.natCast_add]
        rfl
      rw [e] at hsm
      have HSm := hide hsm
      have Hpb := hide hpb
      have Hres := hide hres
      clear hsm e hpb hres
      go_wp2_with (go_at_call 61; refine HSm.out.mono ?_; rintro e w2 ⟨rfl, v2, hp2, ha2⟩)
      go_roundw
      case rel => exact ⟨k + 1, v2, by omega, by go_num, hp2, (Hpb.out.keep ha2 (by omega)).trans Hres.out, hlow.trans (Hpb.out.low ha2 (by omega))⟩
      case measure => simp [intOf]; omega
    · have hkd : k = L := by omega
      subst hkd
      obtain ⟨a, c, rfl⟩ := own_sl hpb.own
      have hc0 := blk_cell (j := 0) hpb.box rfl
      have hc1 := blk_cell (j := 1) hpb.box rfl
      have hc2 := blk_cell (j := 2) hpb.box rfl
      have hc3 := blk_cell (j := 3) hpb.box rfl
      have hr0 := blk_cell (j := 0) hres rfl
      have hr1 := blk_cell (j := 1) hres rfl
      have hr2 := blk_cell (j := 2) hres rfl
      have hr3 := blk_cell (j := 3) hres rfl
      have hfz := blk_frozen hres
      have hsz := blk_lt hpb.box
      go_wp2
      refine bodyPost_ret (v := .agg #[.int .i64 G, .int .i64 k, .int .i64 0, .slice a (Sh.sumsO G k S k).length c]) (by simp [results, Try.results50, go_sem, *]) rfl ⟨_, rfl, ?_, ?_⟩
      · exact own_mono (ownsRow_setCell_below (ownsRow_setCell_below (ownsRow_setCell_below (ownsRow_setCell_below hpb.own (by simp; omega) _) (by simp; omega) _) (by simp; omega) _) (by simp; omega) _) (by omega)
      · exact (((hlow.setCell (by simp) _).setCell (by simp) _).setCell (by simp) _).setCell (by simp) _
end Go.Proofs.Ythhbpofcemoflab
