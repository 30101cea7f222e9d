import Derived.Test.YthhbpofcemoflabQ4
import Derived.Test.YthhbpofcemoflabQ2
import Derived.BigQuiet
import Derived.Deep.QuietTactic
import Derived.Test.YthhbpofcemoflabW12
namespace Go.Proofs.Ythhbpofcemoflab
open Go.RowKit
set_option maxRecDepth 20000
/-- a pair in memory -/
def Sh.prC (st : Nat × Nat × Nat × Nat) : Array Value := #[.int .i64 (st.1 : Int), .int .i64 (st.2.1 : Int), .int .u64 (st.2.2.1 : Int)]
structure Sh.CmS (w wr : World) (st : Nat × Nat × Nat × Nat) : Prop where
  best : wr.heap[w.heap.size + 1]? = some (.cells (Sh.prC st) 125 (0, 0))
  res : wr.heap[w.heap.size]? = some (.cells #[.int .i64 0, .int .i64 0, .int .u64 0] 125 (0, 0))
  low : Below w.heap.size w wr
theorem Sh.CmS.drew {w wr : World} {st : Nat × Nat × Nat × Nat} (h : Sh.CmS w wr st) (n : Nat) : Sh.CmS w (wr.drewN n) st := ⟨h.best, h.res, h.low.trans ⟨rfl, rfl, rfl, Nat.le_refl _, fun _ _ => rfl⟩⟩
theorem Sh.CmS.put {w wr : World} {st : Nat × Nat × Nat × Nat} (h : Sh.CmS w wr st) (st' : Nat × Nat × Nat × Nat) : Sh.CmS w (((wr.setCell ⟨w.heap.size + 1, 0, none⟩ (.int .i64 (st'.1 : Int))).setCell ⟨w.heap.size + 1, 1, none⟩ (.int .i64 (st'.2.1 : Int))).setCell ⟨w.heap.size + 1, 2, none⟩ (.int .u64 (st'.2.2.1 : Int))) st' := by
  refine ⟨?_, ?_, ((h.low.setCell (by simp) _).setCell (by simp) _).setCell (by simp) _⟩
  · rw [blk_set (blk_set (blk_set h.best))]
    simp [Sh.prC]
  · rw [Below.heap_setCell _ _ _ _ (by simp), Below.heap_setCell _ _ _ _ (by simp), Below.heap_setCell _ _ _ _ (by simp)]
    exact h.res

set_option maxHeartbeats 2000000 in
theorem commonest_ok (v : Value) (base : Nat) (T : List Nat) (w : World) (hn1 : 1 ≤ T.length) (hn : T.length ≤ 64) (hT : Sh.US T) (hv : w.ownsRow base 94 1 v T.length (Sh.nvl T)) :
    Calls Try.prog 82 #[v] w fun e w' => e = .returned (.agg (Sh.prC (Sh.com T))) ∧ Below w.heap.size w w' := by
  obtain ⟨g, cap, rfl, _, hgw, hcap, hcells⟩ := own_form hv hn1
  have HCC : Hid (∀ (wr : World), Below w.heap.size w wr → ∀ (j : Nat) (x : Nat), T[j]? = some x → wr.cell? ⟨g, j, none⟩ = some (.int .u64 (x : Int))) := fun wr hb j x hx => keepc hb hgw j (hcells j _ (Sh.nvl_get hx))
  have HC : Hid (Sh.com T = Sh.cmO T T.length) := rfl
  rw [HC.out]
  clear hcells hv HC
  have HOn := hide (fun (s : Nat) (w : World) (hs : Sh.U64 s) => ones_ok s w hs.lt)
  have HIt := hide (fun (b a : Nat) (st : Nat × Nat × Nat × Nat) => Sh.cmI_t (T := T) (b := b) (st := st) (a := a))
  have HIf := hide (fun (b a : Nat) (st : Nat × Nat × Nat × Nat) => Sh.cmI_f (T := T) (b := b) (st := st) (a := a))
  obtain ⟨P, hP⟩ : ∃ P : Nat → Nat, P = Sh.pc := ⟨_, rfl⟩
  rw [← hP] at HOn HIt HIf
  have HPl := hide (show ∀ s, P s ≤ 64 by rw [hP]; intro s; exact Sh.pcF_le 64 s)
  clear hP
  generalize hL : T.length = n at *
  have HL := hide hL
  clear hL
  go_enter Try.func82, Try.ntmps82
  go_wp2
  go_loopw [4, 5, 6, 7, 8, 12] (fun mo _ _ _ _ i wr => ∃ k : Nat, k ≤ n ∧ i = .int .i64 k ∧ mo = .int .i64 ((Sh.cmO T k).2.2.2 : Int) ∧ Sh.CmS w wr (Sh.cmO T k)) (fun _ _ _ _ _ i _ => n - (intOf i).toNat)
  case atStart => exact ⟨0, Nat.zero_le _, rfl, rfl, heap_new2 w _ _, heap_new1 w _ _, ((Below.refl _ _).alloc (Nat.le_refl _) _).alloc (by simp) _⟩
  case round =>
    obtain ⟨k, hk, rfl, rfl, hcm⟩ := hrel
    by_cases hlt : k < n
    · obtain ⟨xk, hxk⟩ : ∃ x, T[k]? = some x := ⟨_, List.getElem?_eq_getElem (by rw [HL.out]; exact hlt)⟩
      have HXk := hide hxk
      have HSt : Hid (Sh.cmO T (k + 1) = Sh.cmI T k (Sh.cmO T k) k) := rfl
      generalize Sh.cmO T k = st at *
      go_wp2
      go_loopw [4, 6, 7, 8, 16] (fun mo _ _ _ i wr => ∃ m : Nat, m ≤ k ∧ i = .int .i64 m ∧ mo = .int .i64 ((Sh.cmI T k st m).2.2.2 : Int) ∧ Sh.CmS w wr (Sh.cmI T k st m)) (fun _ _ _ _ i _ => k - (intOf i).toNat)
      case atStart => exact ⟨0, Nat.zero_le _, rfl, rfl, hcm⟩
      case round =>
        clear hcm
        obtain ⟨m, hm, rfl, rfl, hcm⟩ := hrel
        by_cases hlt2 : m < k
        · obtain ⟨xm, hxm⟩ : ∃ x, T[m]? = some x := ⟨_, List.getElem?_eq_getElem (by rw [HL.out]; omega)⟩
          have k1 := HCC.out wr hcm.low m xm hxm
          have k2 := HCC.out wr hcm.low k xk HXk.out
          have gm : T.getD m 0 = xm := by rw [List.getD_eq_getElem?_getD, hxm]; rfl
          have gk : T.getD k 0 = xk := by rw [List.getD_eq_getElem?_getD, HXk.out]; rfl
          have hum := hT.lt xm (List.mem_of_getElem? hxm)
          have huk := hT.lt xk (List.mem_of_getElem? HXk.out)
          have hand := Sh.bits_andu xm xk hum huk
          have hUz : Sh.U64 (xm &&& xk) := ⟨Nat.lt_of_le_of_lt Nat.and_le_left hum⟩
          have hit := HIt.out k m st
          have hif := HIf.out k m st
          rw [gm, gk] at hit hif
          have HOz := hide (fun w => HOn.out (xm &&& xk) w hUz)
          have hP64 := HPl.out (xm &&& xk)
          have hb0 : wr.cell? ⟨w.heap.size + 1, 0, none⟩ = some _ := blk_cell (j := 0) hcm.best rfl
          have hb1 : wr.cell? ⟨w.heap.size + 1, 1, none⟩ = some _ := blk_cell (j := 1) hcm.best rfl
          have hb2 : wr.cell? ⟨w.heap.size + 1, 2, none⟩ = some _ := blk_cell (j := 2) hcm.best rfl
          have hbf := blk_frozen hcm.best
          have hbz := blk_lt hcm.best
          have hgz : g < wr.heap.size := by have := hcm.low.size; omega
          have Hcm := hide hcm
          clear hcm hxm gm gk hum huk hUz
          generalize hz : xm &&& xk = z at *
          generalize hsi : Sh.cmI T k st m = si at *
          have HIt2 := hide hit
          have HIf2 := hide hif
          clear hit hif hz hsi
          by_cases hgt : si.2.2.2 < P z
          · have hd : decide ((si.2.2.2 : Int) < (P z : Int)) = true := by simp; omega
            go_wp2
            go_quiet (fail)
            go_wp2_with (go_at_call 91; refine (HOz.out _).mono ?_; rintro e w1 ⟨rfl, rfl⟩)
            go_roundw
            case rel => exact ⟨m + 1, by omega, by go_num, val_int (by rw [HIt2.out hgt]), by rw [HIt2.out hgt]; exact (Hcm.out.drew _).put (m, k, z, P z)⟩
            case measure => simp [intOf]; omega
          · have hd : decide ((si.2.2.2 : Int) < (P z : Int)) = false := by simp; omega
            go_wp2
            go_quiet (fail)
            go_wp2_with (go_at_call 91; refine (HOz.out _).mono ?_; rintro e w1 ⟨rfl, rfl⟩)
            go_roundw
            case rel => exact ⟨m + 1, by omega, by go_num, val_int (by rw [HIf2.out hgt]), by rw [HIf2.out hgt]; exact Hcm.out.drew _⟩
            case measure => simp [intOf]; omega
        · have hmk : m = k := by omega
          subst hmk
          go_wp2
          go_roundw
          case rel => exact ⟨m + 1, by omega, by go_num, val_int (by rw [HSt.out]), by rw [HSt.out]; exact hcm⟩
          case measure => simp [intOf]; omega
    · have hkn : k = n := by omega
      subst hkn
      have hb0 : wr.cell? ⟨w.heap.size + 1, 0, none⟩ = some (.int .i64 ((Sh.cmO T k).1 : Int)) := blk_cell (j := 0) hcm.best rfl
      have hb1 : wr.cell? ⟨w.heap.size + 1, 1, none⟩ = some (.int .i64 ((Sh.cmO T k).2.1 : Int)) := blk_cell (j := 1) hcm.best rfl
      have hb2 : wr.cell? ⟨w.heap.size + 1, 2, none⟩ = some (.int .u64 ((Sh.cmO T k).2.2.1 : Int)) := blk_cell (j := 2) hcm.best rfl
      have hr0 := blk_cell (j := 0) hcm.res rfl
      have hr1 := blk_cell (j := 1) hcm.res rfl
      have hr2 := blk_cell (j := 2) hcm.res rfl
      have hfz := blk_frozen hcm.res
      have hsz := blk_lt hcm.best
      have hlow := hcm.low
      have HPr : Hid (Sh.prC (Sh.cmO T k) = #[.int .i64 ((Sh.cmO T k).1 : Int), .int .i64 ((Sh.cmO T k).2.1 : Int), .int .u64 ((Sh.cmO T k).2.2.1 : Int)]) := rfl
      clear hcm
      generalize hst : Sh.cmO T k = st at *
      go_wp2
      refine bodyPost_ret (v := .agg #[.int .i64 (st.1 : Int), .int .i64 (st.2.1 : Int), .int .u64 (st.2.2.1 : Int)]) (by simp [results, Try.results82, go_sem, *]) rfl ⟨by rw [hst, HPr.out], ?_⟩
      exact ((hlow.setCell (by simp) _).setCell (by simp) _).setCell (by simp) _
end Go.Proofs.Ythhbpofcemoflab
namespace Go.Proofs.Ythhbpofcemoflab
open Go.RowKit
set_option maxRecDepth 20000
theorem Sh.PB.inc {w : World} {pb : Nat} {G O B : Int} {v : Value} {ops : List (Int × Int × Int)} (h : Sh.PB w pb G O B v ops) (B' : Int) : Sh.PB (w.setCell ⟨pb, 2, none⟩ (.int .i64 B')) pb G O B' v ops := by
  refine ⟨ownsRow_setCell_below h.own (by simp) _, ?_⟩
  have := blk_set (j := 2) (u := .int .i64 B') h.box
  simpa using this
theorem Sh.Ad.inc (w : World) (pb : Nat) (v u : Value) (j : Nat) : Sh.Ad w (w.setCell ⟨pb, j, none⟩ u) pb v v :=
  ⟨⟨rfl, rfl, rfl, by simp [World.setCell], fun k _ h1 _ => Below.heap_setCell _ _ _ _ (by simpa using h1)⟩, Or.inl rfl⟩
theorem Sh.pow_wrap {a : Nat} (ha : a < 64) : IntKind.u64.wrap ((2 : Int) ^ a) = (2 : Int) ^ a := by
  have hpa : 2 ^ a < 2 ^ 64 := Nat.pow_lt_pow_right (by decide) ha
  have e : (2 : Int) ^ a = ((2 ^ a : Nat) : Int) := by simp
  rw [e]
  generalize 2 ^ a = y at *
  exact Sh.wrapu64 _ (by omega) (by omega)
theorem Sh.bits_andnotu (x y : Nat) (hx : x < 2 ^ 64) : bits .andNot .u64 (x : Int) ((x &&& y : Nat) : Int) = ((x ^^^ (x &&& y) : Nat) : Int) := by
  have hc : x &&& y < 2 ^ 64 := Nat.lt_of_le_of_lt Nat.and_le_left hx
  have hz : x ^^^ (x &&& y) < 2 ^ 64 := Nat.xor_lt_two_pow hx hc
  have key : (BitVec.ofNat 64 x &&& ~~~(BitVec.ofNat 64 (x &&& y))) = BitVec.ofNat 64 (x ^^^ (x &&& y)) := by
    apply BitVec.eq_of_getLsbD_eq
    intro i hi
    simp only [BitVec.getLsbD_and, BitVec.getLsbD_not, BitVec.getLsbD_ofNat, Nat.testBit_and, Nat.testBit_xor]
    cases x.testBit i <;> cases y.testBit i <;> simp [hi]
  have h2 := congrArg BitVec.toNat key
  rw [BitVec.toNat_ofNat, Nat.mod_eq_of_lt hz] at h2
  simp only [bits, BitVec.ofInt_natCast]
  have h3 : (BitVec.ofNat IntKind.u64.bits x &&& ~~~(BitVec.ofNat IntKind.u64.bits (x &&& y))).toNat = x ^^^ (x &&& y) := h2
  rw [h3]
  exact Sh.wrapu64 _ (by omega) (by omega)

set_option maxHeartbeats 1000000 in
theorem join_ok (pb G O B a b c : Nat) (v : Value) (ops : List (Int × Int × Int)) (w : World) (hp : Sh.PB w pb G O (B : Int) v ops) (hG : G ≤ 48) (hO : O ≤ 40) (hB : B ≤ 16) (ha : a < 64) (hb : b < 64) (hl : ops.length ≤ 3900) :
    Calls Try.prog 83 #[.pointer (some ⟨pb, 0, none⟩), .agg #[.int .i64 (a : Int), .int .i64 (b : Int), .int .u64 (c : Int)]] w fun e w' => e = .returned (.tuple #[]) ∧ ∃ v', Sh.PB w' pb G O ((B : Int) + 1) v' (ops ++ Sh.sumO G O ((G : Int) + (O : Int) + (B : Int)) (2 ^ a ||| 2 ^ b)) ∧ Sh.Ad w w' pb v v' := by
  have hpa : 2 ^ a < 2 ^ 64 := Nat.pow_lt_pow_right (by decide) ha
  have hpb' : 2 ^ b < 2 ^ 64 := Nat.pow_lt_pow_right (by decide) hb
  have hor : bits .or .u64 ((2 : Int) ^ a) ((2 : Int) ^ b) = ((2 ^ a ||| 2 ^ b : Nat) : Int) := by
    have := Sh.bits_oru (2 ^ a) (2 ^ b) hpa hpb'
    simpa using this
  have hwa := Sh.pow_wrap ha
  have hwb := Sh.pow_wrap hb
  obtain ⟨W1, hW1⟩ : ∃ W1 : World, W1 = w.alloc (.cells #[.int .i64 (a : Int), .int .i64 (b : Int), .int .u64 (c : Int)] 125) := ⟨_, rfl⟩
  have hlow1 : Below w.heap.size w W1 := by rw [hW1]; exact (Below.refl _ _).alloc (Nat.le_refl _) _
  have hnew : W1.heap[w.heap.size]? = some (.cells #[.int .i64 (a : Int), .int .i64 (b : Int), .int .u64 (c : Int)] 125 (0, 0)) := by rw [hW1]; exact heap_alloc_new w _
  have hp1 := hp.below hlow1
  have hs64 : 2 ^ a ||| 2 ^ b < 2 ^ 64 := Nat.or_lt_two_pow hpa hpb'
  have hdr : ∀ n : Nat, Below W1.heap.size W1 (W1.drewN n) := fun n => ⟨rfl, rfl, rfl, Nat.le_refl _, fun _ _ => rfl⟩
  have HS := hide (fun (n : Nat) => sum_ok pb G O ((B : Int) + 1) ((G : Int) + (O : Int) + (B : Int)) (2 ^ a ||| 2 ^ b) v ops _ ((hp1.below (hdr n)).inc ((B : Int) + 1)) hO hs64 hl)
  have HA := hide (fun (n : Nat) => ((Sh.Ad.of hlow1 pb v).trans (Sh.Ad.of (hdr n) pb v)).trans (Sh.Ad.inc (W1.drewN n) pb v (.int .i64 ((B : Int) + 1)) 2))
  have c0 : W1.cell? ⟨pb, 0, none⟩ = some (.int .i64 (G : Int)) := blk_cell (j := 0) hp1.box rfl
  have c1 : W1.cell? ⟨pb, 1, none⟩ = some (.int .i64 (O : Int)) := blk_cell (j := 1) hp1.box rfl
  have c2 : W1.cell? ⟨pb, 2, none⟩ = some (.int .i64 (B : Int)) := blk_cell (j := 2) hp1.box rfl
  have cf := blk_frozen hp1.box
  have n0 : W1.cell? ⟨w.heap.size, 0, none⟩ = some (.int .i64 (a : Int)) := blk_cell (j := 0) hnew rfl
  have n1 : W1.cell? ⟨w.heap.size, 1, none⟩ = some (.int .i64 (b : Int)) := blk_cell (j := 1) hnew rfl
  have n2 : W1.cell? ⟨w.heap.size, 2, none⟩ = some (.int .u64 (c : Int)) := blk_cell (j := 2) hnew rfl
  have hpz := blk_lt hp.box
  have hnz := blk_lt hnew
  have hne : pb ≠ w.heap.size := by omega
  have HW1 := hide hW1
  clear hp hp1 hpa hpb' hs64 hnew hlow1 hdr
  generalize 2 ^ a ||| 2 ^ b = z at *
  go_enter Try.func83, Try.ntmps83
  go_wp2
  rw [← HW1.out]
  clear hW1 HW1
  go_quiet (fail)
  go_wp2_with (go_at_call 61; refine (HS.out _).mono ?_; rintro e w2 ⟨rfl, v2, hp2, ha2⟩)
  go_end0
  exact ⟨rfl, v2, hp2, (HA.out _).trans ha2⟩
set_option maxHeartbeats 400000 in
theorem bounded_ok (G O B : Nat) (a : Option Addr) (L c : Nat) (w : World) (hG : G ≤ 48) (hO : O ≤ 40) (hB : B ≤ 16) (hL : L ≤ 2048) :
    Calls Try.prog 63 #[.agg #[.int .i64 G, .int .i64 O, .int .i64 B, .slice a L c]] w fun e w' => e = .returned (.bool true) ∧ w' = w.alloc (.cells #[.int .i64 G, .int .i64 O, .int .i64 B, .slice a L c] 49) := by
  have d1 : decide (48 < (G : Int)) = false := by simp; omega
  have d2 : decide (40 < (O : Int)) = false := by simp; omega
  have d3 : decide ((B : Int) ≤ 16) = true := by simp; omega
  have d4 : decide ((L : Int) ≤ 2048) = true := by simp; omega
  go_enter Try.func63, Try.ntmps63
  go_wp2
  go_ret
  exact ⟨rfl, rfl⟩

end Go.Proofs.Ythhbpofcemoflab
