import Derived.Test.YthhbpofcemoflabX3
import Derived.Test.YthhbpofcemoflabGq
import Derived.Test.YthhbpofcemoflabPureI
import Derived.Deep.QuietTactic
namespace Go.Proofs.Ythhbpofcemoflab
open Go.RowKit
set_option maxRecDepth 20000
theorem Sh.iv64_get {l : List Nat} {j x : Nat} (h : l[j]? = some x) : (Sh.iv64 l)[j]? = some (.int .i64 (x : Int)) := by simp [Sh.iv64, h]
theorem Sh.iv64_set (l : List Nat) (j x : Nat) : (Sh.iv64 l).toArray.setIfInBounds j (.int .i64 (x : Int)) = (Sh.iv64 (l.set j x)).toArray := by simp [Sh.iv64, List.map_set]
theorem made_zeroI (n : Nat) : madeCells #[.int .i64 0] n = (Sh.iv64 (List.replicate n 0)).toArray := by
  apply Array.ext'
  rw [toList_madeCells_one]
  simp [Sh.iv64]
set_option maxHeartbeats 1000000 in
theorem means_ok (g G O x : Nat) (H : List Nat) (w : World) (hG : G ≤ 48) (hO : O ≤ 40) (hx : x < G + O) (hl : H.length = O) (hb : w.heap[g]? = some (.cells (Sh.iv64 H).toArray 3 (0, 0))) :
    Calls Try.prog 55 #[.slice (some ⟨g, 0, none⟩) O O, .int .i64 G, .int .i64 x] w fun e w' => e = .returned (.int .i64 ((if x < G then 2 ^ x else H.getD (x - G) 0 : Nat) : Int)) ∧ w' = w := by
  by_cases hxG : x < G
  · have hd : decide ((x : Int) < (G : Int)) = true := by simp; omega
    have hp : (if x < G then 2 ^ x else H.getD (x - G) 0 : Nat) = 2 ^ x := if_pos hxG
    have hc : ((2 ^ x : Nat) : Int) = (2 : Int) ^ x := by simp
    have hlt : (2 ^ x : Nat) < 2 ^ 48 := Nat.pow_lt_pow_right (by decide) (by omega)
    have hw : IntKind.i64.wrap ((2 : Int) ^ x) = (2 : Int) ^ x := by rw [← hc]; exact Sh.wrapi64 _ (by omega) (by omega)
    rw [hp, hc]
    clear hp hc hlt hb hl
    go_enter Try.func55, Try.ntmps55
    go_wp2
    go_ret
    exact ⟨rfl, rfl⟩
  · have hd : decide ((x : Int) < (G : Int)) = false := by simp; omega
    obtain ⟨d, hxd⟩ : ∃ d, x = G + d := ⟨x - G, by omega⟩
    have hdl : d < H.length := by omega
    have hp : (if x < G then 2 ^ x else H.getD (x - G) 0 : Nat) = H[d] := by
      rw [if_neg hxG, show x - G = d by omega, List.getD_eq_getElem?_getD, List.getElem?_eq_getElem hdl]
      rfl
    have hck : w.cell? ⟨g, d, none⟩ = some (.int .i64 ((H[d] : Nat) : Int)) := blk_cell hb (by
      have := Sh.iv64_get (List.getElem?_eq_getElem hdl)
      simpa using this)
    have hgz := blk_lt hb
    rw [hp]
    generalize H[d] = y at *
    have hwx : IntKind.i64.wrap ((x : Int) - (G : Int)) = (d : Int) := by rw [IntKind.wrap_i64]; omega
    have hdO : d < O := by omega
    have hd2 : decide ((d : Int) < (O : Int)) = true := by simp; omega
    clear hp hb hl hxd hdl
    go_enter Try.func55, Try.ntmps55
    go_wp2
    go_ret
    exact ⟨rfl, rfl⟩
theorem Sh.mval {G O : Nat} {ops : List (Int × Int × Int)} (hops : ∀ o ∈ ops, Sh.OpOk G (G + O) o) (k : Nat) {f : Nat} (hf : f < G + O) : (if f < G then 2 ^ f else (Sh.hel G O ops k).getD (f - G) 0) = Sh.sm G (ops.take k) f := by
  split
  · next h => exact (Sh.sm_given hops h k).symm
  · next h =>
    rw [List.getD_eq_getElem?_getD, Sh.hel_get (by omega), Option.getD_some, show G + (f - G) = f by omega]
set_option maxHeartbeats 4000000 in
theorem shared_ok (G : Nat) (S : List Nat) (ops : List (Int × Int × Int)) (s : ByteArray) (w : World) (hgd : Sh.Good G S 0 ops) (hf : Sh.Fit G S) (hs : s = strOfNums (Sh.txt G S.length 0 ops)) :
    Calls Try.prog 40 #[.string s] w fun e w' => ∃ bb : Bool, e = .returned (.bool bb) ∧ (bb = true → Sh.Two S) ∧ Below w.heap.size w w' := by
  have hsz : s.size = 7 + 3 * ops.length := by rw [hs, strOfNums_size, Sh.txt_len]
  have Hs := hide hs
  clear hs
  have hG := hf.g
  have hO1 := hf.l1
  have hO := hf.l
  have hn := hgd.len
  have HTwo : Hid (∀ i j : Nat, j < i → i < S.length → (S.getD i 0 &&& S.getD j 0) &&& ((S.getD i 0 &&& S.getD j 0) - 1) ≠ 0 → Sh.Two S) := fun i j h1 h2 h3 => ⟨i, j, h1, h2, h3⟩
  generalize Sh.Two S = two at *
  have HLt := hide (fun (i x : Nat) (hx : S[i]? = some x) => Nat.lt_of_lt_of_le (hf.lt x (List.mem_of_getElem? hx)) (Nat.pow_le_pow_right (by decide : 0 < 2) hG))
  have HHel := hide hgd.hel
  have HSb := hide (fun (k : Nat) (o : Int × Int × Int) (ho : ops[k]? = some o) => Sh.snd_byte hgd.snd hG hO (Nat.zero_le _) ho)
  have HOp := hide (fun (k : Nat) (o : Int × Int × Int) (ho : ops[k]? = some o) => hgd.ok o (List.mem_of_getElem? ho))
  have HMv := hide (fun (k f : Nat) (hf : f < G + S.length) => Sh.mval (O := S.length) hgd.ok k hf)
  have HSm := hide (fun (k r : Nat) => Nat.lt_of_lt_of_le (Sh.sm_lt G ops k r) (Nat.pow_le_pow_right (by decide : 0 < 2) hG))
  clear hgd hf
  generalize hLO : S.length = O at *
  have HLO := hide hLO
  clear hLO
  generalize hL : ops.length = L at *
  have HL := hide hL
  clear hL
  have hszI : (s.size : Int) = 7 + 3 * (L : Int) := by omega
  have HTx := hide (fun (i : Nat) (x : Int) (hx : (Sh.txt G O 0 ops)[i]? = some x) (h0 : 0 ≤ x) (h1 : x < 256) => str_at Hs.out i x hx h0 h1)
  have f2 := HTx.out 2 (G : Int) rfl (by omega) (by omega)
  have f3 := HTx.out 3 (O : Int) rfl (by omega) (by omega)
  have wG : IntKind.i64.wrap (G : Int) = (G : Int) := by rw [IntKind.wrap_i64]; omega
  have wO : IntKind.i64.wrap (O : Int) = (O : Int) := by rw [IntKind.wrap_i64]; omega
  have hmk := run_make_row' (P := Try.prog) 63 3 (.int .i64 0) 8 Try.underlying63 Try.infoI rfl .i64 .i64 O (by omega) (by omega)
  go_enter Try.func40, Try.ntmps40
  go_wp2
  clear f2 f3 hmk wG wO
  go_loopw [6, 7, 8] (fun i _ _ wr => ∃ (k A : Nat), k ≤ L ∧ A = 7 + 3 * k ∧ i = .int .i64 A ∧ wr.heap[w.heap.size]? = some (.cells (Sh.iv64 (Sh.hel G O ops k)).toArray 3 (0, 0)) ∧ Below w.heap.size w wr) (fun i _ _ _ => 7 + 3 * L - (intOf i).toNat)
  case atStart => exact ⟨0, 7, Nat.zero_le _, rfl, rfl, by rw [Sh.hel_zero, ← made_zeroI]; exact heap_alloc_new w _, (Below.refl _ _).alloc (Nat.le_refl _) _⟩
  case round =>
    obtain ⟨k, A, hk, hA, rfl, hblk, hbl⟩ := hrel
    have HA := hide hA
    by_cases hlt : k < L
    · have hA7 : A + 3 ≤ 7 + 3 * L := by omega
      have hA6 : A ≤ 7000 := by omega
      obtain ⟨A1, hA1⟩ : ∃ A1, A1 = A + 1 := ⟨_, rfl⟩
      obtain ⟨A2, hA2⟩ : ∃ A2, A2 = A + 2 := ⟨_, rfl⟩
      have i0' : (A : Int) < 7 + 3 * (L : Int) := by omega
      have i1' : (A1 : Int) < 7 + 3 * (L : Int) := by omega
      have i2' : (A2 : Int) < 7 + 3 * (L : Int) := by omega
      have w1' : IntKind.i64.wrap ((A : Int) + 1) = (A1 : Int) := by rw [IntKind.wrap_i64]; omega
      have w2' : IntKind.i64.wrap ((A : Int) + 2) = (A2 : Int) := by rw [IntKind.wrap_i64]; omega
      have HA1 := hide hA1
      have HA2 := hide hA2
      clear hA1 hA2 hA
      obtain ⟨o, hoq⟩ : ∃ o, ops[k]? = some o := ⟨_, List.getElem?_eq_getElem (by rw [HL.out]; exact hlt)⟩
      have ht := Sh.txt_get (G := G) (O := O) (B := 0) hoq
      have hby := HSb.out k o hoq
      obtain ⟨hkd, t, f, ht1, hf1, hGt, htn, hfn, hft⟩ := HOp.out k o hoq
      rw [Nat.add_zero] at htn hfn
      obtain ⟨kd, ot, os⟩ := o
      simp only at ht hby hkd ht1 hf1
      subst ht1
      subst hf1
      obtain ⟨⟨b1, b2⟩, ⟨b3, b4⟩, ⟨b5, b6⟩⟩ := hby
      have g0 := HTx.out A kd (by rw [HA.out]; exact ht.1) b1 (by omega)
      have g1 := HTx.out A1 (t : Int) (by rw [HA1.out, HA.out]; exact ht.2.1) b3 (by omega)
      have g2 := HTx.out A2 (f : Int) (by rw [HA2.out, HA.out]; exact ht.2.2) b5 (by omega)
      obtain ⟨d, hd⟩ : ∃ d, t = G + d := ⟨t - G, by omega⟩
      have wd' : IntKind.i64.wrap ((t : Int) - (G : Int)) = (d : Int) := by rw [IntKind.wrap_i64]; omega
      have wt' : IntKind.i64.wrap (t : Int) = (t : Int) := by rw [IntKind.wrap_i64]; omega
      have wf' : IntKind.i64.wrap (f : Int) = (f : Int) := by rw [IntKind.wrap_i64]; omega
      have hdO : d < O := by omega
      have dd1 : decide ((d : Int) < 0) = false := by simp
      have dd2 : decide ((O : Int) ≤ (d : Int)) = false := by simp; omega
      have HMn := hide (means_ok w.heap.size G O f (Sh.hel G O ops k) wr hG hO hfn (Sh.hel_len _ _ _ _) hblk)
      rw [HMv.out k f hfn] at HMn
      have hck : wr.cell? ⟨w.heap.size, d, none⟩ = some (.int .i64 ((Sh.sm G (ops.take k) (G + d) : Nat) : Int)) := blk_cell hblk (by
        have := Sh.iv64_get (Sh.hel_get (G := G) (ops := ops) (k := k) hdO)
        simpa using this)
      have hfz := blk_frozen hblk d
      have hwz := blk_lt hblk
      have HHs := hide (Sh.hel_succ (G := G) (O := O) hoq (by rw [hd]))
      have Hblk := hide hblk
      have hs1 := HSm.out k (G + d)
      have hs2 := HSm.out k f
      have hxr := Sh.bits_xori (Sh.sm G (ops.take k) (G + d)) (Sh.sm G (ops.take k) f) (by omega) (by omega)
      have HSS : Hid (∀ x : Nat, Sh.smS (kd, (t : Int), (f : Int)) (Sh.sm G (ops.take k)) (G + d) = x → (wr.setCell ⟨w.heap.size, d, none⟩ (.int .i64 (x : Int))).heap[w.heap.size]? = some (.cells (Sh.iv64 (Sh.hel G O ops (k + 1))).toArray 3 (0, 0))) := fun x hx => by
        rw [HHs.out, hx, ← Sh.iv64_set]
        exact blk_set Hblk.out
      have HS0 : Hid (kd = 0 → Sh.smS (kd, (t : Int), (f : Int)) (Sh.sm G (ops.take k)) (G + d) = 0) := fun h => by
        show (if G + d = (t : Int).toNat then _ else _) = _
        rw [Int.toNat_natCast, if_pos hd.symm, h]
        rfl
      have HS1 : Hid (kd = 1 → Sh.smS (kd, (t : Int), (f : Int)) (Sh.sm G (ops.take k)) (G + d) = Sh.sm G (ops.take k) f) := fun h => by
        show (if G + d = (t : Int).toNat then _ else _) = _
        rw [Int.toNat_natCast, if_pos hd.symm, h]
        rfl
      have HS2 : Hid (kd = 2 → Sh.smS (kd, (t : Int), (f : Int)) (Sh.sm G (ops.take k)) (G + d) = Sh.sm G (ops.take k) (G + d) ^^^ Sh.sm G (ops.take k) f) := fun h => by
        show (if G + d = (t : Int).toNat then _ else _) = _
        rw [Int.toNat_natCast, if_pos hd.symm, h, hd]
        rfl
      clear hblk ht hoq hft hd HMv HHs
      generalize Sh.smS (kd, (t : Int), (f : Int)) (Sh.sm G (ops.take k)) (G + d) = sv at *
      generalize Sh.sm G (ops.take k) (G + d) = xa at *
      generalize Sh.sm G (ops.take k) f = xb at *
      rcases hkd with rfl | rfl | rfl
      · have Hv := hide (HSS.out 0 (HS0.out rfl))
        clear HS0 HS1 HS2 HSS
        go_wp2_with (go_at_call 55; refine HMn.out.mono ?_; rintro e w2 ⟨rfl, rfl⟩)
        go_roundw
        case rel => exact ⟨k + 1, A + 3, by omega, by have := HA.out; omega, by go_num, Hv.out, hbl.setCell (by simp) _⟩
        case measure => simp [intOf]; omega
      · have Hv := hide (HSS.out xb (HS1.out rfl))
        clear HS0 HS1 HS2 HSS
        go_wp2_with (go_at_call 55; refine HMn.out.mono ?_; rintro e w2 ⟨rfl, rfl⟩)
        go_roundw
        case rel => exact ⟨k + 1, A + 3, by omega, by have := HA.out; omega, by go_num, Hv.out, hbl.setCell (by simp) _⟩
        case measure => simp [intOf]; omega
      · have Hv := hide (HSS.out (xa ^^^ xb) (HS2.out rfl))
        clear HS0 HS1 HS2 HSS
        go_wp2_with (go_at_call 55; refine HMn.out.mono ?_; rintro e w2 ⟨rfl, rfl⟩)
        go_roundw
        case rel => exact ⟨k + 1, A + 3, by omega, by have := HA.out; omega, by go_num, Hv.out, hbl.setCell (by simp) _⟩
        case measure => simp [intOf]; omega
    · have hkL : k = L := by omega
      subst hkL
      rw [HHel.out] at hblk
      have hAi : ¬ ((A : Int) + 2 < 7 + 3 * (k : Int)) := by omega
      have dA : decide ((A : Int) + 2 < 7 + 3 * (k : Int)) = false := decide_eq_false hAi
      have HCC : Hid (∀ (wy : World), Below wr.heap.size wr wy → ∀ (j : Nat) (x : Nat), S[j]? = some x → wy.cell? ⟨w.heap.size, j, none⟩ = some (.int .i64 (x : Int))) := fun wy hb j x hx => keepc hb (blk_lt hblk) j (blk_cell hblk (by
        have := Sh.iv64_get hx
        simpa using this))
      have hwz := blk_lt hblk
      clear hblk HHel HMv HSm HOp HSb HTx
      rename World => wz
      go_wp2
      go_loopw [9, 10, 11] (fun i _ _ wr => ∃ m : Nat, m ≤ O ∧ i = .int .i64 m ∧ Below wz.heap.size wz wr) (fun i _ _ _ => O - (intOf i).toNat)
      case atStart => exact ⟨0, Nat.zero_le _, rfl, Below.refl _ _⟩
      case round =>
        obtain ⟨m, hm, rfl, hbm⟩ := hrel
        by_cases hlm : m < O
        · obtain ⟨xm, hxm⟩ : ∃ x, S[m]? = some x := ⟨_, List.getElem?_eq_getElem (by rw [HLO.out]; exact hlm)⟩
          have Hxm := hide hxm
          have hm62 := HLt.out m xm hxm
          clear hxm
          go_wp2
          go_loopw [10, 11] (fun i _ wr => ∃ p : Nat, p ≤ m ∧ i = .int .i64 p ∧ Below wz.heap.size wz wr) (fun i _ _ => m - (intOf i).toNat)
          case atStart => exact ⟨0, Nat.zero_le _, rfl, hbm⟩
          case round =>
            clear hbm
            obtain ⟨p, hp, rfl, hbp⟩ := hrel
            by_cases hlp : p < m
            · obtain ⟨xp, hxp⟩ : ∃ x, S[p]? = some x := ⟨_, List.getElem?_eq_getElem (by rw [HLO.out]; omega)⟩
              have hp62 := HLt.out p xp hxp
              have k1 := HCC.out wr hbp m xm Hxm.out
              have k2 := HCC.out wr hbp p xp hxp
              have hsz9 := hbp.size
              have hand := Sh.bits_andi xm xp (by omega) (by omega)
              have hzl : xm &&& xp < 2 ^ 48 := Nat.lt_of_le_of_lt Nat.and_le_left hm62
              have hles := Sh.bits_less (xm &&& xp) (by omega)
              have htw := HTwo.out m p hlp hlm
              rw [show S.getD m 0 = xm by rw [List.getD_eq_getElem?_getD, Hxm.out]; rfl, show S.getD p 0 = xp by rw [List.getD_eq_getElem?_getD, hxp]; rfl] at htw
              have Htw := hide htw
              clear hxp htw hp62
              generalize xm &&& xp = z at *
              have wz' : IntKind.i64.wrap ((z : Int) - 1) = (z : Int) - 1 := by rw [IntKind.wrap_i64]; omega
              by_cases hz0 : z &&& (z - 1) = 0
              · rw [hz0] at hles
                have hne : (bits .and .i64 (z : Int) ((z : Int) - 1) != 0) = false := by rw [hles]; rfl
                go_wp2
                go_quiet (fail)
                go_wp2
                go_roundw
                case rel => exact ⟨p + 1, by omega, by go_num, hbp.trans ⟨rfl, rfl, rfl, Nat.le_refl _, fun _ _ => rfl⟩⟩
                case measure => simp [intOf]; omega
              · have hne : (bits .and .i64 (z : Int) ((z : Int) - 1) != 0) = true := by rw [hles]; simp; omega
                go_wp2
                go_quiet (fail)
                go_wp2
                go_ret
                exact ⟨true, rfl, fun _ => Htw.out hz0, (hbl.trans (hbp.mono hbl.size)).trans ⟨rfl, rfl, rfl, Nat.le_refl _, fun _ _ => rfl⟩⟩
            · have hpm : p = m := by omega
              subst hpm
              go_wp2
              go_roundw
              case rel => exact ⟨p + 1, by omega, by go_num, hbp⟩
              case measure => simp [intOf]; omega
        · have hmO : m = O := by omega
          subst hmO
          go_wp2
          go_ret
          exact ⟨false, rfl, (fun h => by cases h), hbl.trans (hbm.mono hbl.size)⟩
end Go.Proofs.Ythhbpofcemoflab
