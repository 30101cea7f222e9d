import Derived.Test.YthhbpofcemoflabL1
import Derived.BigQuiet
import Derived.Deep.QuietTactic
namespace Go.Proofs.Ythhbpofcemoflab
open Go.RowKit
set_option maxRecDepth 20000
namespace Sh
def atS : Nat → Nat
  | 0 => 0
  | k + 1 => atS k + 1 + atS k / 97
theorem atS_mono (k : Nat) : atS k ≤ atS (k + 1) := by simp only [atS]; omega
theorem atS_le {a b : Nat} (h : a ≤ b) : atS a ≤ atS b := by
  induction b with
  | zero => have : a = 0 := by omega
            subst this; exact Nat.le_refl _
  | succ b ih =>
    by_cases c : a = b + 1
    · subst c; exact Nat.le_refl _
    · exact Nat.le_trans (ih (by omega)) (atS_mono b)
theorem atS_top : atS 950 ≤ 10000000 := by decide +kernel
theorem at_small {k : Nat} (h : k ≤ 950) : atS k ≤ 10000000 := Nat.le_trans (atS_le h) atS_top
end Sh

set_option maxHeartbeats 400000 in
theorem some_any (s : ByteArray) (w : World) (hs : s.size ≤ maxLen) : Calls Try.prog 17 #[.string s] w fun e w' => ∃ t : ByteArray, e = .returned (.string t) ∧ t.size ≤ 300 ∧ w' = w := by
  unfold maxLen at hs
  by_cases h : 300 < s.size
  · go_enter Try.func17, Try.ntmps17
    go_wp2
    go_ret
    exact ⟨_, rfl, by simp; omega, rfl⟩
  · go_enter Try.func17, Try.ntmps17
    go_wp2
    go_ret
    exact ⟨s, rfl, by omega, rfl⟩

theorem own_of_blk {w : World} {b n : Nat} {e : TypeId} {base : Nat} {x : List Int} (h : w.heap[b]? = some (.cells (x.map (Value.int .u8)).toArray e (0, 0))) (hx : x.length = n) (hb : base ≤ b) (hn : n ≤ maxLen) : w.ownsRow base e 1 (.slice (some ⟨b, 0, none⟩) n n) n (x.map (Value.int .u8)) := by
  subst hx
  exact ⟨by simp, Or.inr ⟨b, x.length, _, rfl, hb, h, Nat.le_refl _, hn, by simp, by rw [List.toList_toArray, Nat.mul_one]; exact List.take_of_length_le (by simp)⟩⟩

set_option maxHeartbeats 2000000 in
theorem data_ok (cb : Nat) (kind : Int) (K M : Nat) (N gd : Int) (s : ByteArray) (w : World) (h : Sh.Ok kind K M N gd) (hs : s.size ≤ 300) (hcb : cb < w.heap.size)
    (c0 : w.cell? ⟨cb, 0, none⟩ = some (.int .i64 kind)) (c1 : w.cell? ⟨cb, 1, none⟩ = some (.int .i64 K)) (c2 : w.cell? ⟨cb, 2, none⟩ = some (.int .i64 M)) (c3 : w.cell? ⟨cb, 3, none⟩ = some (.int .i64 N)) (c4 : w.cell? ⟨cb, 4, none⟩ = some (.int .i64 gd)) :
    Calls Try.prog 29 #[.agg #[.int .i64 kind, .int .i64 K, .int .i64 M, .int .i64 N, .int .i64 gd], .pointer (some ⟨cb, 0, none⟩), .string s] w
      fun e w' => ∃ (v : Value) (ps : List (Nat × Nat × Nat)) (X : List (List Int)), e = .returned v ∧ ps.length = K ∧ Sh.Bytes X ∧ Sh.Own w' w.heap.size 33 5 v (Sh.R kind N * (1 + s.size % 17)) ps X ∧ Below w.heap.size w w' := by
  obtain ⟨hK, hM, h10, hR1, hR2, hKR, hMR, hPL⟩ := h.bounds
  have HRw := hide (fun (wx : World) (hb : Below w.heap.size w wx) => crows_ok cb kind K M N gd wx h (keepc hb hcb 0 c0) (keepc hb hcb 1 c1) (keepc hb hcb 2 c2) (keepc hb hcb 3 c3) (keepc hb hcb 4 c4))
  clear h c0 c1 c2 c3 c4
  obtain ⟨i0, hi, hz0, hz1, hz2⟩ := info_parts Try.infoSl
  generalize hR : Sh.R kind N = R at *
  clear hR
  have hsz : 1 + s.size % 17 ≤ 17 := by have := Nat.mod_lt s.size (show 0 < 17 by decide); omega
  have hn1 : 1 ≤ R * (1 + s.size % 17) := Nat.mul_pos hR1 (by omega)
  have hn2 : R * (1 + s.size % 17) ≤ 102 := by
    have : R * (1 + s.size % 17) ≤ 6 * 17 := Nat.mul_le_mul hR2 hsz
    omega
  have hnI : (R : Int) * (1 + (s.size : Int) % 17) = ((R * (1 + s.size % 17) : Nat) : Int) := by rw [Int.natCast_mul]; simp
  generalize hn : R * (1 + s.size % 17) = n at *
  clear hn
  have hmk := run_make_row' (P := Try.prog) 33 5 (.int .u8 0) 1 Try.underlying33 Try.infoU8 rfl .i64 .i64 n (by omega) (by omega)
  have hrb : 0 ≤ (R : Int) * (1 + (s.size : Int) % 17) ∧ (R : Int) * (1 + (s.size : Int) % 17) ≤ 102 := by omega
  go_enter Try.func29, Try.ntmps29
  go_wp2_with (go_at_call 13; refine (HRw.out _ ((Below.refl _ _).alloc (Nat.le_refl _) _)).mono ?_; rintro e w1 ⟨rfl, hb1⟩)
  have hlow1 : Below w.heap.size w w1 := ((Below.refl _ _).alloc (Nat.le_refl _) _).trans (hb1.mono (by simp))
  have hbox := (hb1.block w.heap.size (by simp)).trans (heap_alloc_new w _)
  have Hbox := hide hbox
  have hbz := blk_lt hbox
  clear hbox hb1 hnI hrb
  go_loopw [9, 10, 11, 12, 13, 14] (fun at' v i' _ _ _ wr => ∃ (j : Nat) (ps : List (Nat × Nat × Nat)) (X : List (List Int)), j ≤ K ∧ i' = .int .i64 j ∧ at' = .int .i64 (Sh.atS (j * n)) ∧ ps.length = j ∧ Sh.Bytes X ∧ Sh.Own wr w1.heap.size 33 5 v n ps X ∧ Below w1.heap.size w1 wr) (fun _ _ i _ _ _ _ => K - (intOf i).toNat)
  case atStart => exact ⟨0, [], [], Nat.zero_le _, rfl, by simp [Sh.atS], rfl, by intro x hx; simp at hx, ⟨World.ownsRow_nil _ _ _ _, rfl, by intro j p x hp; simp at hp, by simp⟩, Below.refl _ _⟩
  case round =>
    obtain ⟨j, ps, X, hj, rfl, rfl, hpl, hbX, hown, hbl⟩ := hrel
    have q1 : wr.cell? ⟨w.heap.size, 1, none⟩ = some (.int .i64 K) := blk_cell ((hbl.block w.heap.size hbz).trans Hbox.out) rfl
    have hsw := hbl.size
    by_cases hlt : j < K
    · have hjn : j * n + n ≤ 950 := by
        have : (j + 1) * n ≤ 9 * 102 := Nat.mul_le_mul (by omega) hn2
        rw [Nat.add_mul, Nat.one_mul] at this
        omega
      have HOwn := hide hown
      have HBX := hide hbX
      have HPL := hide hpl
      clear hown hbX hpl
      rename World => wz
      go_wp2
      go_loopw [9, 13] (fun at' i' wr => ∃ (i : Nat) (x : List Int), i ≤ n ∧ i' = .int .i64 i ∧ at' = .int .i64 (Sh.atS (j * n + i)) ∧ x.length = n ∧ (∀ b ∈ x, Sh.Byte b) ∧ wr.heap[wz.heap.size]? = some (.cells (x.map (Value.int .u8)).toArray 5 (0, 0)) ∧ Below wz.heap.size wz wr) (fun _ i _ => n - (intOf i).toNat)
      case atStart => exact ⟨0, List.replicate n 0, Nat.zero_le _, rfl, rfl, by simp, by intro b hb; rw [List.mem_replicate] at hb; rw [hb.2]; exact Sh.byte0, by rw [← made_zero]; exact heap_alloc_new wz _, (Below.refl _ _).alloc (Nat.le_refl _) _⟩
      case round =>
        obtain ⟨i, x, hii, rfl, rfl, hxl, hxb, hblk, hbw⟩ := hrel
        have hat := Sh.at_small (k := j * n + i) (by omega)
        have hat2 : Sh.atS (j * n + (i + 1)) = Sh.atS (j * n + i) + 1 + Sh.atS (j * n + i) / 97 := rfl
        have HAT := hide hat2
        have HXL := hide hxl
        have HXB := hide hxb
        have Hblk := hide hblk
        have hfz := blk_frozen hblk i
        clear hat2 hxl hxb
        generalize hA : Sh.atS (j * n + i) = A at *
        by_cases hli : i < n
        · have hix : i < x.length := by rw [HXL.out]; exact hli
          have hci : wr.cell? ⟨wz.heap.size, i, none⟩ = some (.int .u8 x[i]) := blk_cell hblk (by simp [hix])
          clear hblk
          generalize hx0 : x[i] = x0 at *
          clear hx0 hA
          by_cases hs0 : s.size = 0
          · have hsb : ((s.size : Int) == 0) = true := by simp [hs0]
            have dsz : decide (0 < (s.size : Int)) = false := decide_eq_false (by omega)
            go_wp2
            go_roundw
            case rel => exact ⟨i + 1, x, by omega, by go_num, val_int (by rw [HAT.out]; simp), HXL.out, HXB.out, Hblk.out, hbw⟩
            case measure => simp [intOf]; omega
          · have hmod : A % s.size < s.size := Nat.mod_lt _ (by omega)
            have dsz : decide (0 < (s.size : Int)) = true := decide_eq_true (by omega)
            go_wp2
            generalize hbt : (s[A % s.size].toNat : Int) = bt
            have hbb : Sh.Byte bt := by
              rw [← hbt]
              have := (s[A % s.size]).toNat_lt
              exact ⟨by omega, by omega⟩
            clear hbt
            go_roundw
            case rel => exact ⟨i + 1, x.set i bt, by omega, by go_num, val_int (by rw [HAT.out]; simp), by rw [List.length_set]; exact HXL.out, (fun b hb => (List.mem_or_eq_of_mem_set hb).elim (fun h => HXB.out b h) (fun h => h ▸ hbb)), by rw [blk_set (j := i) (u := .int .u8 bt) Hblk.out]; simp [List.map_set], hbw.setCell (by simp) _⟩
            case measure => simp [intOf]; omega
        · have hin : i = n := by omega
          have HIN := hide hin
          have HAi := hide hA
          clear hin
          have hrow := (HOwn.out.below hbw).row
          rw [HPL.out] at hrow
          have hzw := hbw.size
          clear hA
          go_wp2_with (at_builtin; refine append1x _ rfl (.tmp 53) (.tmp 55) 32 rfl w1.heap.size 33 i0 (.slice none 0 0) 1 24 Try.underlying32 hi hz0 hz1 hz2 rfl (by decide) (by decide) _ _ _ _ rfl hrow rfl rfl (by simp; rfl) (by omega) (by omega) ?_; intro v' w3 hown3 hb3 hg3 hf3)
          go_roundw
          case rel =>
            refine ⟨j + 1, ps ++ [(wz.heap.size, 0, n)], X ++ [x], by omega, by go_num, ?_, by simp [HPL.out], ?_, ?_, (hbl.trans (hbw.mono hsw)).trans hb3⟩
            · refine val_int ?_
              rw [Nat.add_mul, Nat.one_mul, ← HAi.out, HIN.out]
            · intro y hy
              rw [List.mem_append] at hy
              rcases hy with hy | hy
              · exact HBX.out y hy
              · simp at hy; subst hy; exact HXB.out
            · refine (HOwn.out.below hbw).push (by decide) wz.heap.size (own_of_blk Hblk.out HXL.out hsw (by unfold maxLen; omega)) ?_ (Nat.le_refl _) (by rw [HPL.out]; exact hown3) hg3
              intro p hp
              obtain ⟨q, hq⟩ := List.getElem?_of_mem hp
              obtain ⟨y, hy⟩ : ∃ y, X[q]? = some y := ⟨_, List.getElem?_eq_getElem (by rw [HOwn.out.lens]; exact (List.getElem?_eq_some_iff.1 hq).1)⟩
              exact ((HOwn.out.each q p y hq hy).2.lt p.1 rfl).2
          case measure => simp [intOf]; omega
    · have hjK : j = K := by omega
      subst hjK
      go_wp2
      go_ret
      exact ⟨_, ps, X, rfl, hpl, hbX, hown.mono hlow1.size, hlow1.trans (hbl.mono hlow1.size)⟩
end Go.Proofs.Ythhbpofcemoflab
namespace Go.Proofs.Ythhbpofcemoflab
open Go.RowKit
set_option maxRecDepth 20000

theorem below_drewN (w : World) (q : Nat) : Below w.heap.size w (w.drewN q) := ⟨rfl, rfl, rfl, Nat.le_refl _, fun _ _ => rfl⟩

set_option maxHeartbeats 1000000 in
theorem coded_ok (cb : Nat) (kind : Int) (K M : Nat) (N gd lev scr : Int) (blk : Nat) (cac : Int) (size : Nat) (v : Value) (base : Nat) (ps : List (Nat × Nat × Nat)) (X : List (List Int)) (w : World) (h : Sh.Ok kind K M N gd) (hcac : 0 ≤ cac) (hc4 : cac ≤ 4) (hbk : 1 ≤ blk) (hbk' : blk ≤ 64)
    (hs1 : 1 ≤ size) (hs2 : size ≤ 48) (hc : Sh.CS w cb kind K M N gd lev scr blk cac) (hd : Sh.Dat w base 33 v (Sh.R kind N * size) ps X) (hpl : ps.length = K) (hne : ∀ p ∈ ps, p.1 ≠ cb) (hX : Sh.Bytes X) :
    Calls Try.prog 34 #[.pointer (some ⟨cb, 0, none⟩), .int .i64 M, v] w fun e w' => ∃ (v' : Value) (qs : List (Nat × Nat × Nat)), e = .returned (.tuple #[v', .bool true]) ∧ qs.length = M ∧
      Sh.Own w' w.heap.size 33 5 v' (Sh.R kind N * size) qs (Sh.par kind K M N gd size X) ∧ Sh.CS w' cb kind K M N gd lev scr blk cac ∧ w.grownBy w' (some cb) := by
  obtain ⟨hK, hM, h10, hR1, hR2, hKR, hMR, hPL⟩ := h.bounds
  have HE := hide (encode_ok cb kind K M N gd lev scr blk cac size v base ps X w h hcac hc4 hbk hbk' hs1 hs2 hc hd hpl hne hX)
  obtain ⟨p0, g0, o0, z0, v0, cnt, hblk⟩ := hc.blk
  have HG := hide (fun (w' : World) (hg : w.grownBy w' (some cb)) => hd.grown hg hblk (by decide) hne)
  have hrow := hd.row
  rw [hpl] at hrow
  obtain ⟨gD, capD, hvD, _, hgD, hcD, hcellsD⟩ := own_form hrow hK
  have HPL := hide hpl
  have hn1 : 1 ≤ Sh.R kind N * size := Nat.mul_pos hR1 hs1
  clear hblk hc hd hne hpl h hrow hcellsD
  subst hvD
  generalize Sh.par kind K M N gd size X = PX at *
  generalize hn : Sh.R kind N * size = n at *
  clear hn
  go_enter Try.func34, Try.ntmps34
  go_wp2_with fail
  refine HE.out.mono ?_
  rintro e w1 ⟨v1, qs, rfl, hql, hown, hcs, hgr⟩
  have hrow1 := hown.row
  rw [hql] at hrow1
  obtain ⟨g1, cap1, hv1, hgb1, hg1, hcap1, hcells1⟩ := own_form hrow1 hM
  have HC1 := hide hcells1
  have hdr := (HG.out w1 hgr).row
  rw [HPL.out] at hdr
  obtain ⟨p, hp⟩ : ∃ p, ps[0]? = some p := ⟨_, List.getElem?_eq_getElem (by rw [HPL.out]; omega)⟩
  have d0 : w1.cell? ⟨gD, 0, none⟩ = some (.slice (some ⟨p.1, p.2.1, none⟩) n p.2.2) := own_cells hdr 0 _ (Sh.sv_get hp)
  have HOwn := hide hown
  have HCS := hide hcs
  have HGR := hide hgr
  have HQL := hide hql
  have HV1 := hide hv1
  clear hcells1 hown hcs hgr hql hv1 hrow1 hdr hp
  rw [HV1.out]
  have e1 : ((K : Int) == 0) = false := by simp; omega
  have e2 : ((n : Int) == 0) = false := by simp; omega
  go_wp2_with fail
  go_loopw [10] (fun i wr => ∃ k : Nat, k ≤ M ∧ i = .int .i64 k ∧ ∃ q, wr = w1.drewN q) (fun i _ => M - (intOf i).toNat)
  case atStart => exact ⟨0, Nat.zero_le _, rfl, 0, rfl⟩
  case round =>
    obtain ⟨k, hk, rfl, q, rfl⟩ := hrel
    by_cases hlk : k < M
    · obtain ⟨t, ht⟩ : ∃ t, qs[k]? = some t := ⟨_, List.getElem?_eq_getElem (by rw [HQL.out]; exact hlk)⟩
      have hck : w1.cell? ⟨g1, k, none⟩ = some (.slice (some ⟨t.1, t.2.1, none⟩) n t.2.2) := HC1.out k _ (Sh.sv_get ht)
      clear ht
      go_wp2
      go_quiet (fail)
      go_wp2
      go_roundw
      case rel => exact ⟨k + 1, by omega, by go_num, _, rfl⟩
      case measure => simp [intOf]; omega
    · have hkM : k = M := by omega
      subst hkM
      go_wp2
      go_ret2
      have hdb := below_drewN w1 q
      refine ⟨_, qs, rfl, HQL.out, ?_, Sh.CS.below HCS.out hdb, grown_drewN HGR.out _⟩
      have := HOwn.out.below hdb
      rw [HV1.out] at this
      exact this
end Go.Proofs.Ythhbpofcemoflab
