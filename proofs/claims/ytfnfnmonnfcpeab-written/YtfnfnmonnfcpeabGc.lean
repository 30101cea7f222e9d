import Derived.Test.YtfnfnmonnfcpeabL1
import Derived.BigQuiet
import Derived.Deep.QuietTactic
import Derived.Test.YtfnfnmonnfcpeabGa
import Derived.Test.YtfnfnmonnfcpeabGb
namespace Go.Proofs.Ytfnfnmonnfcpeab
open Go.RowKit
set_option maxRecDepth 20000
namespace Sh
def atS : Nat → Nat
  | 0 => 0
  | k + 1 => atS k + 1 + atS k / 97
theorem atS_mono (k : Nat) : atS k ≤ atS (k + 1) := by simp only [atS]; omega
theorem atS_le {a b : Nat} (h : a ≤ b) : atS a ≤ atS b := by
  induction b with
  | zero => have : a = 0 := by omega
            subst this; exact Nat.le_refl _
  | succ b ih =>
    by_cases c : a = b + 1
    · subst c; exact Nat.le_refl _
    · exact Nat.le_trans (ih (by omega)) (atS_mono b)
theorem atS_top : atS 950 ≤ 10000000 := by decide +kernel
theorem at_small {k : Nat} (h : k ≤ 950) : atS k ≤ 10000000 := Nat.le_trans (atS_le h) atS_top
end Sh

set_option maxHeartbeats 400000 in
theorem some_any (s : ByteArray) (w : World) (hs : s.size ≤ maxLen) : Calls Try.prog 16 #[.string s] w fun e w' => ∃ t : ByteArray, e = .returned (.string t) ∧ t.size ≤ 300 ∧ w' = w := by
  unfold maxLen at hs
  by_cases h : 300 < s.size
  · go_enter Try.func16, Try.ntmps16
    go_wp2
    go_ret
    exact ⟨_, rfl, by simp; omega, rfl⟩
  · go_enter Try.func16, Try.ntmps16
    go_wp2
    go_ret
    exact ⟨s, rfl, by omega, rfl⟩

theorem own_of_blk {w : World} {b n : Nat} {e : TypeId} {base : Nat} {x : List Int} (h : w.heap[b]? = some (.cells (x.map (Value.int .u8)).toArray e (0, 0))) (hx : x.length = n) (hb : base ≤ b) (hn : n ≤ maxLen) : w.ownsRow base e 1 (.slice (some ⟨b, 0, none⟩) n n) n (x.map (Value.int .u8)) := by
  subst hx
  exact ⟨by simp, Or.inr ⟨b, x.length, _, rfl, hb, h, Nat.le_refl _, hn, by simp, by rw [List.toList_toArray, Nat.mul_one]; exact List.take_of_length_le (by simp)⟩⟩

set_option maxHeartbeats 2000000 in
theorem data_ok (cb : Nat) (kind : Int) (K M : Nat) (N gd : Int) (s : ByteArray) (w : World) (h : Sh.Ok kind K M N gd) (hs : s.size ≤ 300) (hcb : cb < w.heap.size)
    (c0 : w.cell? ⟨cb, 0, none⟩ = some (.int .i64 kind)) (c1 : w.cell? ⟨cb, 1, none⟩ = some (.int .i64 K)) (c2 : w.cell? ⟨cb, 2, none⟩ = some (.int .i64 M)) (c3 : w.cell? ⟨cb, 3, none⟩ = some (.int .i64 N)) (c4 : w.cell? ⟨cb, 4, none⟩ = some (.int .i64 gd)) :
    Calls Try.prog 27 #[.agg #[.int .i64 kind, .int .i64 K, .int .i64 M, .int .i64 N, .int .i64 gd], .pointer (some ⟨cb, 0, none⟩), .string s] w
      fun e w' => ∃ (v : Value) (ps : List (Nat × Nat × Nat)) (X : List (List Int)), e = .returned v ∧ ps.length = K ∧ Sh.Bytes X ∧ Sh.Own w' w.heap.size 33 5 v (Sh.R kind N * (1 + s.size % 17)) ps X ∧ Below w.heap.size w w' := by
  obtain ⟨hK, hM, h10, hR1, hR2, hKR, hMR, hPL⟩ := h.bounds
  have HRw := hide (fun (wx : World) (hb : Below w.heap.size w wx) => crows_ok cb kind K M N gd wx h (keepc hb hcb 0 c0) (keepc hb hcb 1 c1) (keepc hb hcb 2 c2) (keepc hb hcb 3 c3) (keepc hb hcb 4 c4))
  clear h c0 c1 c2 c3 c4
  obtain ⟨i0, hi, hz0, hz1, hz2⟩ := info_parts Try.infoSl
  generalize hR : Sh.R kind N = R at *
  clear hR
  have hsz : 1 + s.size % 17 ≤ 17 := by have := Nat.mod_lt s.size (show 0 < 17 by decide); omega
  have hn1 : 1 ≤ R * (1 + s.size % 17) := Nat.mul_pos hR1 (by omega)
  have hn2 : R * (1 + s.size % 17) ≤ 102 := by
    have : R * (1 + s.size % 17) ≤ 6 * 17 := Nat.mul_le_mul hR2 hsz
    omega
  have hnI : (R : Int) * (1 + (s.size : Int) % 17) = ((R * (1 + s.size % 17) : Nat) : Int) := by rw [Int.natCast_mul]; simp
  generalize hn : R * (1 + s.size % 17) = n at *
  clear hn
  have hmk := run_make_row' (P := Try.prog) 33 5 (.int .u8 0) 1 Try.underlying33 Try.infoU8 rfl .i64 .i64 n (by omega) (by omega)
  have hrb : 0 ≤ (R : Int) * (1 + (s.size : Int) % 17) ∧ (R : Int) * (1 + (s.size : Int) % 17) ≤ 102 := by omega
  go_enter Try.func27, Try.ntmps27
  go_wp2_with (go_at_call 12; refine (HRw.out _ ((Below.refl _ _).alloc (Nat.le_refl _) _)).mono ?_; rintro e w1 ⟨rfl, hb1⟩)
  have hlow1 : Below w.heap.size w w1 := ((Below.refl _ _).alloc (Nat.le_refl _) _).trans (hb1.mono (by simp))
  have hbox := (hb1.block w.heap.size (by simp)).trans (heap_alloc_new w _)
  have Hbox := hide hbox
  have hbz := blk_lt hbox
  clear hbox hb1 hnI hrb
  go_loopw [9, 10, 11, 12, 13, 14] (fun at' v i' _ _ _ wr => ∃ (j : Nat) (ps : List (Nat × Nat × Nat)) (X : List (List Int)), j ≤ K ∧ i' = .int .i64 j ∧ at' = .int .i64 (Sh.atS (j * n)) ∧ ps.length = j ∧ Sh.Bytes X ∧ Sh.Own wr w1.heap.size 33 5 v n ps X ∧ Below w1.heap.size w1 wr) (fun _ _ i _ _ _ _ => K - (intOf i).toNat)
  case atStart => exact ⟨0, [], [], Nat.zero_le _, rfl, by simp [Sh.atS], rfl, by intro x hx; simp at hx, ⟨World.ownsRow_nil _ _ _ _, rfl, by intro j p x hp; simp at hp, by simp⟩, Below.refl _ _⟩
  case round =>
    obtain ⟨j, ps, X, hj, rfl, rfl, hpl, hbX, hown, hbl⟩ := hrel
    have q1 : wr.cell? ⟨w.heap.size, 1, none⟩ = some (.int .i64 K) := blk_cell ((hbl.block w.heap.size hbz).trans Hbox.out) rfl
    have hsw := hbl.size
    by_cases hlt : j < K
    · have hjn : j * n + n ≤ 950 := by
        have : (j + 1) * n ≤ 9 * 102 := Nat.mul_le_mul (by omega) hn2
        rw [Nat.add_mul, Nat.one_mul] at this
        omega
      have HOwn := hide hown
      have HBX := hide hbX
      have HPL := hide hpl
      clear hown hbX hpl
      rename World => wz
      go_wp2
      go_loopw [9, 13] (fun at' i' wr => ∃ (i : Nat) (x : List Int), i ≤ n ∧ i' = .int .i64 i ∧ at' = .int .i64 (Sh.atS (j * n + i)) ∧ x.length = n ∧ (∀ b ∈ x, Sh.Byte b) ∧ wr.heap[wz.heap.size]? = some (.cells (x.map (Value.int .u8)).toArray 5 (0, 0)) ∧ Below wz.heap.size wz wr) (fun _ i _ => n - (intOf i).toNat)
      case atStart => exact ⟨0, List.replicate n 0, Nat.zero_le _, rfl, rfl, by simp, by intro b hb; rw [List.mem_replicate] at hb; rw [hb.2]; exact Sh.byte0, by rw [← made_zero]; exact heap_alloc_new wz _, (Below.refl _ _).alloc (Nat.le_refl _) _⟩
      case round =>
        obtain ⟨i, x, hii, rfl, rfl, hxl, hxb, hblk, hbw⟩ := hrel
        have hat := Sh.at_small (k := j * n + i) (by omega)
        have hat2 : Sh.atS (j * n + (i + 1)) = Sh.atS (j * n + i) + 1 + Sh.atS (j * n + i) / 97 := rfl
        have HAT := hide hat2
        have HXL := hide hxl
        have HXB := hide hxb
        have Hblk := hide hblk
        have hfz := blk_frozen hblk i
        clear hat2 hxl hxb
        generalize hA : Sh.atS (j * n + i) = A at *
        by_cases hli : i < n
        · have hix : i < x.length := by rw [HXL.out]; exact hli
          have hci : wr.cell? ⟨wz.heap.size, i, none⟩ = some (.int .u8 x[i]) := blk_cell hblk (by simp [hix])
          clear hblk
          generalize hx0 : x[i] = x0 at *
          clear hx0 hA
          by_cases hs0 : s.size = 0
          · have hsb : ((s.size : Int) == 0) = true := by simp [hs0]
            have dsz : decide (0 < (s.size : Int)) = false := decide_eq_false (by omega)
            go_wp2
            go_roundw
            case rel => exact ⟨i + 1, x, by omega, by go_num, val_int (by rw [HAT.out]; simp), HXL.out, HXB.out, Hblk.out, hbw⟩
            case measure => simp [intOf]; omega
          · have hmod : A % s.size < s.size := Nat.mod_lt _ (by omega)
            have dsz : decide (0 < (s.size : Int)) = true := decide_eq_true (by omega)
            go_wp2
            generalize hbt : (s[A % s.size].toNat : Int) = bt
            have hbb : Sh.Byte bt := by
              rw [← hbt]
              have := (s[A % s.size]).toNat_lt
              exact ⟨by omega, by omega⟩
            clear hbt
            go_roundw
            case rel => exact ⟨i + 1, x.set i bt, by omega, by go_num, val_int (by rw [HAT.out]; simp), by rw [List.length_set]; exact HXL.out, (fun b hb => (List.mem_or_eq_of_mem_set hb).elim (fun h => HXB.out b h) (fun h => h ▸ hbb)), by rw [blk_set (j := i) (u := .int .u8 bt) Hblk.out]; simp [List.map_set], hbw.setCell (by simp) _⟩
            case measure => simp [intOf]; omega
        · have hin : i = n := by omega
          have HIN := hide hin
          have HAi := hide hA
          clear hin
          have hrow := (HOwn.out.below hbw).row
          rw [HPL.out] at hrow
          have hzw := hbw.size
          clear hA
          go_wp2_with (at_builtin; refine append1x _ rfl (.tmp 53) (.tmp 55) 32 rfl w1.heap.size 33 i0 (.slice none 0 0) 1 24 Try.underlying32 hi hz0 hz1 hz2 rfl (by decide) (by decide) _ _ _ _ rfl hrow rfl rfl (by simp; rfl) (by omega) (by omega) ?_; intro v' w3 hown3 hb3 hg3 hf3)
          go_roundw
          case rel =>
            refine ⟨j + 1, ps ++ [(wz.heap.size, 0, n)], X ++ [x], by omega, by go_num, ?_, by simp [HPL.out], ?_, ?_, (hbl.trans (hbw.mono hsw)).trans hb3⟩
            · refine val_int ?_
              rw [Nat.add_mul, Nat.one_mul, ← HAi.out, HIN.out]
            · intro y hy
              rw [List.mem_append] at hy
              rcases hy with hy | hy
              · exact HBX.out y hy
              · simp at hy; subst hy; exact HXB.out
            · refine (HOwn.out.below hbw).push (by decide) wz.heap.size (own_of_blk Hblk.out HXL.out hsw (by unfold maxLen; omega)) ?_ (Nat.le_refl _) (by rw [HPL.out]; exact hown3) hg3
              intro p hp
              obtain ⟨q, hq⟩ := List.getElem?_of_mem hp
              obtain ⟨y, hy⟩ : ∃ y, X[q]? = some y := ⟨_, List.getElem?_eq_getElem (by rw [HOwn.out.lens]; exact (List.getElem?_eq_some_iff.1 hq).1)⟩
              exact ((HOwn.out.each q p y hq hy).2.lt p.1 rfl).2
          case measure => simp [intOf]; omega
    · have hjK : j = K := by omega
      subst hjK
      go_wp2
      go_ret
      exact ⟨_, ps, X, rfl, hpl, hbX, hown.mono hlow1.size, hlow1.trans (hbl.mono hlow1.size)⟩
end Go.Proofs.Ytfnfnmonnfcpeab
namespace Go.Proofs.Ytfnfnmonnfcpeab
open Go.RowKit
set_option maxRecDepth 20000

theorem below_drewN (w : World) (q : Nat) : Below w.heap.size w (w.drewN q) := ⟨rfl, rfl, rfl, Nat.le_refl _, fun _ _ => rfl⟩

set_option maxHeartbeats 1000000 in
theorem coded_ok (cb : Nat) (kind : Int) (K M : Nat) (N gd lev scr : Int) (blk : Nat) (cac : Int) (size : Nat) (v : Value) (base : Nat) (ps : List (Nat × Nat × Nat)) (X : List (List Int)) (w : World) (h : Sh.Ok kind K M N gd) (hcac : 0 ≤ cac) (hc4 : cac ≤ 4) (hbk : 1 ≤ blk) (hbk' : blk ≤ 64)
    (hs1 : 1 ≤ size) (hs2 : size ≤ 48) (hc : Sh.CS w cb kind K M N gd lev scr blk cac) (hd : Sh.Dat w base 33 v (Sh.R kind N * size) ps X) (hpl : ps.length = K) (hne : ∀ p ∈ ps, p.1 ≠ cb) :
    Calls Try.prog 32 #[.pointer (some ⟨cb, 0, none⟩), .int .i64 M, v] w fun e w' => ∃ (v' : Value) (qs : List (Nat × Nat × Nat)), e = .returned (.tuple #[v', .bool true]) ∧ qs.length = M ∧
      Sh.Own w' w.heap.size 33 5 v' (Sh.R kind N * size) qs (Sh.par kind K M N gd size X) ∧ Sh.CS w' cb kind K M N gd lev scr blk cac ∧ w.grownBy w' (some cb) := by
  obtain ⟨hK, hM, h10, hR1, hR2, hKR, hMR, hPL⟩ := h.bounds
  have HE := hide (encode_ok cb kind K M N gd lev scr blk cac size v base ps X w h hcac hc4 hbk hbk' hs1 hs2 hc hd hpl hne)
  obtain ⟨p0, g0, o0, z0, v0, cnt, hblk⟩ := hc.blk
  have HG := hide (fun (w' : World) (hg : w.grownBy w' (some cb)) => hd.grown hg hblk (by decide) hne)
  have hrow := hd.row
  rw [hpl] at hrow
  obtain ⟨gD, capD, hvD, _, hgD, hcD, hcellsD⟩ := own_form hrow hK
  have HPL := hide hpl
  have hn1 : 1 ≤ Sh.R kind N * size := Nat.mul_pos hR1 hs1
  clear hblk hc hd hne hpl h hrow hcellsD
  subst hvD
  generalize Sh.par kind K M N gd size X = PX at *
  generalize hn : Sh.R kind N * size = n at *
  clear hn
  go_enter Try.func32, Try.ntmps32
  go_wp2_with fail
  refine HE.out.mono ?_
  rintro e w1 ⟨v1, qs, rfl, hql, hown, hcs, hgr⟩
  have hrow1 := hown.row
  rw [hql] at hrow1
  obtain ⟨g1, cap1, hv1, hgb1, hg1, hcap1, hcells1⟩ := own_form hrow1 hM
  have HC1 := hide hcells1
  have hdr := (HG.out w1 hgr).row
  rw [HPL.out] at hdr
  obtain ⟨p, hp⟩ : ∃ p, ps[0]? = some p := ⟨_, List.getElem?_eq_getElem (by rw [HPL.out]; omega)⟩
  have d0 : w1.cell? ⟨gD, 0, none⟩ = some (.slice (some ⟨p.1, p.2.1, none⟩) n p.2.2) := own_cells hdr 0 _ (Sh.sv_get hp)
  have HOwn := hide hown
  have HCS := hide hcs
  have HGR := hide hgr
  have HQL := hide hql
  have HV1 := hide hv1
  clear hcells1 hown hcs hgr hql hv1 hrow1 hdr hp
  rw [HV1.out]
  have e1 : ((K : Int) == 0) = false := by simp; omega
  have e2 : ((n : Int) == 0) = false := by simp; omega
  go_wp2_with fail
  go_loopw [10] (fun i wr => ∃ k : Nat, k ≤ M ∧ i = .int .i64 k ∧ ∃ q, wr = w1.drewN q) (fun i _ => M - (intOf i).toNat)
  case atStart => exact ⟨0, Nat.zero_le _, rfl, 0, rfl⟩
  case round =>
    obtain ⟨k, hk, rfl, q, rfl⟩ := hrel
    by_cases hlk : k < M
    · obtain ⟨t, ht⟩ : ∃ t, qs[k]? = some t := ⟨_, List.getElem?_eq_getElem (by rw [HQL.out]; exact hlk)⟩
      have hck : w1.cell? ⟨g1, k, none⟩ = some (.slice (some ⟨t.1, t.2.1, none⟩) n t.2.2) := HC1.out k _ (Sh.sv_get ht)
      clear ht
      go_wp2
      go_quiet (fail)
      go_wp2
      go_roundw
      case rel => exact ⟨k + 1, by omega, by go_num, _, rfl⟩
      case measure => simp [intOf]; omega
    · have hkM : k = M := by omega
      subst hkM
      go_wp2
      go_ret2
      have hdb := below_drewN w1 q
      refine ⟨_, qs, rfl, HQL.out, ?_, Sh.CS.below HCS.out hdb, grown_drewN HGR.out _⟩
      have := HOwn.out.below hdb
      rw [HV1.out] at this
      exact this
end Go.Proofs.Ytfnfnmonnfcpeab
namespace Go.Proofs.Ytfnfnmonnfcpeab
open Go.RowKit
set_option maxRecDepth 20000
theorem own_dat {w : World} {base : Nat} {v : Value} {n : Nat} {ps : List (Nat × Nat × Nat)} {X : List (List Int)} (h : Sh.Own w base 33 5 v n ps X) : Sh.Dat w base 33 v n ps X := by
  have key : ∀ p ∈ ps, ∃ x : List Int, p.2.1 = 0 ∧ w.ownsRow base 5 1 (.slice (some ⟨p.1, 0, none⟩) n p.2.2) n (x.map (Value.int .u8)) := by
    intro p hp
    obtain ⟨j, hj⟩ := List.getElem?_of_mem hp
    obtain ⟨x, hx⟩ : ∃ x, X[j]? = some x := ⟨_, List.getElem?_eq_getElem (by rw [h.lens]; exact (List.getElem?_eq_some_iff.1 hj).1)⟩
    exact ⟨x, h.each j p x hj hx⟩
  refine ⟨h.row, h.lens, ?_, ?_, ?_⟩
  · intro p hp
    obtain ⟨x, _, hx⟩ := key p hp
    rcases hx.2 with ⟨hx, _⟩ | ⟨g, c, cur, hx, _, _, h1, h2, _⟩
    · cases hx
    · injection hx with _ _ hx
      subst hx
      exact ⟨h1, h2⟩
  · intro p hp
    obtain ⟨x, _, hx⟩ := key p hp
    exact (hx.lt p.1 rfl).2
  · intro j p x hp hx
    obtain ⟨h0, h1⟩ := h.each j p x hp hx
    refine ⟨by have := h1.1; simpa using this, fun i b hb => ?_⟩
    rw [h0, Nat.zero_add]
    exact own_cells h1 i _ (by simp [hb])
theorem own_ne_cb {w : World} {base cb : Nat} {v : Value} {n : Nat} {ps : List (Nat × Nat × Nat)} {X : List (List Int)} (h : Sh.Own w base 33 5 v n ps X) (hc : cb < base) : ∀ p ∈ ps, p.1 ≠ cb := by
  intro p hp e
  obtain ⟨j, hj⟩ := List.getElem?_of_mem hp
  obtain ⟨x, hx⟩ : ∃ x, X[j]? = some x := ⟨_, List.getElem?_eq_getElem (by rw [h.lens]; exact (List.getElem?_eq_some_iff.1 hj).1)⟩
  have := ((h.each j p x hj hx).2.lt p.1 rfl).1
  omega

theorem dat_conv {w : World} {base : Nat} {v : Value} {n : Nat} {ps : List (Nat × Nat × Nat)} {X : List (List Int)} (h : Sh.Dat w base 33 v n ps X) {j : Nat} {p : Nat × Nat × Nat} {x : List Int} (hp : ps[j]? = some p) (hx : X[j]? = some x) : (convert 33 9 (.slice (some ⟨p.1, p.2.1, none⟩) n p.2.2)).run Try.prog w = .ok (.string (strOfNums x)) w := run_convert_bytes_arg (P := Try.prog) w 33 5 Try.underlying33 Try.underlying5 p.1 p.2.1 n p.2.2 x (h.each j p x hp hx).1 (fun i hi => by
  have hl := (h.each j p x hp hx).1
  rw [List.getD_eq_getElem?_getD, List.getElem?_eq_getElem (by omega), Option.getD_some]
  exact (h.each j p x hp hx).2 i _ (List.getElem?_eq_getElem (by omega))) 9 Try.underlying9
set_option maxHeartbeats 2000000 in
theorem same_ok (K n : Nat) (va vb : Value) (ba bb : Nat) (pa pb : List (Nat × Nat × Nat)) (X : List (List Int)) (w : World) (hK : 1 ≤ K) (hK9 : K ≤ 10) (hda : Sh.Dat w ba 33 va n pa X) (hdb : Sh.Dat w bb 33 vb n pb X) (hpa : pa.length = K) (hpb : pb.length = K) :
    Calls Try.prog 31 #[va, vb] w fun e w' => e = .returned (.bool true) ∧ ∃ q, w' = w.drewN q := by
  have hra := hda.row
  rw [hpa] at hra
  obtain ⟨ga, capa, rfl, _, hga, hcapa, hcella⟩ := own_form hra hK
  have hrb := hdb.row
  rw [hpb] at hrb
  obtain ⟨gb, capb, rfl, _, hgb, hcapb, hcellb⟩ := own_form hrb hK
  have HA := hide (fun (wx : World) (hb : Below w.heap.size w wx) => hda.below hb)
  have HB := hide (fun (wx : World) (hb : Below w.heap.size w wx) => hdb.below hb)
  have HPA := hide hpa
  have HPB := hide hpb
  have HXL := hide (show X.length = K by rw [hda.lens, hpa])
  have HCA := hide hcella
  have HCB := hide hcellb
  clear hda hdb hpa hpb hra hrb hcella hcellb
  go_enter Try.func31, Try.ntmps31
  go_wp2
  go_loopw [5] (fun i wr => ∃ k : Nat, k ≤ K ∧ i = .int .i64 k ∧ ∃ q, wr = w.drewN q) (fun i _ => K - (intOf i).toNat)
  case atStart => exact ⟨0, Nat.zero_le _, rfl, 0, rfl⟩
  case round =>
    obtain ⟨k, hk, rfl, q, rfl⟩ := hrel
    by_cases hlk : k < K
    · obtain ⟨x, hx⟩ : ∃ x, X[k]? = some x := ⟨_, List.getElem?_eq_getElem (by rw [HXL.out]; exact hlk)⟩
      obtain ⟨p, hp⟩ : ∃ p, pa[k]? = some p := ⟨_, List.getElem?_eq_getElem (by rw [HPA.out]; exact hlk)⟩
      obtain ⟨r, hr⟩ : ∃ r, pb[k]? = some r := ⟨_, List.getElem?_eq_getElem (by rw [HPB.out]; exact hlk)⟩
      have z1 : w.cell? ⟨ga, k, none⟩ = some (.slice (some ⟨p.1, p.2.1, none⟩) n p.2.2) := HCA.out k _ (Sh.sv_get hp)
      have z2 : w.cell? ⟨gb, k, none⟩ = some (.slice (some ⟨r.1, r.2.1, none⟩) n r.2.2) := HCB.out k _ (Sh.sv_get hr)
      have c1 := fun m => dat_conv (HA.out (w.drewN m) (below_drewN w m)) hp hx
      have c2 := fun m => dat_conv (HB.out (w.drewN m) (below_drewN w m)) hr hx
      clear hx hp hr
      go_wp2
      go_quiet (fail)
      go_wp2
      go_roundw
      case rel => exact ⟨k + 1, by omega, by go_num, _, rfl⟩
      case measure => simp [intOf]; omega
    · have hkK : k = K := by omega
      subst hkK
      go_wp2
      go_ret
      exact ⟨rfl, q, rfl⟩
namespace Sh
theorem Dat.len_each {w : World} {base : Nat} {tS : TypeId} {v : Value} {n : Nat} {ps : List (Nat × Nat × Nat)} {X : List (List Int)} (h : Dat w base tS v n ps X) : ∀ x ∈ X, x.length = n := by
  intro x hx
  obtain ⟨j, hj⟩ := List.getElem?_of_mem hx
  obtain ⟨p, hp⟩ : ∃ p, ps[j]? = some p := ⟨_, List.getElem?_eq_getElem (by rw [← h.lens]; exact (List.getElem?_eq_some_iff.1 hj).1)⟩
  exact (h.each j p x hp hj).1
end Sh
/-- what a call that may write into the coder alone leaves as it was -/
structure Sh.Keep (w w' : World) (cb : Nat) : Prop where
  grown : w.grownBy w' (some cb)
  dat : ∀ (base : Nat) (v : Value) (n : Nat) (ps : List (Nat × Nat × Nat)) (X : List (List Int)), Sh.Dat w base 33 v n ps X → (∀ p ∈ ps, p.1 ≠ cb) → Sh.Dat w' base 33 v n ps X
theorem coded_st (cb : Nat) (kind : Int) (K M : Nat) (N gd lev scr : Int) (blk : Nat) (cac : Int) (size : Nat) (v : Value) (base : Nat) (ps : List (Nat × Nat × Nat)) (X : List (List Int)) (w : World) (h : Sh.Ok kind K M N gd) (hcac : 0 ≤ cac) (hc4 : cac ≤ 4) (hbk : 1 ≤ blk) (hbk' : blk ≤ 64)
    (hs1 : 1 ≤ size) (hs2 : size ≤ 48) (hc : Sh.CS w cb kind K M N gd lev scr blk cac) (hd : Sh.Dat w base 33 v (Sh.R kind N * size) ps X) (hpl : ps.length = K) (hne : ∀ p ∈ ps, p.1 ≠ cb) (bX : Sh.Bytes X) :
    Calls Try.prog 32 #[.pointer (some ⟨cb, 0, none⟩), .int .i64 M, v] w fun e w' => ∃ (v' : Value) (qs : List (Nat × Nat × Nat)), e = .returned (.tuple #[v', .bool true]) ∧ qs.length = M ∧
      Sh.Dat w' w.heap.size 33 v' (Sh.R kind N * size) qs (Sh.parB kind K M N gd size X) ∧ (∀ p ∈ qs, p.1 ≠ cb) ∧ Sh.Own w' w.heap.size 33 5 v' (Sh.R kind N * size) qs (Sh.parB kind K M N gd size X) ∧ Sh.CS w' cb kind K M N gd lev scr blk cac ∧ Sh.Keep w w' cb := by
  refine (coded_ok cb kind K M N gd lev scr blk cac size v base ps X w h hcac hc4 hbk hbk' hs1 hs2 hc hd hpl hne).mono ?_
  rintro e w' ⟨v', qs, rfl, hql, hown, hcs, hg⟩
  rw [Sh.par_eq h size X bX] at hown
  obtain ⟨c0, c1, c2, c3, c4, c5, hblk⟩ := Sh.CS.blk hc
  exact ⟨v', qs, rfl, hql, own_dat hown, own_ne_cb hown (blk_lt hblk), hown, hcs, hg, fun b v n ps X hd hne => hd.grown hg hblk (by decide) hne⟩

theorem Sh.Keep.low {b : Nat} {w w' : World} {cb : Nat} (h : Sh.Keep w w' cb) (hb : b ≤ cb) (hz : b ≤ w.heap.size) : Below b w w' := ⟨h.grown.os, h.grown.tape, h.grown.output, h.grown.size, fun i hi => h.grown.block i (by omega) (by intro e; injection e; omega)⟩
def Sh.szOf : Value → Nat
  | .string u => u.size
  | _ => 0
theorem addr_add (g j : Nat) : (⟨g, 0, none⟩ : Addr).add j = ⟨g, j, none⟩ := by
  unfold Addr.add
  split
  · next e => rw [e]
  · simp
namespace Sh
theorem Own.x_of {w : World} {base : Nat} {tS tB : TypeId} {v : Value} {n : Nat} {ps : List (Nat × Nat × Nat)} {X : List (List Int)} (h : Own w base tS tB v n ps X) {p : Nat × Nat × Nat} (hp : p ∈ ps) : ∃ x : List Int, w.ownsRow base tB 1 (.slice (some ⟨p.1, 0, none⟩) n p.2.2) n (x.map (Value.int .u8)) := by
  obtain ⟨j, hj⟩ := List.getElem?_of_mem hp
  obtain ⟨x, hx⟩ : ∃ x, X[j]? = some x := ⟨_, List.getElem?_eq_getElem (by rw [h.lens]; exact (List.getElem?_eq_some_iff.1 hj).1)⟩
  exact ⟨x, (h.each j p x hj hx).2⟩
theorem Own.ge {w : World} {base : Nat} {tS tB : TypeId} {v : Value} {n : Nat} {ps : List (Nat × Nat × Nat)} {X : List (List Int)} (h : Own w base tS tB v n ps X) : ∀ p ∈ ps, base ≤ p.1 ∧ p.1 < w.heap.size := by
  intro p hp
  obtain ⟨x, hx⟩ := h.x_of hp
  exact hx.lt p.1 rfl
/-- own shards, behind a call that writes into a block below them -/
theorem Own.grown {w w' : World} {base : Nat} {tS tB : TypeId} {v : Value} {n : Nat} {ps : List (Nat × Nat × Nat)} {X : List (List Int)} {cb : Nat} (h : Own w base tS tB v n ps X) (hg : w.grownBy w' (some cb)) (hcb : cb < base) : Own w' base tS tB v n ps X := by
  refine ⟨h.row.kept hg ?_, h.lens, fun j p x hp hx => ⟨(h.each j p x hp hx).1, (h.each j p x hp hx).2.kept hg ?_⟩, h.nodup⟩
  · cases hv : v.ownBlock with
    | none => exact Or.inl rfl
    | some q =>
      right
      intro e
      injection e with e
      have := (h.row.lt q hv).1
      omega
  · right
    intro e
    simp only [Value.ownBlock, Option.some.injEq] at e
    have := (h.ge p (List.mem_of_getElem? hp)).1
    omega
/-- behind 'w[i][k] = u' -/
theorem Own.set {w : World} {base : Nat} {tS tB : TypeId} {v : Value} {n : Nat} {ps : List (Nat × Nat × Nat)} {X : List (List Int)} (h : Own w base tS tB v n ps X) (ht : tB ≠ tS) {i k : Nat} {p : Nat × Nat × Nat} {x : List Int} (hp : ps[i]? = some p) (hx : X[i]? = some x) (u : Int) :
    Own (w.setCell ⟨p.1, k, none⟩ (.int .u8 u)) base tS tB v n ps (X.set i (x.set k u)) := by
  have hg : w.grownBy (w.setCell ⟨p.1, k, none⟩ (.int .u8 u)) (some p.1) := grown_set (grown_refl w _) _
  obtain ⟨hp0, hpo⟩ := h.each i p x hp hx
  refine ⟨h.row.kept hg (own_ne h.row hpo (Ne.symm ht)), by rw [List.length_set]; exact h.lens, ?_, h.nodup⟩
  intro j q y hq hy
  by_cases c : j = i
  · subst c
    rw [hp] at hq
    injection hq with hq
    subst hq
    rw [List.getElem?_set_self (by exact (List.getElem?_eq_some_iff.1 hx).1)] at hy
    injection hy with hy
    subst hy
    refine ⟨hp0, ?_⟩
    have hl := hpo.1
    rcases hpo.2 with ⟨hc, _⟩ | ⟨g, cap, cur, hv, hb, hgg, h1, h2, h3, h4⟩
    · cases hc
    · injection hv with hv1 hv2 hv3
      injection hv1 with hv1
      injection hv1 with hv1
      subst hv1
      refine ⟨by simpa using hl, Or.inr ⟨p.1, cap, cur.setIfInBounds k (.int .u8 u), by rw [hv3], hb, blk_set hgg, h1, h2, by rw [Array.size_setIfInBounds]; exact h3, ?_⟩⟩
      rw [Array.toList_setIfInBounds, List.map_set, ← h4, List.take_set]
  · rw [List.getElem?_set_ne (by omega)] at hy
    obtain ⟨e0, e1⟩ := h.each j q y hq hy
    refine ⟨e0, e1.kept hg (Or.inr ?_)⟩
    intro e
    simp only [Value.ownBlock, Option.some.injEq] at e
    have hji : j = i := by
      have hn := h.nodup
      have hj' : (ps.map (·.1))[j]? = some q.1 := by rw [List.getElem?_map, hq]; rfl
      have hi' : (ps.map (·.1))[i]? = some p.1 := by rw [List.getElem?_map, hp]; rfl
      rw [← e] at hi'
      exact (List.getElem?_inj (List.getElem?_eq_some_iff.1 hj').1 hn).1 (hj'.trans hi'.symm)
    exact c hji
end Sh

set_option maxHeartbeats 1000000 in
theorem word_ok (cb : Nat) (kind : Int) (K M : Nat) (N gd lev scr : Int) (blk : Nat) (cac : Int) (size : Nat) (v : Value) (base : Nat) (ps : List (Nat × Nat × Nat)) (X : List (List Int)) (w : World) (h : Sh.Ok kind K M N gd) (hcac : 0 ≤ cac) (hc4 : cac ≤ 4) (hbk : 1 ≤ blk) (hbk' : blk ≤ 64)
    (hs1 : 1 ≤ size) (hs2 : size ≤ 48) (hc : Sh.CS w cb kind K M N gd lev scr blk cac) (hd : Sh.Own w base 33 5 v (Sh.R kind N * size) ps X) (hpl : ps.length = K) (hcb : cb < base) (bX : Sh.Bytes X) :
    Calls Try.prog 28 #[.pointer (some ⟨cb, 0, none⟩), .int .i64 M, v] w fun e w' => ∃ (v' : Value) (qs : List (Nat × Nat × Nat)), e = .returned (.tuple #[v', .bool true]) ∧ qs.length = M ∧
      Sh.Own w' base 33 5 v' (Sh.R kind N * size) (ps ++ qs) (X ++ Sh.parB kind K M N gd size X) ∧ Sh.CS w' cb kind K M N gd lev scr blk cac ∧ w.grownBy w' (some cb) := by
  obtain ⟨hK, hM, h10, hR1, hR2, hKR, hMR, hPL⟩ := h.bounds
  obtain ⟨i0, hi, hz0, hz1, hz2⟩ := info_parts Try.infoSl
  have hbw : base ≤ w.heap.size := by
    obtain ⟨p, hp⟩ : ∃ p, ps[0]? = some p := ⟨_, List.getElem?_eq_getElem (by rw [hpl]; omega)⟩
    have := hd.ge p (List.mem_of_getElem? hp)
    omega
  have HC := hide (coded_st cb kind K M N gd lev scr blk cac size v base ps X w h hcac hc4 hbk hbk' hs1 hs2 hc (own_dat hd) hpl (own_ne_cb hd hcb) bX)
  have hrow := hd.row
  rw [hpl] at hrow
  obtain ⟨gD, capD, hvD, hgD0, hgD, hcD, hcellsD⟩ := own_form hrow hK
  subst hvD
  have HD := hide (fun (w' : World) (hg : w.grownBy w' (some cb)) => hd.grown hg hcb)
  have HGE := hide hd.ge
  have HND := hide hd.nodup
  have HLX := hide hd.lens
  have Hpl := hide hpl
  have Hnil := hide (fun (wx : World) => World.ownsRow_nil wx base 33 1)
  clear hc hd hrow hcellsD hpl bX h
  generalize hPX : Sh.parB kind K M N gd size X = PX at *
  generalize hn : Sh.R kind N * size = n at *
  clear hn hPX
  go_enter Try.func28, Try.ntmps28
  go_wp2_with fail
  refine HC.out.mono ?_
  rintro e w1 ⟨v1, qs, rfl, hql, hd1, hn1, hown1, hcs1, hk1⟩
  have hs1' := hk1.grown.size
  have hrow1 := hown1.row
  rw [hql] at hrow1
  obtain ⟨gP, capP, hvP, hgP0, hgP, hcP, hcellsP⟩ := own_form hrow1 hM
  subst hvP
  have hD1 := HD.out w1 hk1.grown
  have hrD1 := hD1.row
  rw [Hpl.out] at hrD1
  have HcD := hide (own_cells hrD1)
  have HcP := hide hcellsP
  have HO1 := hide hown1
  have HD1 := hide hD1
  have HCS1 := hide hcs1
  have Hql := hide hql
  have Hno := hide (fun (n' : Nat) (ps' : List (Nat × Nat × Nat)) => Sh.sv_one n' ps')
  have hsvp : (Sh.sv n ps).length = K * 1 := by rw [Sh.sv_len, Hpl.out, Nat.mul_one]
  have hsvq : (Sh.sv n qs).length = M * 1 := by rw [Sh.sv_len, Hql.out, Nat.mul_one]
  have Hp := hide hsvp
  have Hq := hide hsvq
  clear hd1 hn1 hown1 hcs1 hrow1 hcellsP hD1 hrD1 hql hsvp hsvq
  go_wp2_with (first
    | (at_builtin; refine appendX _ rfl (.tmp 18) (.tmp 19) 32 rfl base 33 i0 (.slice none 0 0) 1 24 Try.underlying32 hi hz0 hz1 hz2 rfl (by decide) _ _ _ rfl (Hnil.out _) ⟨gD, 0, none⟩ K capD (Sh.sv n ps) rfl Hp.out (fun j u hu => by rw [addr_add]; exact HcD.out j u hu) (Hno.out n ps) hK (by unfold maxLen; omega) (by omega) (by omega) ?_; intro v2 w2 hown2 hb2 hg2 hf2; have hs2 := hg2.size; have Hown2 := hide hown2; have Hg2 : Hid (w1.grownBy w2 none) := hg2; have Hf2 : Hid (∀ q, v2.ownBlock = some q → w1.heap.size ≤ q) := (fun q hq => (hf2 q hq).elim (fun h => by cases h) id); clear hown2 hg2 hf2 hb2)
    | (at_builtin; refine appendX _ rfl (.tmp 21) (.tmp 22) 32 rfl base 33 i0 (.slice none 0 0) 1 24 Try.underlying32 hi hz0 hz1 hz2 rfl (by decide) _ _ _ rfl Hown2.out ⟨gP, 0, none⟩ M capP (Sh.sv n qs) rfl Hq.out (fun j u hu => by rw [addr_add]; exact own_cells (own_mono (HO1.out.row.kept Hg2.out (Or.inr (by simp [Value.ownBlock]))) (Nat.le_refl _)) j u hu) (Hno.out n qs) hM (by unfold maxLen; omega) (by omega) (by omega) ?_; intro v3 w3 hown3 hb3 hg3 hf3; have Hg3 : Hid (w2.grownBy w3 v2.ownBlock) := hg3; clear hg3 hf3 hb3))
  go_ret2
  have hrow3 : w3.ownsRow base 33 1 v3 (ps ++ qs).length (Sh.sv n (ps ++ qs)) := by
    rw [List.length_append, Hpl.out, Hql.out, Sh.sv_append]
    simpa using hown3
  have h13 : Below w1.heap.size w1 w3 := by
    have a : Below w1.heap.size w1 w2 := ⟨Hg2.out.os, Hg2.out.tape, Hg2.out.output, Hg2.out.size, fun i hi => Hg2.out.block i hi (by simp)⟩
    have b : Below w1.heap.size w2 w3 := ⟨Hg3.out.os, Hg3.out.tape, Hg3.out.output, Hg3.out.size, fun i hi => Hg3.out.block i (by omega) (by intro e; have := Hf2.out i e.symm; omega)⟩
    exact a.trans b
  refine ⟨v3, qs, rfl, Hql.out, ⟨hrow3, by rw [List.length_append, List.length_append, HLX.out, HO1.out.lens], ?_, ?_⟩, Sh.CS.below HCS1.out h13, grown_below hk1.grown h13⟩
  · intro j p x hp hx
    have key : p.2.1 = 0 ∧ w1.ownsRow base 5 1 (.slice (some ⟨p.1, 0, none⟩) n p.2.2) n (x.map (Value.int .u8)) := by
      rw [List.getElem?_append] at hp hx
      rw [HLX.out] at hx
      by_cases c1 : j < ps.length
      · rw [if_pos c1] at hp hx
        exact HD1.out.each j p x hp hx
      · rw [if_neg c1] at hp hx
        have := HO1.out.each _ p x hp hx
        exact ⟨this.1, own_mono this.2 hbw⟩
    exact ⟨key.1, own_below key.2 h13⟩
  · rw [List.map_append, List.nodup_append]
    refine ⟨HND.out, HO1.out.nodup, ?_⟩
    intro a ha b hb
    simp only [List.mem_map] at ha hb
    obtain ⟨p, hp, rfl⟩ := ha
    obtain ⟨q, hq, rfl⟩ := hb
    have h1 := (HGE.out p hp).2
    have h2 := (HO1.out.ge q hq).1
    omega
end Go.Proofs.Ytfnfnmonnfcpeab
