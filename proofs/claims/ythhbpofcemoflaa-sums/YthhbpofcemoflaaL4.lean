import Derived.Test.YthhbpofcemoflaaGl
import Derived.Test.YthhbpofcemoflaaGk
namespace Go.Proofs.Ythhbpofcemoflaa
open Go.RowKit
set_option maxRecDepth 20000
theorem xor64 {a b : Int} (ha : Sh.Byte a) (hb : Sh.Byte b) : bits .xor .i64 a b = Sh.bx a b := by
  obtain ⟨n, rfl, hn⟩ := Sh.byte_nat ha
  obtain ⟨m, rfl, hm⟩ := Sh.byte_nat hb
  have hx : n ^^^ m < 2 ^ 8 := Nat.xor_lt_two_pow (n := 8) hn hm
  have ha' : n % 2 ^ IntKind.i64.bits = n := Nat.mod_eq_of_lt (Nat.lt_trans hn (by decide))
  have hb' : m % 2 ^ IntKind.i64.bits = m := Nat.mod_eq_of_lt (Nat.lt_trans hm (by decide))
  rw [Sh.bx_nat n m hn hm]
  simp only [bits, BitVec.ofInt_natCast, BitVec.toNat_xor, BitVec.toNat_ofNat, ha', hb']
  rw [IntKind.wrap_i64]
  have h2 : n ^^^ m < 256 := hx
  omega
theorem own_dat {w : World} {base : Nat} {v : Value} {n : Nat} {ps : List (Nat × Nat × Nat)} {X : List (List Int)} (h : Sh.Own w base 35 5 v n ps X) : Sh.Dat w base 35 v n ps X := by
  have key : ∀ p ∈ ps, ∃ x : List Int, p.2.1 = 0 ∧ w.ownsRow base 5 1 (.slice (some ⟨p.1, 0, none⟩) n p.2.2) n (x.map (Value.int .u8)) := by
    intro p hp
    obtain ⟨j, hj⟩ := List.getElem?_of_mem hp
    obtain ⟨x, hx⟩ : ∃ x, X[j]? = some x := ⟨_, List.getElem?_eq_getElem (by rw [h.lens]; exact (List.getElem?_eq_some_iff.1 hj).1)⟩
    exact ⟨x, h.each j p x hj hx⟩
  refine ⟨h.row, h.lens, ?_, ?_, ?_⟩
  · intro p hp
    obtain ⟨x, _, hx⟩ := key p hp
    rcases hx.2 with ⟨hx, _⟩ | ⟨g, c, cur, hx, _, _, h1, h2, _⟩
    · cases hx
    · injection hx with _ _ hx
      subst hx
      exact ⟨h1, h2⟩
  · intro p hp
    obtain ⟨x, _, hx⟩ := key p hp
    exact (hx.lt p.1 rfl).2
  · intro j p x hp hx
    obtain ⟨h0, h1⟩ := h.each j p x hp hx
    refine ⟨by have := h1.1; simpa using this, fun i b hb => ?_⟩
    rw [h0, Nat.zero_add]
    exact own_cells h1 i _ (by simp [hb])
theorem own_ne_cb {w : World} {base cb : Nat} {v : Value} {n : Nat} {ps : List (Nat × Nat × Nat)} {X : List (List Int)} (h : Sh.Own w base 35 5 v n ps X) (hc : cb < base) : ∀ p ∈ ps, p.1 ≠ cb := by
  intro p hp e
  obtain ⟨j, hj⟩ := List.getElem?_of_mem hp
  obtain ⟨x, hx⟩ : ∃ x, X[j]? = some x := ⟨_, List.getElem?_eq_getElem (by rw [h.lens]; exact (List.getElem?_eq_some_iff.1 hj).1)⟩
  have := ((h.each j p x hj hx).2.lt p.1 rfl).1
  omega

set_option maxHeartbeats 4000000 in
theorem straight_any (c : Int) (s : ByteArray) (w : World) (hl : -9223372036854775808 ≤ c) (hs : s.size ≤ 300) : Calls Try.prog 7 #[.int .i64 c, .string s] w fun e w' => e = .returned (.bool true) ∧ Below w.heap.size w w' := by
  go_enter Try.func7, Try.ntmps7
  go_wp2_with fail
  refine (codes_any c _ hl).mono ?_
  rintro e w1 ⟨t, ht, rfl, hb1⟩
  have hOk0 := Sh.cds_ok t ht
  have hSt0 := Sh.cds_straight t ht
  have hGd0 := Sh.cds_good t ht
  obtain ⟨kind, K, M, N, gd⟩ := t
  simp only at hOk0 hSt0 hGd0
  clear ht
  by_cases hcg : kind = 0 ∧ gd = 0
  · obtain ⟨rfl, rfl⟩ := hcg
    have HOk : Hid (Sh.Ok 0 K M N 1) := Sh.ok_good hOk0 rfl hGd0
    have HSt : Hid (Sh.Straight 0 K M N 1) := hSt0
    clear hOk0 hSt0 hGd0
    go_wp2_with fail
    refine (best_ok 0 K M N 1 _ HOk.out).mono ?_
    rintro e w2 ⟨cb, rfl, hcb, hco, hb2⟩
    obtain ⟨hK, hM, h10, hR1, hR2, hKR, hMR, hPL⟩ := HOk.out.bounds
    have hsv := (hb2.block w1.heap.size (by simp)).trans (heap_alloc_new w1 _)
    have hsz2 := hb2.size
    simp only [World.size_alloc] at hsz2 hcb
    have s0 : w2.cell? ⟨w1.heap.size, 0, none⟩ = some (.int .i64 0) := blk_cell hsv rfl
    have s1 : w2.cell? ⟨w1.heap.size, 1, none⟩ = some (.int .i64 K) := blk_cell hsv rfl
    have s2 : w2.cell? ⟨w1.heap.size, 2, none⟩ = some (.int .i64 M) := blk_cell hsv rfl
    have s3 : w2.cell? ⟨w1.heap.size, 3, none⟩ = some (.int .i64 N) := blk_cell hsv rfl
    have s4 : w2.cell? ⟨w1.heap.size, 4, none⟩ = some (.int .i64 1) := blk_cell hsv rfl
    have hcbz := blk_lt hco
    have HD := hide (data_ok cb 0 K M N 1 s w2 HOk.out hs hcbz (blk_cell hco rfl) (blk_cell hco rfl) (blk_cell hco rfl) (blk_cell hco rfl) (blk_cell hco rfl))
    have HCS : Hid (Sh.CS w2 cb 0 K M N 1 3 8 ((16 : Nat) : Int) 2) := Or.inl hco
    have Hsv := hide hsv
    have hlow2 : Below w.heap.size w w2 := (hb1.trans (((Below.refl w1.heap.size w1).alloc (Nat.le_refl _) _).mono hb1.size)).trans (hb2.mono (by have := hb1.size; simp; omega))
    have hb1s := hb1.size
    clear hsv hco hb2
    go_wp2_with fail
    refine HD.out.mono ?_
    rintro e w3 ⟨v3, ps, X, rfl, hpl, hbX, hown3, hb3⟩
    have hs3 := hb3.size
    have HCS3 := hide (Sh.CS.below HCS.out hb3)
    have HDat := hide (own_dat hown3)
    have hrow3 := hown3.row
    rw [hpl] at hrow3
    obtain ⟨g3, cap3, hv3, hgb3, hg3, hcap3, hcells3⟩ := own_form hrow3 hK
    have HC3 := hide hcells3
    have HOwn3 := hide hown3
    have HPL := hide hpl
    have HBX := hide hbX
    have HV3 := hide hv3
    have hsz17 : 1 + s.size % 17 ≤ 17 := by have := Nat.mod_lt s.size (show 0 < 17 by decide); omega
    generalize hsize : 1 + s.size % 17 = size at *
    have hsize1 : 1 ≤ size := by omega
    clear hsize
    have hnec : ∀ p ∈ ps, p.1 ≠ cb := own_ne_cb hown3 (by omega)
    have HCo := hide (coded_ok cb 0 K M N 1 3 8 16 2 size v3 _ ps X w3 HOk.out (by decide) (by decide) (by decide) (by decide) hsize1 (by omega) HCS3.out HDat.out hpl hnec hbX)
    have t1 : w3.cell? ⟨w1.heap.size, 1, none⟩ = some (.int .i64 K) := keepc hb3 (by omega) 1 s1
    have t2 : w3.cell? ⟨w1.heap.size, 2, none⟩ = some (.int .i64 M) := keepc hb3 (by omega) 2 s2
    have t3 : w3.cell? ⟨w1.heap.size, 3, none⟩ = some (.int .i64 N) := keepc hb3 (by omega) 3 s3
    clear hrow3 hcells3 hown3 hpl hbX hv3 hnec s0 s1 s2 s3 s4
    go_wp2_with fail
    refine HCo.out.mono ?_
    rintro e w4 ⟨v4, qs, rfl, hql, hown4, hcs4, hg4⟩
    have hs4 := hg4.size
    have hlow4 : Below w.heap.size w w4 := (hlow2.trans (hb3.mono hlow2.size)).trans ⟨hg4.os, hg4.tape, hg4.output, hg4.size, fun i hi => hg4.block i (by omega) (by intro e; injection e; omega)⟩
    rw [Sh.par_eq HOk.out size X HBX.out] at hown4
    have hPB := fun (q p : Nat) (hq : q < Sh.R 0 N) (hp : p < size) => Sh.straight_pb HSt.out size X (by rw [HDat.out.lens, HPL.out]) q p hq hp
    obtain ⟨P0, hP0⟩ : ∃ P0, (Sh.parB 0 K M N 1 size X)[0]? = some P0 := ⟨_, List.getElem?_eq_getElem (by rw [Sh.parB_len]; omega)⟩
    obtain ⟨hP0l, hP0e⟩ := Sh.parB_each hP0
    have HP0 : Hid (∀ i, i < Sh.R 0 N * size → P0[i]? = some (Sh.sumAt X i K)) := fun i hi => by
      have hd := Nat.div_add_mod i size
      have hm := Nat.mod_lt i (show 0 < size by omega)
      have hq : i / size < Sh.R 0 N := Nat.div_lt_of_lt_mul (by rw [Nat.mul_comm]; exact hi)
      have h1 := hP0e (i / size) (i % size) hq hm
      rw [Nat.mul_comm (i / size) size, hd, Nat.zero_mul, Nat.zero_add, hPB _ _ hq hm, Nat.mul_comm (i / size) size, hd] at h1
      exact h1
    obtain ⟨q0, hq0⟩ : ∃ q, qs[0]? = some q := ⟨_, List.getElem?_eq_getElem (by rw [hql]; omega)⟩
    obtain ⟨hq00, hq0o⟩ := hown4.each 0 q0 P0 hq0 hP0
    have hrow4 := hown4.row
    rw [hql] at hrow4
    obtain ⟨g4, cap4, hv4, hgb4, hgz4, hcap4, hcells4⟩ := own_form hrow4 hM
    have u0 : w4.cell? ⟨g4, 0, none⟩ = some (.slice (some ⟨q0.1, 0, none⟩) (Sh.R 0 N * size) q0.2.2) := by
      have := hcells4 0 _ (Sh.sv_get hq0)
      rw [hq00] at this
      exact this
    have HQ := hide (own_cells hq0o)
    obtain ⟨c0, c1, c2, c3, c4, c5, hblk3⟩ := Sh.CS.blk HCS3.out
    have HD4 := hide (HDat.out.grown hg4 hblk3 (by decide) (own_ne_cb HOwn3.out (by omega)))
    have hdr4 := HD4.out.row
    rw [HPL.out, HV3.out] at hdr4
    have HD4c := hide (own_cells hdr4)
    have k1 : w4.cell? ⟨w1.heap.size, 1, none⟩ = some (.int .i64 K) := (grown_cell hg4 (by omega) (by omega)).trans t1
    have hn1 : 1 ≤ Sh.R 0 N * size := Nat.mul_pos hR1 hsize1
    have hn2 : Sh.R 0 N * size ≤ 102 := by
      have : Sh.R 0 N * size ≤ 6 * 17 := Nat.mul_le_mul hR2 hsz17
      omega
    have HV4 := hide hv4
    have HBXs := hide (fun i j => Sh.sumAt_byte X i j)
    have HXe := hide (fun (m : Nat) (hm : m < K) => (⟨_, List.getElem?_eq_getElem (by rw [HDat.out.lens, HPL.out]; exact hm)⟩ : ∃ x, X[m]? = some x))
    have HXb : Hid (∀ (m i : Nat) (x : List Int) (b : Int), X[m]? = some x → x[i]? = some b → Sh.Byte b) := fun m i x b hx hb => HBX.out x (List.mem_of_getElem? hx) b (List.mem_of_getElem? hb)
    clear hown4 hP0 hP0l hP0e hPB hq0 hq00 hq0o hrow4 hcells4 hv4 hblk3 hdr4 t1 t2 t3 hcs4 hg4 hql
    generalize hn : Sh.R 0 N * size = n at *
    clear hn
    rw [HV4.out]
    have HV3' := HV3.out
    rw [HV3']
    clear HV3'
    go_wp2_with fail
    go_loop [10, 11, 12] (fun i _ _ => ∃ k : Nat, k ≤ n ∧ i = .int .i64 k) (fun i _ _ => n - (intOf i).toNat)
    case atStart => exact ⟨0, Nat.zero_le _, rfl⟩
    case round =>
      obtain ⟨k, hk, rfl⟩ := hrel
      by_cases hlk : k < n
      · have hpk : w4.cell? ⟨q0.1, k, none⟩ = some (.int .u8 (Sh.sumAt X k K)) := HQ.out k _ (by rw [List.getElem?_map, HP0.out k hlk]; rfl)
        have hbk := HBXs.out k K
        go_wp2_with fail
        go_loop [11, 12] (fun v j => ∃ m : Nat, m ≤ K ∧ j = .int .i64 m ∧ v = .int .i64 (Sh.sumAt X k m)) (fun _ j => K - (intOf j).toNat)
        case atStart => exact ⟨0, Nat.zero_le _, rfl, rfl⟩
        case round =>
          obtain ⟨m, hm, rfl, rfl⟩ := hrel
          by_cases hlm : m < K
          · obtain ⟨x, hx⟩ := HXe.out m hlm
            obtain ⟨p, hp⟩ : ∃ p, ps[m]? = some p := ⟨_, List.getElem?_eq_getElem (by rw [HPL.out]; exact hlm)⟩
            obtain ⟨hxl, hxc⟩ := HD4.out.each m p x hp hx
            have hkx : k < x.length := by rw [hxl]; exact hlk
            have z1 : w4.cell? ⟨g3, m, none⟩ = some (.slice (some ⟨p.1, p.2.1, none⟩) n p.2.2) := HD4c.out m _ (Sh.sv_get hp)
            have z2 := hxc k _ (List.getElem?_eq_getElem hkx)
            have hby := HXb.out m k x _ hx (List.getElem?_eq_getElem hkx)
            have hsb := HBXs.out k m
            have HS := hide (show Sh.sumAt X k (m + 1) = bits .xor .i64 (Sh.sumAt X k m) x[k] by
              rw [xor64 hsb hby]
              show Sh.bx _ _ = _
              rw [List.getD_eq_getElem?_getD (l := X), hx, Option.getD_some, List.getD_eq_getElem?_getD, List.getElem?_eq_getElem hkx, Option.getD_some])
            unfold Sh.Byte at hby hsb
            generalize hb0 : x[k] = b0 at *
            generalize hs0 : Sh.sumAt X k m = s0 at *
            clear hb0 hs0 hxc hx hp hxl
            go_wp2
            go_round
            case rel => exact ⟨m + 1, by omega, by go_num, val_int HS.out.symm⟩
            case measure => simp [intOf]; omega
          · have hmK : m = K := by omega
            subst hmK
            unfold Sh.Byte at hbk
            generalize hs0 : Sh.sumAt X k m = s0 at *
            clear hs0
            have hq1 : (s0 != s0) = false := by simp
            go_wp2
            go_round
            case rel => exact ⟨k + 1, by omega, by go_num⟩
            case measure => simp [intOf]; omega
      · have hkn : k = n := by omega
        subst hkn
        go_wp2
        go_ret
        exact ⟨rfl, hlow4⟩
  · have HOk := hide hOk0
    have HSt : Hid (Sh.Straight kind K M N gd) := by
      have e : Sh.good1 (kind, K, M, N, gd) = gd := if_neg hcg
      rw [e] at hSt0
      exact hSt0
    clear hOk0 hSt0 hGd0
    by_cases hk0 : kind = 0
    · subst hk0
      have hgd : gd ≠ 0 := fun e => hcg ⟨rfl, e⟩
      have hcb1 : (gd == 0) = false := by simp [hgd]
      have hcb2 : decide (gd = 0) = false := by simp [hgd]
      go_wp2_with fail
      refine (best_ok 0 K M N gd _ HOk.out).mono ?_
      rintro e w2 ⟨cb, rfl, hcb, hco, hb2⟩
      obtain ⟨hK, hM, h10, hR1, hR2, hKR, hMR, hPL⟩ := HOk.out.bounds
      have hsv := (hb2.block w1.heap.size (by simp)).trans (heap_alloc_new w1 _)
      have hsz2 := hb2.size
      simp only [World.size_alloc] at hsz2 hcb
      have s0 : w2.cell? ⟨w1.heap.size, 0, none⟩ = some (.int .i64 0) := blk_cell hsv rfl
      have s1 : w2.cell? ⟨w1.heap.size, 1, none⟩ = some (.int .i64 K) := blk_cell hsv rfl
      have s2 : w2.cell? ⟨w1.heap.size, 2, none⟩ = some (.int .i64 M) := blk_cell hsv rfl
      have s3 : w2.cell? ⟨w1.heap.size, 3, none⟩ = some (.int .i64 N) := blk_cell hsv rfl
      have s4 : w2.cell? ⟨w1.heap.size, 4, none⟩ = some (.int .i64 gd) := blk_cell hsv rfl
      have hcbz := blk_lt hco
      have HD := hide (data_ok cb 0 K M N gd s w2 HOk.out hs hcbz (blk_cell hco rfl) (blk_cell hco rfl) (blk_cell hco rfl) (blk_cell hco rfl) (blk_cell hco rfl))
      have HCS : Hid (Sh.CS w2 cb 0 K M N gd 3 8 ((16 : Nat) : Int) 2) := Or.inl hco
      have Hsv := hide hsv
      have hlow2 : Below w.heap.size w w2 := (hb1.trans (((Below.refl w1.heap.size w1).alloc (Nat.le_refl _) _).mono hb1.size)).trans (hb2.mono (by have := hb1.size; simp; omega))
      have hb1s := hb1.size
      clear hsv hco hb2
      go_wp2_with fail
      refine HD.out.mono ?_
      rintro e w3 ⟨v3, ps, X, rfl, hpl, hbX, hown3, hb3⟩
      have hs3 := hb3.size
      have HCS3 := hide (Sh.CS.below HCS.out hb3)
      have HDat := hide (own_dat hown3)
      have hrow3 := hown3.row
      rw [hpl] at hrow3
      obtain ⟨g3, cap3, hv3, hgb3, hg3, hcap3, hcells3⟩ := own_form hrow3 hK
      have HC3 := hide hcells3
      have HOwn3 := hide hown3
      have HPL := hide hpl
      have HBX := hide hbX
      have HV3 := hide hv3
      have hsz17 : 1 + s.size % 17 ≤ 17 := by have := Nat.mod_lt s.size (show 0 < 17 by decide); omega
      generalize hsize : 1 + s.size % 17 = size at *
      have hsize1 : 1 ≤ size := by omega
      clear hsize
      have hnec : ∀ p ∈ ps, p.1 ≠ cb := own_ne_cb hown3 (by omega)
      have HCo := hide (coded_ok cb 0 K M N gd 3 8 16 2 size v3 _ ps X w3 HOk.out (by decide) (by decide) (by decide) (by decide) hsize1 (by omega) HCS3.out HDat.out hpl hnec hbX)
      have t1 : w3.cell? ⟨w1.heap.size, 1, none⟩ = some (.int .i64 K) := keepc hb3 (by omega) 1 s1
      have t2 : w3.cell? ⟨w1.heap.size, 2, none⟩ = some (.int .i64 M) := keepc hb3 (by omega) 2 s2
      have t3 : w3.cell? ⟨w1.heap.size, 3, none⟩ = some (.int .i64 N) := keepc hb3 (by omega) 3 s3
      clear hrow3 hcells3 hown3 hpl hbX hv3 hnec s0 s1 s2 s3 s4
      go_wp2_with fail
      refine HCo.out.mono ?_
      rintro e w4 ⟨v4, qs, rfl, hql, hown4, hcs4, hg4⟩
      have hs4 := hg4.size
      have hlow4 : Below w.heap.size w w4 := (hlow2.trans (hb3.mono hlow2.size)).trans ⟨hg4.os, hg4.tape, hg4.output, hg4.size, fun i hi => hg4.block i (by omega) (by intro e; injection e; omega)⟩
      rw [Sh.par_eq HOk.out size X HBX.out] at hown4
      have hPB := fun (q p : Nat) (hq : q < Sh.R 0 N) (hp : p < size) => Sh.straight_pb HSt.out size X (by rw [HDat.out.lens, HPL.out]) q p hq hp
      obtain ⟨P0, hP0⟩ : ∃ P0, (Sh.parB 0 K M N gd size X)[0]? = some P0 := ⟨_, List.getElem?_eq_getElem (by rw [Sh.parB_len]; omega)⟩
      obtain ⟨hP0l, hP0e⟩ := Sh.parB_each hP0
      have HP0 : Hid (∀ i, i < Sh.R 0 N * size → P0[i]? = some (Sh.sumAt X i K)) := fun i hi => by
        have hd := Nat.div_add_mod i size
        have hm := Nat.mod_lt i (show 0 < size by omega)
        have hq : i / size < Sh.R 0 N := Nat.div_lt_of_lt_mul (by rw [Nat.mul_comm]; exact hi)
        have h1 := hP0e (i / size) (i % size) hq hm
        rw [Nat.mul_comm (i / size) size, hd, Nat.zero_mul, Nat.zero_add, hPB _ _ hq hm, Nat.mul_comm (i / size) size, hd] at h1
        exact h1
      obtain ⟨q0, hq0⟩ : ∃ q, qs[0]? = some q := ⟨_, List.getElem?_eq_getElem (by rw [hql]; omega)⟩
      obtain ⟨hq00, hq0o⟩ := hown4.each 0 q0 P0 hq0 hP0
      have hrow4 := hown4.row
      rw [hql] at hrow4
      obtain ⟨g4, cap4, hv4, hgb4, hgz4, hcap4, hcells4⟩ := own_form hrow4 hM
      have u0 : w4.cell? ⟨g4, 0, none⟩ = some (.slice (some ⟨q0.1, 0, none⟩) (Sh.R 0 N * size) q0.2.2) := by
        have := hcells4 0 _ (Sh.sv_get hq0)
        rw [hq00] at this
        exact this
      have HQ := hide (own_cells hq0o)
      obtain ⟨c0, c1, c2, c3, c4, c5, hblk3⟩ := Sh.CS.blk HCS3.out
      have HD4 := hide (HDat.out.grown hg4 hblk3 (by decide) (own_ne_cb HOwn3.out (by omega)))
      have hdr4 := HD4.out.row
      rw [HPL.out, HV3.out] at hdr4
      have HD4c := hide (own_cells hdr4)
      have k1 : w4.cell? ⟨w1.heap.size, 1, none⟩ = some (.int .i64 K) := (grown_cell hg4 (by omega) (by omega)).trans t1
      have hn1 : 1 ≤ Sh.R 0 N * size := Nat.mul_pos hR1 hsize1
      have hn2 : Sh.R 0 N * size ≤ 102 := by
        have : Sh.R 0 N * size ≤ 6 * 17 := Nat.mul_le_mul hR2 hsz17
        omega
      have HV4 := hide hv4
      have HBXs := hide (fun i j => Sh.sumAt_byte X i j)
      have HXe := hide (fun (m : Nat) (hm : m < K) => (⟨_, List.getElem?_eq_getElem (by rw [HDat.out.lens, HPL.out]; exact hm)⟩ : ∃ x, X[m]? = some x))
      have HXb : Hid (∀ (m i : Nat) (x : List Int) (b : Int), X[m]? = some x → x[i]? = some b → Sh.Byte b) := fun m i x b hx hb => HBX.out x (List.mem_of_getElem? hx) b (List.mem_of_getElem? hb)
      clear hown4 hP0 hP0l hP0e hPB hq0 hq00 hq0o hrow4 hcells4 hv4 hblk3 hdr4 t1 t2 t3 hcs4 hg4 hql
      generalize hn : Sh.R 0 N * size = n at *
      clear hn
      rw [HV4.out]
      have HV3' := HV3.out
      rw [HV3']
      clear HV3'
      go_wp2_with fail
      go_loop [10, 11, 12] (fun i _ _ => ∃ k : Nat, k ≤ n ∧ i = .int .i64 k) (fun i _ _ => n - (intOf i).toNat)
      case atStart => exact ⟨0, Nat.zero_le _, rfl⟩
      case round =>
        obtain ⟨k, hk, rfl⟩ := hrel
        by_cases hlk : k < n
        · have hpk : w4.cell? ⟨q0.1, k, none⟩ = some (.int .u8 (Sh.sumAt X k K)) := HQ.out k _ (by rw [List.getElem?_map, HP0.out k hlk]; rfl)
          have hbk := HBXs.out k K
          go_wp2_with fail
          go_loop [11, 12] (fun v j => ∃ m : Nat, m ≤ K ∧ j = .int .i64 m ∧ v = .int .i64 (Sh.sumAt X k m)) (fun _ j => K - (intOf j).toNat)
          case atStart => exact ⟨0, Nat.zero_le _, rfl, rfl⟩
          case round =>
            obtain ⟨m, hm, rfl, rfl⟩ := hrel
            by_cases hlm : m < K
            · obtain ⟨x, hx⟩ := HXe.out m hlm
              obtain ⟨p, hp⟩ : ∃ p, ps[m]? = some p := ⟨_, List.getElem?_eq_getElem (by rw [HPL.out]; exact hlm)⟩
              obtain ⟨hxl, hxc⟩ := HD4.out.each m p x hp hx
              have hkx : k < x.length := by rw [hxl]; exact hlk
              have z1 : w4.cell? ⟨g3, m, none⟩ = some (.slice (some ⟨p.1, p.2.1, none⟩) n p.2.2) := HD4c.out m _ (Sh.sv_get hp)
              have z2 := hxc k _ (List.getElem?_eq_getElem hkx)
              have hby := HXb.out m k x _ hx (List.getElem?_eq_getElem hkx)
              have hsb := HBXs.out k m
              have HS := hide (show Sh.sumAt X k (m + 1) = bits .xor .i64 (Sh.sumAt X k m) x[k] by
                rw [xor64 hsb hby]
                show Sh.bx _ _ = _
                rw [List.getD_eq_getElem?_getD (l := X), hx, Option.getD_some, List.getD_eq_getElem?_getD, List.getElem?_eq_getElem hkx, Option.getD_some])
              unfold Sh.Byte at hby hsb
              generalize hb0 : x[k] = b0 at *
              generalize hs0 : Sh.sumAt X k m = s0 at *
              clear hb0 hs0 hxc hx hp hxl
              go_wp2
              go_round
              case rel => exact ⟨m + 1, by omega, by go_num, val_int HS.out.symm⟩
              case measure => simp [intOf]; omega
            · have hmK : m = K := by omega
              subst hmK
              unfold Sh.Byte at hbk
              generalize hs0 : Sh.sumAt X k m = s0 at *
              clear hs0
              have hq1 : (s0 != s0) = false := by simp
              go_wp2
              go_round
              case rel => exact ⟨k + 1, by omega, by go_num⟩
              case measure => simp [intOf]; omega
        · have hkn : k = n := by omega
          subst hkn
          go_wp2
          go_ret
          exact ⟨rfl, hlow4⟩
    · have hcb1 : (kind == 0) = false := by simp [hk0]
      have hcb2 : decide (kind = 0) = false := by simp [hk0]
      go_wp2_with fail
      refine (best_ok kind K M N gd _ HOk.out).mono ?_
      rintro e w2 ⟨cb, rfl, hcb, hco, hb2⟩
      obtain ⟨hK, hM, h10, hR1, hR2, hKR, hMR, hPL⟩ := HOk.out.bounds
      have hsv := (hb2.block w1.heap.size (by simp)).trans (heap_alloc_new w1 _)
      have hsz2 := hb2.size
      simp only [World.size_alloc] at hsz2 hcb
      have s0 : w2.cell? ⟨w1.heap.size, 0, none⟩ = some (.int .i64 kind) := blk_cell hsv rfl
      have s1 : w2.cell? ⟨w1.heap.size, 1, none⟩ = some (.int .i64 K) := blk_cell hsv rfl
      have s2 : w2.cell? ⟨w1.heap.size, 2, none⟩ = some (.int .i64 M) := blk_cell hsv rfl
      have s3 : w2.cell? ⟨w1.heap.size, 3, none⟩ = some (.int .i64 N) := blk_cell hsv rfl
      have s4 : w2.cell? ⟨w1.heap.size, 4, none⟩ = some (.int .i64 gd) := blk_cell hsv rfl
      have hcbz := blk_lt hco
      have HD := hide (data_ok cb kind K M N gd s w2 HOk.out hs hcbz (blk_cell hco rfl) (blk_cell hco rfl) (blk_cell hco rfl) (blk_cell hco rfl) (blk_cell hco rfl))
      have HCS : Hid (Sh.CS w2 cb kind K M N gd 3 8 ((16 : Nat) : Int) 2) := Or.inl hco
      have Hsv := hide hsv
      have hlow2 : Below w.heap.size w w2 := (hb1.trans (((Below.refl w1.heap.size w1).alloc (Nat.le_refl _) _).mono hb1.size)).trans (hb2.mono (by have := hb1.size; simp; omega))
      have hb1s := hb1.size
      clear hsv hco hb2
      go_wp2_with fail
      refine HD.out.mono ?_
      rintro e w3 ⟨v3, ps, X, rfl, hpl, hbX, hown3, hb3⟩
      have hs3 := hb3.size
      have HCS3 := hide (Sh.CS.below HCS.out hb3)
      have HDat := hide (own_dat hown3)
      have hrow3 := hown3.row
      rw [hpl] at hrow3
      obtain ⟨g3, cap3, hv3, hgb3, hg3, hcap3, hcells3⟩ := own_form hrow3 hK
      have HC3 := hide hcells3
      have HOwn3 := hide hown3
      have HPL := hide hpl
      have HBX := hide hbX
      have HV3 := hide hv3
      have hsz17 : 1 + s.size % 17 ≤ 17 := by have := Nat.mod_lt s.size (show 0 < 17 by decide); omega
      generalize hsize : 1 + s.size % 17 = size at *
      have hsize1 : 1 ≤ size := by omega
      clear hsize
      have hnec : ∀ p ∈ ps, p.1 ≠ cb := own_ne_cb hown3 (by omega)
      have HCo := hide (coded_ok cb kind K M N gd 3 8 16 2 size v3 _ ps X w3 HOk.out (by decide) (by decide) (by decide) (by decide) hsize1 (by omega) HCS3.out HDat.out hpl hnec hbX)
      have t1 : w3.cell? ⟨w1.heap.size, 1, none⟩ = some (.int .i64 K) := keepc hb3 (by omega) 1 s1
      have t2 : w3.cell? ⟨w1.heap.size, 2, none⟩ = some (.int .i64 M) := keepc hb3 (by omega) 2 s2
      have t3 : w3.cell? ⟨w1.heap.size, 3, none⟩ = some (.int .i64 N) := keepc hb3 (by omega) 3 s3
      clear hrow3 hcells3 hown3 hpl hbX hv3 hnec s0 s1 s2 s3 s4
      go_wp2_with fail
      refine HCo.out.mono ?_
      rintro e w4 ⟨v4, qs, rfl, hql, hown4, hcs4, hg4⟩
      have hs4 := hg4.size
      have hlow4 : Below w.heap.size w w4 := (hlow2.trans (hb3.mono hlow2.size)).trans ⟨hg4.os, hg4.tape, hg4.output, hg4.size, fun i hi => hg4.block i (by omega) (by intro e; injection e; omega)⟩
      rw [Sh.par_eq HOk.out size X HBX.out] at hown4
      have hPB := fun (q p : Nat) (hq : q < Sh.R kind N) (hp : p < size) => Sh.straight_pb HSt.out size X (by rw [HDat.out.lens, HPL.out]) q p hq hp
      obtain ⟨P0, hP0⟩ : ∃ P0, (Sh.parB kind K M N gd size X)[0]? = some P0 := ⟨_, List.getElem?_eq_getElem (by rw [Sh.parB_len]; omega)⟩
      obtain ⟨hP0l, hP0e⟩ := Sh.parB_each hP0
      have HP0 : Hid (∀ i, i < Sh.R kind N * size → P0[i]? = some (Sh.sumAt X i K)) := fun i hi => by
        have hd := Nat.div_add_mod i size
        have hm := Nat.mod_lt i (show 0 < size by omega)
        have hq : i / size < Sh.R kind N := Nat.div_lt_of_lt_mul (by rw [Nat.mul_comm]; exact hi)
        have h1 := hP0e (i / size) (i % size) hq hm
        rw [Nat.mul_comm (i / size) size, hd, Nat.zero_mul, Nat.zero_add, hPB _ _ hq hm, Nat.mul_comm (i / size) size, hd] at h1
        exact h1
      obtain ⟨q0, hq0⟩ : ∃ q, qs[0]? = some q := ⟨_, List.getElem?_eq_getElem (by rw [hql]; omega)⟩
      obtain ⟨hq00, hq0o⟩ := hown4.each 0 q0 P0 hq0 hP0
      have hrow4 := hown4.row
      rw [hql] at hrow4
      obtain ⟨g4, cap4, hv4, hgb4, hgz4, hcap4, hcells4⟩ := own_form hrow4 hM
      have u0 : w4.cell? ⟨g4, 0, none⟩ = some (.slice (some ⟨q0.1, 0, none⟩) (Sh.R kind N * size) q0.2.2) := by
        have := hcells4 0 _ (Sh.sv_get hq0)
        rw [hq00] at this
        exact this
      have HQ := hide (own_cells hq0o)
      obtain ⟨c0, c1, c2, c3, c4, c5, hblk3⟩ := Sh.CS.blk HCS3.out
      have HD4 := hide (HDat.out.grown hg4 hblk3 (by decide) (own_ne_cb HOwn3.out (by omega)))
      have hdr4 := HD4.out.row
      rw [HPL.out, HV3.out] at hdr4
      have HD4c := hide (own_cells hdr4)
      have k1 : w4.cell? ⟨w1.heap.size, 1, none⟩ = some (.int .i64 K) := (grown_cell hg4 (by omega) (by omega)).trans t1
      have hn1 : 1 ≤ Sh.R kind N * size := Nat.mul_pos hR1 hsize1
      have hn2 : Sh.R kind N * size ≤ 102 := by
        have : Sh.R kind N * size ≤ 6 * 17 := Nat.mul_le_mul hR2 hsz17
        omega
      have HV4 := hide hv4
      have HBXs := hide (fun i j => Sh.sumAt_byte X i j)
      have HXe := hide (fun (m : Nat) (hm : m < K) => (⟨_, List.getElem?_eq_getElem (by rw [HDat.out.lens, HPL.out]; exact hm)⟩ : ∃ x, X[m]? = some x))
      have HXb : Hid (∀ (m i : Nat) (x : List Int) (b : Int), X[m]? = some x → x[i]? = some b → Sh.Byte b) := fun m i x b hx hb => HBX.out x (List.mem_of_getElem? hx) b (List.mem_of_getElem? hb)
      clear hown4 hP0 hP0l hP0e hPB hq0 hq00 hq0o hrow4 hcells4 hv4 hblk3 hdr4 t1 t2 t3 hcs4 hg4 hql
      generalize hn : Sh.R kind N * size = n at *
      clear hn
      rw [HV4.out]
      have HV3' := HV3.out
      rw [HV3']
      clear HV3'
      go_wp2_with fail
      go_loop [10, 11, 12] (fun i _ _ => ∃ k : Nat, k ≤ n ∧ i = .int .i64 k) (fun i _ _ => n - (intOf i).toNat)
      case atStart => exact ⟨0, Nat.zero_le _, rfl⟩
      case round =>
        obtain ⟨k, hk, rfl⟩ := hrel
        by_cases hlk : k < n
        · have hpk : w4.cell? ⟨q0.1, k, none⟩ = some (.int .u8 (Sh.sumAt X k K)) := HQ.out k _ (by rw [List.getElem?_map, HP0.out k hlk]; rfl)
          have hbk := HBXs.out k K
          go_wp2_with fail
          go_loop [11, 12] (fun v j => ∃ m : Nat, m ≤ K ∧ j = .int .i64 m ∧ v = .int .i64 (Sh.sumAt X k m)) (fun _ j => K - (intOf j).toNat)
          case atStart => exact ⟨0, Nat.zero_le _, rfl, rfl⟩
          case round =>
            obtain ⟨m, hm, rfl, rfl⟩ := hrel
            by_cases hlm : m < K
            · obtain ⟨x, hx⟩ := HXe.out m hlm
              obtain ⟨p, hp⟩ : ∃ p, ps[m]? = some p := ⟨_, List.getElem?_eq_getElem (by rw [HPL.out]; exact hlm)⟩
              obtain ⟨hxl, hxc⟩ := HD4.out.each m p x hp hx
              have hkx : k < x.length := by rw [hxl]; exact hlk
              have z1 : w4.cell? ⟨g3, m, none⟩ = some (.slice (some ⟨p.1, p.2.1, none⟩) n p.2.2) := HD4c.out m _ (Sh.sv_get hp)
              have z2 := hxc k _ (List.getElem?_eq_getElem hkx)
              have hby := HXb.out m k x _ hx (List.getElem?_eq_getElem hkx)
              have hsb := HBXs.out k m
              have HS := hide (show Sh.sumAt X k (m + 1) = bits .xor .i64 (Sh.sumAt X k m) x[k] by
                rw [xor64 hsb hby]
                show Sh.bx _ _ = _
                rw [List.getD_eq_getElem?_getD (l := X), hx, Option.getD_some, List.getD_eq_getElem?_getD, List.getElem?_eq_getElem hkx, Option.getD_some])
              unfold Sh.Byte at hby hsb
              generalize hb0 : x[k] = b0 at *
              generalize hs0 : Sh.sumAt X k m = s0 at *
              clear hb0 hs0 hxc hx hp hxl
              go_wp2
              go_round
              case rel => exact ⟨m + 1, by omega, by go_num, val_int HS.out.symm⟩
              case measure => simp [intOf]; omega
            · have hmK : m = K := by omega
              subst hmK
              unfold Sh.Byte at hbk
              generalize hs0 : Sh.sumAt X k m = s0 at *
              clear hs0
              have hq1 : (s0 != s0) = false := by simp
              go_wp2
              go_round
              case rel => exact ⟨k + 1, by omega, by go_num⟩
              case measure => simp [intOf]; omega
        · have hkn : k = n := by omega
          subst hkn
          go_wp2
          go_ret
          exact ⟨rfl, hlow4⟩
end Go.Proofs.Ythhbpofcemoflaa
