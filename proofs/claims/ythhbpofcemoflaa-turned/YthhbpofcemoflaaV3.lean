import Derived.Test.YthhbpofcemoflaaV2
import Derived.Test.YthhbpofcemoflaaPure16
namespace Go.Proofs.Ythhbpofcemoflaa
open Go.RowKit
set_option maxRecDepth 20000
/-- the coder, behind a write into a shard -/
theorem Sh.CS.set {w : World} {cb : Nat} {kind : Int} {K M : Nat} {N gd lev scr blk cac : Int} (h : Sh.CS w cb kind K M N gd lev scr blk cac) {base b n c k : Nat} {x : List Value} (hb : w.ownsRow base 5 1 (.slice (some ⟨b, 0, none⟩) n c) n x) (hne : b ≠ cb) (u : Value) : Sh.CS (w.setCell ⟨b, k, none⟩ u) cb kind K M N gd lev scr blk cac := by
  rcases h with h | ⟨go, co, h, ho⟩
  · exact Or.inl ((Below.heap_setCell _ _ _ _ (by simpa using Ne.symm hne)).trans h)
  · exact Or.inr ⟨go, co, (Below.heap_setCell _ _ _ _ (by simpa using Ne.symm hne)).trans h, ho.kept (grown_set (grown_refl w (some b)) u) (own_ne ho hb (by decide))⟩
theorem Sh.pow_bit : ∀ m : Nat, m < 8 → Sh.Byte ((2 : Int) ^ m % 256) ∧ (2 : Int) ^ m % 256 ≠ 0 := by
  intro m hm
  have h : m = 0 ∨ m = 1 ∨ m = 2 ∨ m = 3 ∨ m = 4 ∨ m = 5 ∨ m = 6 ∨ m = 7 := by omega
  unfold Sh.Byte
  rcases h with rfl | rfl | rfl | rfl | rfl | rfl | rfl | rfl <;> decide
set_option maxRecDepth 20000 in
set_option maxHeartbeats 4000000 in
theorem flipped_any (c b : Int) (s : ByteArray) (w : World) (hl : -9223372036854775808 ≤ c) (hlb : -9223372036854775808 ≤ b) (hs : s.size ≤ 300) : Calls Try.prog 11 #[.int .i64 c, .int .i64 b, .string s] w fun e w' => e = .returned (.bool true) ∧ Below w.heap.size w w' := by
  go_enter Try.func11, Try.ntmps11
  go_wp2_with fail
  refine (codes_any c _ hl).mono ?_
  rintro e w1 ⟨t, ht, rfl, hb1⟩
  have hOk0 := Sh.cds_ok t ht
  have hCv0 := Sh.cds_cov t ht
  obtain ⟨kind, K, M, N, gd⟩ := t
  simp only at hOk0 hCv0
  clear ht
  have HOk := hide hOk0
  have HCov := hide hCv0
  clear hOk0 hCv0
  go_wp2_with fail
  refine (best_ok kind K M N gd _ HOk.out).mono ?_
  rintro e w2 ⟨cb, rfl, hcb, hco, hb2⟩
  obtain ⟨hK, hM, h10, hR1, hR2, hKR, hMR, hPL⟩ := HOk.out.bounds
  have hsv := (hb2.block w1.heap.size (by simp)).trans (heap_alloc_new w1 _)
  have hsz2 := hb2.size
  simp only [World.size_alloc] at hsz2 hcb
  have s0 : w2.cell? ⟨w1.heap.size, 0, none⟩ = some (.int .i64 kind) := blk_cell hsv rfl
  have s1 : w2.cell? ⟨w1.heap.size, 1, none⟩ = some (.int .i64 K) := blk_cell hsv rfl
  have s2 : w2.cell? ⟨w1.heap.size, 2, none⟩ = some (.int .i64 M) := blk_cell hsv rfl
  have s3 : w2.cell? ⟨w1.heap.size, 3, none⟩ = some (.int .i64 N) := blk_cell hsv rfl
  have s4 : w2.cell? ⟨w1.heap.size, 4, none⟩ = some (.int .i64 gd) := blk_cell hsv rfl
  have hcbz := blk_lt hco
  have HD := hide (data_ok cb kind K M N gd s w2 HOk.out hs hcbz (blk_cell hco rfl) (blk_cell hco rfl) (blk_cell hco rfl) (blk_cell hco rfl) (blk_cell hco rfl))
  have HCS : Hid (Sh.CS w2 cb kind K M N gd 3 8 ((16 : Nat) : Int) 2) := Or.inl hco
  have hlow2 : Below w.heap.size w w2 := (hb1.trans (((Below.refl w1.heap.size w1).alloc (Nat.le_refl _) _).mono hb1.size)).trans (hb2.mono (by have := hb1.size; simp; omega))
  have hb1s := hb1.size
  clear hsv hco hb2
  go_wp2_with fail
  refine HD.out.mono ?_
  rintro e w3 ⟨v3, ps, X, rfl, hpl, hbX, hown3, hb3⟩
  have hs3 := hb3.size
  have HCS3 := hide (Sh.CS.below HCS.out hb3)
  have hsz17 : 1 + s.size % 17 ≤ 17 := by have := Nat.mod_lt s.size (show 0 < 17 by decide); omega
  generalize hsize : 1 + s.size % 17 = size at *
  have hsize1 : 1 ≤ size := by omega
  clear hsize
  have HW := hide (word_ok cb kind K M N gd 3 8 16 2 size v3 _ ps X w3 HOk.out (by decide) (by decide) (by decide) (by decide) hsize1 (by omega) HCS3.out hown3 hpl hcbz hbX)
  have t2 := keepc hb3 (by omega) 2 s2
  have Hlx := hide (own_dat hown3).len_each
  have HXl := hide (show X.length = K by rw [hown3.lens, hpl])
  have Hpl := hide hpl
  have HbX := hide hbX
  clear s0 s1 s2 s3 s4 hpl hbX hown3 HD
  go_wp2_with fail
  refine HW.out.mono ?_
  rintro e w4 ⟨v4, qs, rfl, hql, hown4, hcs4, hg4⟩
  have hs4 := hg4.size
  have hlow4 : Below w.heap.size w w4 := (hlow2.trans (hb3.mono hlow2.size)).trans ⟨hg4.os, hg4.tape, hg4.output, hg4.size, fun i hi => hg4.block i (by omega) (by intro e; injection e; omega)⟩
  have hall : (ps ++ qs).length = K + M := by rw [List.length_append, Hpl.out, hql]
  have HbZ : Hid (Sh.Bytes (X ++ Sh.parB kind K M N gd size X)) := fun x hx => (List.mem_append.1 hx).elim (fun h => HbX.out x h) (fun h => Sh.parB_bytes kind K M N gd size X x h)
  have HT1 : Hid (decide (Sh.parB kind K M N gd size ((X ++ Sh.parB kind K M N gd size X).take K) = (X ++ Sh.parB kind K M N gd size X).drop K) = true) := decide_eq_true (by
    rw [List.take_append_of_le_length (by rw [HXl.out]; exact Nat.le_refl _), List.take_of_length_le (by rw [HXl.out]; exact Nat.le_refl _), List.drop_append_of_le_length (by rw [HXl.out]; exact Nat.le_refl _), List.drop_of_length_le (by rw [HXl.out]; exact Nat.le_refl _), List.nil_append])
  have HV1 := hide (verify_ok cb kind K M N gd 3 8 16 2 size v4 _ (ps ++ qs) _ w4 HOk.out (by decide) (by decide) (by decide) (by decide) hsize1 (by omega) hcs4 (own_dat hown4) hall (own_ne_cb hown4 hcbz) HbZ.out)
  rw [HT1.out] at HV1
  have HTn := hide (fun (i k : Nat) (z : List Int) (b u : Int) (hz : (X ++ Sh.parB kind K M N gd size X)[i]? = some z) (hk : z[k]? = some b) (hu : Sh.Byte u) (hne : u ≠ b) => Sh.turn_ne HCov.out HXl.out HbX.out Hlx.out hz hk hu hne)
  have HVn := hide (fun (wx : World) (Z : List (List Int)) (hc : Sh.CS wx cb kind K M N gd 3 8 ((16 : Nat) : Int) 2) (hd : Sh.Dat wx w2.heap.size 35 v4 (Sh.R kind N * size) (ps ++ qs) Z) (hne : ∀ p ∈ (ps ++ qs), p.1 ≠ cb) (bZ : Sh.Bytes Z) => verify_ok cb kind K M N gd 3 8 16 2 size v4 _ (ps ++ qs) Z wx HOk.out (by decide) (by decide) (by decide) (by decide) hsize1 (by omega) hc hd hall hne bZ)
  generalize hZ : X ++ Sh.parB kind K M N gd size X = Z at *
  have Hown4 := hide hown4
  have Hall := hide hall
  have hn1 : 1 ≤ Sh.R kind N * size := Nat.mul_pos hR1 hsize1
  have hn2 : Sh.R kind N * size ≤ 102 := by
    have : Sh.R kind N * size ≤ 6 * 17 := Nat.mul_le_mul hR2 hsz17
    omega
  clear hown4 hcs4 hall hZ t2
  go_wp2_with fail
  refine HV1.out.mono ?_
  rintro e w5 ⟨rfl, hcs5, hk5⟩
  have hs5 := hk5.grown.size
  have hown5 := Hown4.out.grown hk5.grown hcbz
  have hr5 := hown5.row
  rw [Hall.out] at hr5
  obtain ⟨g5, cap5, hv5, _, hg5, hcap5, hcell5⟩ := own_form hr5 (by omega)
  have Hc5 := hide hcell5
  have Ho5 := hide hown5
  have HCS5 := hide hcs5
  clear hcell5 hown5 hcs5 hr5
  subst hv5
  generalize hn : Sh.R kind N * size = n at *
  clear hn
  go_wp2_with fail
  refine (pick_any b 1073741824 w5 hlb (by decide)).mono ?_
  rintro e w6 ⟨r, rfl, hr, rfl⟩
  obtain ⟨i, hi⟩ : ∃ i, r % (K + M) = i := ⟨_, rfl⟩
  obtain ⟨k, hk⟩ : ∃ k, r / 16 % n = k := ⟨_, rfl⟩
  obtain ⟨m, hm⟩ : ∃ m, r % 8 = m := ⟨_, rfl⟩
  have hiK : i < K + M := by rw [← hi]; exact Nat.mod_lt _ (by omega)
  have hkn : k < n := by rw [← hk]; exact Nat.mod_lt _ (by omega)
  have hm8 : m < 8 := by omega
  have e1 : (r : Int) % ((K : Int) + (M : Int)) = (i : Int) := by rw [← hi]; simp
  have e2 : (r : Int) / 16 % (n : Int) = (k : Int) := by rw [← hk]; simp
  have e3 : (r : Int) % 8 = (m : Int) := by omega
  obtain ⟨p, hp⟩ : ∃ p, (ps ++ qs)[i]? = some p := ⟨_, List.getElem?_eq_getElem (by rw [Hall.out]; exact hiK)⟩
  obtain ⟨z, hz⟩ : ∃ z, Z[i]? = some z := ⟨_, List.getElem?_eq_getElem (by rw [Ho5.out.lens, Hall.out]; exact hiK)⟩
  obtain ⟨hp0, hpo⟩ := Ho5.out.each _ p z hp hz
  have hzl : z.length = n := by have := hpo.1; simpa using this
  have hkz : k < z.length := by rw [hzl]; exact hkn
  have a1 : w6.cell? ⟨g5, i, none⟩ = some (.slice (some ⟨p.1, 0, none⟩) n p.2.2) := by
    have := Hc5.out i _ (Sh.sv_get hp)
    rw [hp0] at this
    exact this
  have a2 : w6.cell? ⟨p.1, k, none⟩ = some (.int .u8 z[k]) := own_cells hpo _ _ (by simp [hkz])
  have a3 : w6.frozen? ⟨p.1, k, none⟩ = false := by
    rcases hpo.2 with ⟨hc, _⟩ | ⟨g, cap, cur, hv, _, hgg, _⟩
    · cases hc
    · injection hv with hv1
      injection hv1 with hv1
      injection hv1 with hv1
      subst hv1
      exact blk_frozen hgg k
  have hbz := HbZ.out z (List.mem_of_getElem? hz) z[k] (List.mem_of_getElem? (List.getElem?_eq_getElem hkz))
  have Hzk := hide (List.getElem?_eq_getElem hkz)
  have Hp := hide hp
  have Hz := hide hz
  generalize hb0 : z[k] = b0 at *
  have Hpo := hide hpo
  clear hp hz hp0 hpo hb0 hi hk hm
  have eK : ((K : Int) + (M : Int) == 0) = false := by simp; omega
  have en : ((n : Int) == 0) = false := by simp; omega
  unfold Sh.Byte at hbz
  go_wp2
  go_region
  rw [e1, e2]
  have hd := Sh.pow_bit m hm8
  have hu : Sh.Byte (bits .xor .u8 b0 (2 ^ m % 256)) := Sh.bx_byte _ _
  have hne : bits .xor .u8 b0 (2 ^ m % 256) ≠ b0 := fun e => hd.2 (Sh.bx_keep hbz hd.1 e)
  have HTu := hide (HTn.out i k z b0 _ Hz.out Hzk.out hu hne)
  generalize hu0 : bits .xor .u8 b0 (2 ^ m % 256) = u at *
  have hpne : p.1 ≠ cb := own_ne_cb Ho5.out hcbz p (List.mem_of_getElem? Hp.out)
  have hpw : w2.heap.size ≤ p.1 := (Ho5.out.ge p (List.mem_of_getElem? Hp.out)).1
  have hW := Ho5.out.set (by decide) (k := k) Hp.out Hz.out u
  have hWC : Sh.CS (w6.setCell ⟨p.1, k, none⟩ (.int .u8 u)) cb kind K M N gd 3 8 ((16 : Nat) : Int) 2 := HCS5.out.set Hpo.out hpne _
  have hWb : Below w.heap.size w6 (w6.setCell ⟨p.1, k, none⟩ (.int .u8 u)) := (Below.refl _ _).setCell (by simp; omega) _
  generalize hW0 : w6.setCell ⟨p.1, k, none⟩ (.int .u8 u) = W at *
  have hDr : Below W.heap.size W W.drew := (Below.refl _ _).drew
  have hV2 := HVn.out W.drew _ (Sh.CS.below hWC hDr) (own_dat (hW.below hDr)) (own_ne_cb hW hcbz) (Sh.set_bytes HbZ.out Hz.out hu)
  rw [HTu.out] at hV2
  have HV2 := hide hV2
  have hsW : w6.heap.size = W.heap.size := by rw [← hW0]; simp [World.setCell]
  clear hV2 a1 a2 a3 e1 e2 e3 hW hWC hu0 hW0
  go_wp2_with fail
  refine HV2.out.mono ?_
  rintro e w7 ⟨rfl, _, hk7⟩
  go_wp2
  go_ret
  exact ⟨rfl, ((hlow4.trans (hk5.low (by omega) (by omega))).trans hWb).trans ((hDr.mono (by omega)).trans (hk7.low (by omega) (by show w.heap.size ≤ W.heap.size; omega)))⟩
theorem turnedT_any (c b : Int) (s : ByteArray) (w : World) (hc : -9223372036854775808 ≤ c ∧ c ≤ 9223372036854775807) (hb : -9223372036854775808 ≤ b ∧ b ≤ 9223372036854775807) (hs : s.size ≤ maxLen) : Calls Try.prog 6 #[.int .i64 c, .int .i64 b, .string s] w fun e w' => e = .returned (.bool true) ∧ Below w.heap.size w w' := by
  go_enter Try.func6, Try.ntmps6
  go_wp2_with fail
  refine (some_any s _ hs).mono ?_
  rintro e w1 ⟨t, rfl, ht, rfl⟩
  go_wp2_with fail
  refine (flipped_any c b t _ hc.1 hb.1 ht).mono ?_
  rintro e w2 ⟨rfl, hb⟩
  go_wp2
  go_ret
  exact ⟨rfl, hb⟩
end Go.Proofs.Ythhbpofcemoflaa
