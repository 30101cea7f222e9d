import Derived.Test.YthhbpofcemoflaaGv
import Derived.Test.YthhbpofcemoflaaL4
namespace Go.Proofs.Ythhbpofcemoflaa
open Go.RowKit
set_option maxRecDepth 20000
namespace Sh
theorem xs_sum (s : Int) (e1 e2 : Nat → Int) (h1 : ∀ r, Byte (e1 r)) (h2 : ∀ r, Byte (e2 r)) (k : Nat) : xs s (fun r => bx (e1 r) (e2 r)) k = bx (xs s e1 k) (xs s e2 k) := by
  induction k with
  | zero => exact (bx_zero byte0).symm
  | succ k ih =>
    by_cases c : bit s k = true
    · rw [xs_t c, xs_t c, xs_t c, ih, bx_swap (xs_byte _ _ _) (xs_byte _ _ _) (h1 _) (h2 _)]
    · rw [xs_f c, xs_f c, xs_f c, ih]
theorem zip_getD {x y : List Int} {n : Nat} (hx : x.length = n) (hy : y.length = n) (i : Nat) : (List.zipWith bx x y).getD i 0 = bx (x.getD i 0) (y.getD i 0) := by
  rw [List.getD_eq_getElem?_getD, List.getD_eq_getElem?_getD, List.getD_eq_getElem?_getD]
  by_cases c : i < n
  · rw [List.getElem?_zipWith, List.getElem?_eq_getElem (by omega), List.getElem?_eq_getElem (by omega)]
    rfl
  · rw [List.getElem?_zipWith, List.getElem?_eq_none (by omega), List.getElem?_eq_none (by omega)]
    exact (bx_zero byte0).symm
theorem env_sum {R size K : Nat} {X Y : List (List Int)} (hX : X.length = K) (hY : Y.length = K) (hx : ∀ x ∈ X, x.length = R * size) (hy : ∀ y ∈ Y, y.length = R * size) (p : Nat) (hp : p < size) (r : Nat) (hr : r < K * R) :
    env0 (rowsD R size (mixB X Y)) p r = bx (env0 (rowsD R size X) p r) (env0 (rowsD R size Y) p r) := by
  have hR : 0 < R := by
    rcases Nat.eq_zero_or_pos R with h | h
    · subst h; omega
    · exact h
  have hd := Nat.div_add_mod r R
  have hm := Nat.mod_lt r hR
  have hj : r / R < K := Nat.div_lt_of_lt_mul (by rw [Nat.mul_comm]; exact hr)
  have e : r = r / R * R + r % R := by rw [Nat.mul_comm]; exact hd.symm
  obtain ⟨x, hx1⟩ : ∃ x, X[r / R]? = some x := ⟨_, List.getElem?_eq_getElem (by omega)⟩
  obtain ⟨y, hy1⟩ : ∃ y, Y[r / R]? = some y := ⟨_, List.getElem?_eq_getElem (by omega)⟩
  have hz : (mixB X Y)[r / R]? = some (List.zipWith bx x y) := by
    simp only [mixB]
    rw [List.getElem?_zipWith_eq_some]
    exact ⟨x, y, hx1, hy1, rfl⟩
  generalize r / R = j at *
  generalize r % R = q at *
  subst e
  rw [env_row hz hm hp, env_row hx1 hm hp, env_row hy1 hm hp]
  exact zip_getD (hx x (List.mem_of_getElem? hx1)) (hy y (List.mem_of_getElem? hy1)) _
theorem pb_sum {kind : Int} {K M : Nat} {N gd : Int} {size : Nat} {X Y : List (List Int)} (hX : X.length = K) (hY : Y.length = K) (hx : ∀ x ∈ X, x.length = R kind N * size) (hy : ∀ y ∈ Y, y.length = R kind N * size) (bX : Bytes X) (bY : Bytes Y) (j p : Nat) (hp : p < size) :
    pb kind K M N gd size (mixB X Y) j p = bx (pb kind K M N gd size X j p) (pb kind K M N gd size Y j p) := by
  unfold pb
  rw [xs_congr _ _ _ _ (fun r hr => env_sum hX hY hx hy p hp r hr)]
  exact xs_sum _ _ _ (fun r => env0_byte (rowsD_bytes bX) p r) (fun r => env0_byte (rowsD_bytes bY) p r) _
theorem zip_flat (f g : Nat → List Int) (l : List Nat) (h : ∀ q ∈ l, (f q).length = (g q).length) : List.zipWith bx (l.flatMap f) (l.flatMap g) = l.flatMap fun q => List.zipWith bx (f q) (g q) := by
  induction l with
  | nil => rfl
  | cons a l ih =>
    rw [List.flatMap_cons, List.flatMap_cons, List.flatMap_cons, List.zipWith_append (h a (by simp)), ih (fun q hq => h q (by simp [hq]))]
theorem zip_map {α : Type} (f g : α → Int) (l : List α) : List.zipWith bx (l.map f) (l.map g) = l.map fun i => bx (f i) (g i) := by
  induction l with
  | nil => rfl
  | cons a l ih => rw [List.map_cons, List.map_cons, List.map_cons, List.zipWith_cons_cons, ih]
theorem zip_map2 {α : Type} (f g : α → List Int) (l : List α) : List.zipWith (List.zipWith bx) (l.map f) (l.map g) = l.map fun i => List.zipWith bx (f i) (g i) := by
  induction l with
  | nil => rfl
  | cons a l ih => rw [List.map_cons, List.map_cons, List.map_cons, List.zipWith_cons_cons, ih]
theorem parB_sum {kind : Int} {K M : Nat} {N gd : Int} {size : Nat} {X Y : List (List Int)} (hX : X.length = K) (hY : Y.length = K) (hx : ∀ x ∈ X, x.length = R kind N * size) (hy : ∀ y ∈ Y, y.length = R kind N * size) (bX : Bytes X) (bY : Bytes Y) :
    parB kind K M N gd size (mixB X Y) = mixB (parB kind K M N gd size X) (parB kind K M N gd size Y) := by
  unfold parB
  show _ = List.zipWith (List.zipWith bx) _ _
  rw [zip_map2]
  apply List.map_congr_left
  intro k _
  rw [zip_flat _ _ _ (by intro q _; simp), List.flatMap_def, List.flatMap_def]
  congr 1
  apply List.map_congr_left
  intro q _
  rw [zip_map]
  apply List.map_congr_left
  intro i hi
  exact pb_sum hX hY hx hy bX bY _ _ (by simpa using hi)
theorem Dat.len_each {w : World} {base : Nat} {tS : TypeId} {v : Value} {n : Nat} {ps : List (Nat × Nat × Nat)} {X : List (List Int)} (h : Dat w base tS v n ps X) : ∀ x ∈ X, x.length = n := by
  intro x hx
  obtain ⟨j, hj⟩ := List.getElem?_of_mem hx
  obtain ⟨p, hp⟩ : ∃ p, ps[j]? = some p := ⟨_, List.getElem?_eq_getElem (by rw [← h.lens]; exact (List.getElem?_eq_some_iff.1 hj).1)⟩
  exact (h.each j p x hp hj).1
end Sh
end Go.Proofs.Ythhbpofcemoflaa
namespace Go.Proofs.Ythhbpofcemoflaa
open Go.RowKit
set_option maxRecDepth 20000
/-- what a call that may write into the coder alone leaves as it was -/
structure Sh.Keep (w w' : World) (cb : Nat) : Prop where
  grown : w.grownBy w' (some cb)
  dat : ∀ (base : Nat) (v : Value) (n : Nat) (ps : List (Nat × Nat × Nat)) (X : List (List Int)), Sh.Dat w base 35 v n ps X → (∀ p ∈ ps, p.1 ≠ cb) → Sh.Dat w' base 35 v n ps X
theorem coded_st (cb : Nat) (kind : Int) (K M : Nat) (N gd lev scr : Int) (blk : Nat) (cac : Int) (size : Nat) (v : Value) (base : Nat) (ps : List (Nat × Nat × Nat)) (X : List (List Int)) (w : World) (h : Sh.Ok kind K M N gd) (hcac : 0 ≤ cac) (hc4 : cac ≤ 4) (hbk : 1 ≤ blk) (hbk' : blk ≤ 64)
    (hs1 : 1 ≤ size) (hs2 : size ≤ 48) (hc : Sh.CS w cb kind K M N gd lev scr blk cac) (hd : Sh.Dat w base 35 v (Sh.R kind N * size) ps X) (hpl : ps.length = K) (hne : ∀ p ∈ ps, p.1 ≠ cb) (bX : Sh.Bytes X) :
    Calls Try.prog 15 #[.pointer (some ⟨cb, 0, none⟩), .int .i64 M, v] w fun e w' => ∃ (v' : Value) (qs : List (Nat × Nat × Nat)), e = .returned (.tuple #[v', .bool true]) ∧ qs.length = M ∧
      Sh.Dat w' w.heap.size 35 v' (Sh.R kind N * size) qs (Sh.parB kind K M N gd size X) ∧ (∀ p ∈ qs, p.1 ≠ cb) ∧ Sh.Own w' w.heap.size 35 5 v' (Sh.R kind N * size) qs (Sh.parB kind K M N gd size X) ∧ Sh.CS w' cb kind K M N gd lev scr blk cac ∧ Sh.Keep w w' cb := by
  refine (coded_ok cb kind K M N gd lev scr blk cac size v base ps X w h hcac hc4 hbk hbk' hs1 hs2 hc hd hpl hne bX).mono ?_
  rintro e w' ⟨v', qs, rfl, hql, hown, hcs, hg⟩
  rw [Sh.par_eq h size X bX] at hown
  obtain ⟨c0, c1, c2, c3, c4, c5, hblk⟩ := Sh.CS.blk hc
  exact ⟨v', qs, rfl, hql, own_dat hown, own_ne_cb hown (blk_lt hblk), hown, hcs, hg, fun b v n ps X hd hne => hd.grown hg hblk (by decide) hne⟩

theorem Sh.Keep.low {b : Nat} {w w' : World} {cb : Nat} (h : Sh.Keep w w' cb) (hb : b ≤ cb) (hz : b ≤ w.heap.size) : Below b w w' := ⟨h.grown.os, h.grown.tape, h.grown.output, h.grown.size, fun i hi => h.grown.block i (by omega) (by intro e; injection e; omega)⟩
def Sh.szOf : Value → Nat
  | .string u => u.size
  | _ => 0
set_option maxHeartbeats 4000000 in
theorem summed_any (c : Int) (s o : ByteArray) (w : World) (hl : -9223372036854775808 ≤ c) (hs : s.size ≤ 300) (ho : o.size ≤ 300) : Calls Try.prog 9 #[.int .i64 c, .string s, .string o] w fun e w' => e = .returned (.bool true) ∧ Below w.heap.size w w' := by
  go_enter Try.func9, Try.ntmps9
  go_wp2_with fail
  refine (codes_any c _ hl).mono ?_
  rintro e w1 ⟨t, ht, rfl, hb1⟩
  have hOk0 := Sh.cds_ok t ht
  obtain ⟨kind, K, M, N, gd⟩ := t
  simp only at hOk0
  clear ht
  have HOk := hide hOk0
  clear hOk0
  go_wp2_with fail
  refine (best_ok kind K M N gd _ HOk.out).mono ?_
  rintro e w2 ⟨cb, rfl, hcb, hco, hb2⟩
  obtain ⟨hK, hM, h10, hR1, hR2, hKR, hMR, hPL⟩ := HOk.out.bounds
  have hsv := (hb2.block w1.heap.size (by simp)).trans (heap_alloc_new w1 _)
  have hsz2 := hb2.size
  simp only [World.size_alloc] at hsz2 hcb
  have s0 : w2.cell? ⟨w1.heap.size, 0, none⟩ = some (.int .i64 kind) := blk_cell hsv rfl
  have s1 : w2.cell? ⟨w1.heap.size, 1, none⟩ = some (.int .i64 K) := blk_cell hsv rfl
  have s2 : w2.cell? ⟨w1.heap.size, 2, none⟩ = some (.int .i64 M) := blk_cell hsv rfl
  have s3 : w2.cell? ⟨w1.heap.size, 3, none⟩ = some (.int .i64 N) := blk_cell hsv rfl
  have s4 : w2.cell? ⟨w1.heap.size, 4, none⟩ = some (.int .i64 gd) := blk_cell hsv rfl
  have hcbz := blk_lt hco
  have HD := hide (fun (wx : World) (t : ByteArray) (ht : t.size ≤ 300) (hb : Below w2.heap.size w2 wx) => data_ok cb kind K M N gd t wx HOk.out ht (Nat.lt_of_lt_of_le hcbz hb.size) (keepc hb hcbz 0 (blk_cell hco rfl)) (keepc hb hcbz 1 (blk_cell hco rfl)) (keepc hb hcbz 2 (blk_cell hco rfl)) (keepc hb hcbz 3 (blk_cell hco rfl)) (keepc hb hcbz 4 (blk_cell hco rfl)))
  have HCS : Hid (Sh.CS w2 cb kind K M N gd 3 8 ((16 : Nat) : Int) 2) := Or.inl hco
  have hlow2 : Below w.heap.size w w2 := (hb1.trans (((Below.refl w1.heap.size w1).alloc (Nat.le_refl _) _).mono hb1.size)).trans (hb2.mono (by have := hb1.size; simp; omega))
  have hb1s := hb1.size
  clear hsv hco hb2
  go_wp2_with fail
  go_loop [2] (fun v => ∃ u : ByteArray, v = .string u ∧ u.size ≤ 300) (fun v => s.size - Sh.szOf v)
  case atStart => exact ⟨o, rfl, ho⟩
  case round =>
    obtain ⟨u, rfl, hu⟩ := hrel
    by_cases hlt : u.size < s.size
    · go_wp2
      go_round
      case rel => exact ⟨_, rfl, by rw [ByteArray.size_append]; have : (ByteArray.mk #[120]).size = 1 := rfl; omega⟩
      case measure => simp only [Sh.szOf]; rw [ByteArray.size_append]; have : (ByteArray.mk #[120]).size = 1 := rfl; omega
    · go_wp2_with fail
      refine (HD.out w2 s hs (Below.refl _ _)).mono ?_
      rintro e w3 ⟨v3, ps, X, rfl, hpl, hbX, hown3, hb3⟩
      have hs3 := hb3.size
      have hsx : (u.extract 0 s.size).size = s.size := by simp; omega
      have HX3 := hide (⟨hpl, hbX, hown3⟩ : _ ∧ _ ∧ _)
      have t0 := keepc hb3 (by omega) 0 s0
      have t1 := keepc hb3 (by omega) 1 s1
      have t2 := keepc hb3 (by omega) 2 s2
      have t3 := keepc hb3 (by omega) 3 s3
      have t4 := keepc hb3 (by omega) 4 s4
      clear s0 s1 s2 s3 s4 hpl hbX hown3
      go_wp2_with fail
      go_region_with ((go_at_call 14; refine (HD.out _ _ (by rw [hsx]; exact hs) (by first | exact hb3 | exact hb3.drew)).mono ?_; rintro e w4 ⟨v4, qs, Y, rfl, hql, hbY, hown4, hb4⟩))
      all_goals
        have hb34 : Below w3.heap.size w3 w4 := by first | exact hb4 | exact ((Below.refl _ _).drew).trans hb4
        have hs4 := hb34.size
        obtain ⟨hpl, hbX, hown3⟩ := HX3.out
        rw [hsx] at hown4
        have hsz17 : 1 + s.size % 17 ≤ 17 := by have := Nat.mod_lt s.size (show 0 < 17 by decide); omega
        generalize hsize : 1 + s.size % 17 = size at *
        have hsize1 : 1 ≤ size := by omega
        clear hsize
        have hn1 : 1 ≤ Sh.R kind N * size := Nat.mul_pos hR1 hsize1
        have hn2 : Sh.R kind N * size ≤ 102 := by
          have : Sh.R kind N * size ≤ 6 * 17 := Nat.mul_le_mul hR2 hsz17
          omega
        have hdX := (own_dat hown3).below hb34
        have hdY := own_dat hown4
        have HnX := hide (own_ne_cb hown3 hcbz)
        have HnY : Hid (∀ p ∈ qs, p.1 ≠ cb) := own_ne_cb hown4 (by first | omega | (simp; omega))
        have HXY := hide (Sh.parB_sum (gd := gd) (M := M) (N := N) (kind := kind) (size := size) (X := X) (Y := Y) (by rw [hdX.lens, hpl]) (by rw [hdY.lens, hql]) hdX.len_each hdY.len_each hbX hbY)
        have HCS4 := hide (Sh.CS.below (Sh.CS.below HCS.out hb3) hb34)
        have HMx := hide (mixed_ok K (Sh.R kind N * size) v3 v4 _ _ ps qs X Y w4 hK (by omega) hn1 hn2 hdX hdY hpl hql)
        have x2 := keepc hb34 (by omega) 2 t2
        have HdX := hide hdX
        have HdY := hide hdY
        have HbX := hide hbX
        have HbY := hide hbY
        have Hpl := hide hpl
        have Hql := hide hql
        clear t0 t1 t2 t3 t4 hpl hql hbX hbY hown3 hown4 hdX hdY HX3 HD
        go_wp2_with fail
        refine HMx.out.mono ?_
        rintro e w5 ⟨v5, rs, rfl, hrl, hown5, hb5⟩
        have hs5 := hb5.size
        have HnZ := hide (own_ne_cb hown5 (show cb < w4.heap.size by omega))
        have HdZ := hide (own_dat hown5)
        have Hrl := hide hrl
        have HC1 := hide (coded_st cb kind K M N gd 3 8 16 2 size v3 _ ps X w5 HOk.out (by decide) (by decide) (by decide) (by decide) hsize1 (by omega) (Sh.CS.below HCS4.out hb5) (HdX.out.below hb5) Hpl.out HnX.out HbX.out)
        have x2' := keepc hb5 (by omega) 2 x2
        clear x2 hrl hown5
        go_wp2_with fail
        refine HC1.out.mono ?_
        rintro e w6 ⟨v6, ms, rfl, hml, hd6, hn6, _, hcs6, hk6⟩
        have hs6 := hk6.grown.size
        have x2 := (grown_cell (c := w1.heap.size) (j := 2) hk6.grown (by omega) (by omega)).trans x2'
        have HC2 := hide (coded_st cb kind K M N gd 3 8 16 2 size v4 _ qs Y w6 HOk.out (by decide) (by decide) (by decide) (by decide) hsize1 (by omega) hcs6 (hk6.dat _ _ _ _ _ (HdY.out.below hb5) HnY.out) Hql.out HnY.out HbY.out)
        have HdZ6 := hide (hk6.dat _ _ _ _ _ HdZ.out HnZ.out)
        have Hd6 := hide hd6
        have Hn6 := hide hn6
        have Hml := hide hml
        clear x2' hd6 hn6 hml hcs6
        go_wp2_with fail
        refine HC2.out.mono ?_
        rintro e w7 ⟨v7, ns, rfl, hnl, hd7, hn7, _, hcs7, hk7⟩
        have hs7 := hk7.grown.size
        have x2' := (grown_cell (c := w1.heap.size) (j := 2) hk7.grown (by omega) (by omega)).trans x2
        have HC3 := hide (coded_st cb kind K M N gd 3 8 16 2 size v5 _ rs (Sh.mixB X Y) w7 HOk.out (by decide) (by decide) (by decide) (by decide) hsize1 (by omega) hcs7 (hk7.dat _ _ _ _ _ HdZ6.out HnZ.out) Hrl.out HnZ.out (Sh.mixB_bytes X Y))
        have Hd67 := hide (hk7.dat _ _ _ _ _ Hd6.out Hn6.out)
        have Hd7 := hide hd7
        have Hn7 := hide hn7
        have Hnl := hide hnl
        clear x2 hd7 hn7 hnl hcs7
        go_wp2_with fail
        refine HC3.out.mono ?_
        rintro e w8 ⟨v8, os, rfl, hol, hd8, hn8, _, hcs8, hk8⟩
        have HM2 := hide (mixed_ok M (Sh.R kind N * size) v6 v7 _ _ ms ns _ _ w8 hM (by omega) hn1 hn2 (hk8.dat _ _ _ _ _ Hd67.out Hn6.out) (hk8.dat _ _ _ _ _ Hd7.out Hn7.out) Hml.out Hnl.out)
        have Hd8 := hide hd8
        have Hol := hide hol
        have hs8 := hk8.grown.size
        clear hd8 hol hn8 hcs8
        go_wp2_with fail
        refine HM2.out.mono ?_
        rintro e w9 ⟨v9, us, rfl, hul, hown9, hb9⟩
        rw [← HXY.out] at hown9
        have HSm := hide (same_ok M (Sh.R kind N * size) v8 v9 _ _ os us _ w9 hM (by omega) (Hd8.out.below hb9) (own_dat hown9) Hol.out hul)
        clear hul hown9
        go_wp2_with fail
        refine HSm.out.mono ?_
        rintro e w10 ⟨rfl, q, rfl⟩
        have hz : w.heap.size ≤ cb := by omega
        have hlow : Below w.heap.size w w9 := (((((hlow2.trans (hb3.mono hlow2.size)).trans (hb34.mono (by omega))).trans (hb5.mono (by omega))).trans (hk6.low hz (by omega))).trans (hk7.low hz (by omega))).trans ((hk8.low hz (by omega)).trans (hb9.mono (by omega)))
        go_wp2
        go_ret
        exact ⟨rfl, hlow.trans ((below_drewN w9 q).mono (by have := hb9.size; omega))⟩
end Go.Proofs.Ythhbpofcemoflaa
