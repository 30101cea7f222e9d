import Derived.Test.YtgmbooaggddkiabW20
import Derived.Test.YtgmbooaggddkiabPure10
namespace Go.Proofs.Ytgmbooaggddkiab
open Go.RowKit

/-- the coder as it stands: fresh, or with the plain program kept -/
def Sh.CS (w : World) (cb : Nat) (kind : Int) (K M : Nat) (N gd lev scr blk cac : Int) : Prop :=
  (w.heap[cb]? = some (.cells (Sh.coder kind K M N gd lev scr blk cac 0 0 0 0 (.slice none 0 0) 0) 51 (0, 0))) ∨
  ∃ go co : Nat, w.heap[cb]? = some (.cells (Sh.coder kind K M N gd lev scr blk cac 0 ((K * Sh.R kind N : Nat) : Int) ((M * Sh.R kind N : Nat) : Int) 0 (.slice (some ⟨go, 0, none⟩) (Sh.prog kind K M N gd).length co) 1) 51 (0, 0)) ∧
    w.ownsRow 0 71 3 (.slice (some ⟨go, 0, none⟩) (Sh.prog kind K M N gd).length co) (Sh.prog kind K M N gd).length (Sh.opCells (Sh.prog kind K M N gd))
theorem Sh.CS.blk {w : World} {cb : Nat} {kind : Int} {K M : Nat} {N gd lev scr blk cac : Int} (h : Sh.CS w cb kind K M N gd lev scr blk cac) : ∃ p0 g0 o0 z0 v0 cnt, w.heap[cb]? = some (.cells (Sh.coder kind K M N gd lev scr blk cac p0 g0 o0 z0 v0 cnt) 51 (0, 0)) := by
  rcases h with h | ⟨go, co, h, _⟩
  · exact ⟨_, _, _, _, _, _, h⟩
  · exact ⟨_, _, _, _, _, _, h⟩
theorem Sh.CS.below {w w' : World} {cb : Nat} {kind : Int} {K M : Nat} {N gd lev scr blk cac : Int} (h : Sh.CS w cb kind K M N gd lev scr blk cac) (hb : Below w.heap.size w w') : Sh.CS w' cb kind K M N gd lev scr blk cac := by
  rcases h with h | ⟨go, co, h, ho⟩
  · exact Or.inl ((hb.block cb (blk_lt h)).trans h)
  · exact Or.inr ⟨go, co, (hb.block cb (blk_lt h)).trans h, own_below ho hb⟩

theorem want_any (cb : Nat) (kind : Int) (K M : Nat) (N gd lev scr blk cac : Int) (w : World) (h : Sh.Ok kind K M N gd) (hcac : 1 ≤ cac) (hc4 : cac ≤ 4) (hc : Sh.CS w cb kind K M N gd lev scr blk cac) :
    Calls Try.prog 21 #[.pointer (some ⟨cb, 0, none⟩), .int .i64 0] w fun e w' => ∃ go co : Nat, e = .returned (.agg #[.int .i64 ((K * Sh.R kind N : Nat) : Int), .int .i64 ((M * Sh.R kind N : Nat) : Int), .int .i64 0, .slice (some ⟨go, 0, none⟩) (Sh.prog kind K M N gd).length co]) ∧
      w'.ownsRow 0 71 3 (.slice (some ⟨go, 0, none⟩) (Sh.prog kind K M N gd).length co) (Sh.prog kind K M N gd).length (Sh.opCells (Sh.prog kind K M N gd)) ∧ Sh.CS w' cb kind K M N gd lev scr blk cac ∧ w.grownBy w' (some cb) := by
  rcases hc with hc | ⟨go, co, hc, ho⟩
  · refine (want_new cb kind K M N gd lev scr blk cac w h hcac hc4 hc).mono ?_
    rintro e w' ⟨vo, rfl, h1, h2, h3⟩
    have hpp : 1 ≤ (Sh.prog kind K M N gd).length := by
      obtain ⟨hK, hM, h10, hR1, hR2, hKR, hMR, hPL⟩ := h.bounds
      exact Sh.plain_pos _ _ (by rw [hPL]; exact Nat.mul_pos hM hR1)
    obtain ⟨g, c, rfl, _, _⟩ := own_form3 h1 hpp
    exact ⟨g, c, rfl, own_mono h1 (Nat.zero_le _), Or.inr ⟨g, c, h2, own_mono h1 (Nat.zero_le _)⟩, h3⟩
  · refine (want_kept cb kind K M N gd lev scr blk cac _ _ _ go _ co w hc).mono ?_
    rintro e w' ⟨rfl, h1⟩
    exact ⟨go, co, rfl, own_below ho h1, Or.inr ⟨go, co, (h1.block cb (blk_lt hc)).trans hc, own_below ho h1⟩, grown_of h1 _⟩

def Sh.regs (kind : Int) (K M : Nat) (N gd : Int) (size : Nat) (X : List (List Int)) : List (List Int) := (List.range (M * Sh.R kind N)).map (Sh.regAt (Sh.prog kind K M N gd) (Sh.rowsD (Sh.R kind N) size X) (K * Sh.R kind N) size size size 0)
/-- the shards of parity -/
def Sh.par (kind : Int) (K M : Nat) (N gd : Int) (size : Nat) (X : List (List Int)) : List (List Int) := (List.range M).map fun k => Sh.shB (Sh.regs kind K M N gd size X) (Sh.R kind N) k (Sh.R kind N)

set_option maxHeartbeats 2000000 in
theorem parityOf_ok (cb : Nat) (kind : Int) (K M : Nat) (N gd lev scr : Int) (blk : Nat) (cac : Int) (size : Nat) (v : Value) (base : Nat) (ps : List (Nat × Nat × Nat)) (X : List (List Int)) (w : World) (h : Sh.Ok kind K M N gd) (hcac : 1 ≤ cac) (hc4 : cac ≤ 4) (hbk : 1 ≤ blk) (hbk' : blk ≤ 64)
    (hs1 : 1 ≤ size) (hs2 : size ≤ 48) (hc : Sh.CS w cb kind K M N gd lev scr blk cac) (hd : Sh.Dat w base 33 v (Sh.R kind N * size) ps X) (hpl : ps.length = K) (hne : ∀ p ∈ ps, p.1 ≠ cb) :
    Calls Try.prog 14 #[.pointer (some ⟨cb, 0, none⟩), v] w fun e w' => ∃ (v' : Value) (qs : List (Nat × Nat × Nat)), e = .returned v' ∧ qs.length = M ∧
      Sh.Own w' w.heap.size 33 5 v' (Sh.R kind N * size) qs (Sh.par kind K M N gd size X) ∧ Sh.CS w' cb kind K M N gd lev scr blk cac ∧ w.grownBy w' (some cb) := by
  obtain ⟨hK, hM, h10, hR1, hR2, hKR, hMR, hPL⟩ := h.bounds
  have HW := hide (fun wx hx => want_any cb kind K M N gd lev scr blk cac wx h hcac hc4 hx)
  have HRw := hide (fun w => rows_ok kind K M N gd w h)
  obtain ⟨p0, g0, o0, z0, v0, cnt, hblk⟩ := hc.blk
  have hcb := blk_lt hblk
  have c0 : w.cell? ⟨cb, 0, none⟩ = some (.int .i64 kind) := blk_cell hblk rfl
  have c1 : w.cell? ⟨cb, 1, none⟩ = some (.int .i64 K) := blk_cell hblk rfl
  have c2 : w.cell? ⟨cb, 2, none⟩ = some (.int .i64 M) := blk_cell hblk rfl
  have c3 : w.cell? ⟨cb, 3, none⟩ = some (.int .i64 N) := blk_cell hblk rfl
  have c4 : w.cell? ⟨cb, 4, none⟩ = some (.int .i64 gd) := blk_cell hblk rfl
  have Hblk := hide hblk
  have HC := hide hc
  have HD := hide hd
  have HNE := hide hne
  have HPL := hide hpl
  clear hblk hc hd hne hpl
  go_enter Try.func14, Try.ntmps14
  go_wp2_with fail
  refine (HRw.out _).mono ?_
  rintro e w1 ⟨rfl, hb1⟩
  have HC1 := hide (HC.out.below hb1)
  have HD1 := hide (HD.out.below hb1)
  have hs1w := hb1.size
  go_wp2_with fail
  refine (HW.out _ HC1.out).mono ?_
  rintro e w2 ⟨go, co, rfl, ho2, hc2, hg2⟩
  have HD2 := hide (HD1.out.grown hg2 ((hb1.block cb hcb).trans Hblk.out) (by decide) HNE.out)
  have HO2 := hide ho2
  have HC2 := hide hc2
  have HG2 := hide hg2
  have hs2w := hg2.size
  clear ho2 hc2 hg2
  obtain ⟨e0, e1, e2, e3, e4, e5, hblk2⟩ := HC2.out.blk
  have hcb2 := blk_lt hblk2
  have f7 : w2.cell? ⟨cb, 7, none⟩ = some (.int .i64 blk) := blk_cell hblk2 rfl
  have Hblk2 := hide hblk2
  clear hblk2 c0 c1 c2 c3 c4
  have HRO := hide (fun (wx : World) (hx : w2.heap.size ≤ wx.heap.size) (hbx : Below w2.heap.size w2 wx) => rowsOf_any v base K (Sh.R kind N) size ps wx hK (by omega) hR1 (by omega) hs1 hs2 HPL.out (fun p hp => HD2.out.caps p hp) (by have := (HD2.out.below hbx).row; rw [HPL.out] at this; exact this))
  go_wp2_with fail
  refine (HRO.out _ (by simp) ((Below.refl _ _).alloc (Nat.le_refl _) _)).mono ?_
  rintro e w4 ⟨v4, rfl, hown4, hb4⟩
  have hKR1 : 1 ≤ K * Sh.R kind N := Nat.mul_pos hK hR1
  obtain ⟨g4, cap4, hv4, hgb4, hg4, hcap4, hcells4⟩ := own_form hown4 hKR1
  rw [hv4]
  rw [hv4] at hown4
  have hcl : (Sh.cutAll size (Sh.R kind N) ps).length = K * Sh.R kind N := by rw [Sh.cutAll_len, HPL.out]
  obtain ⟨pc, hpc⟩ : ∃ p, (Sh.cutAll size (Sh.R kind N) ps)[0]? = some p := ⟨_, List.getElem?_eq_getElem (by rw [hcl]; omega)⟩
  have k0 : w4.cell? ⟨g4, 0, none⟩ = some (.slice (some ⟨pc.1, pc.2.1, none⟩) size pc.2.2) := hcells4 0 _ (Sh.sv_get hpc)
  have hb24 : Below w2.heap.size w2 w4 := ((Below.refl _ _).alloc (Nat.le_refl _) _).trans (hb4.mono (by simp))
  have hpb := (hb4.block w2.heap.size (by simp)).trans (heap_alloc_new w2 _)
  have r0 : w4.cell? ⟨w2.heap.size, 0, none⟩ = some (.int .i64 ((K * Sh.R kind N : Nat) : Int)) := blk_cell hpb rfl
  have r1 : w4.cell? ⟨w2.heap.size, 1, none⟩ = some (.int .i64 ((M * Sh.R kind N : Nat) : Int)) := blk_cell hpb rfl
  have r2 : w4.cell? ⟨w2.heap.size, 2, none⟩ = some (.int .i64 0) := blk_cell hpb rfl
  have r3 : w4.cell? ⟨w2.heap.size, 3, none⟩ = some (.slice (some ⟨go, 0, none⟩) (Sh.prog kind K M N gd).length co) := blk_cell hpb rfl
  have f7' : w4.cell? ⟨cb, 7, none⟩ = some (.int .i64 blk) := (hb24.cell (p := ⟨cb, 7, none⟩) hcb2).trans f7
  have hKRb : decide (0 < ((K * Sh.R kind N : Nat) : Int)) = true := by simp only [decide_eq_true_eq]; omega
  have HOwn4 := hide hown4
  clear hcells4 hown4 hv4 hpb f7 hKRb
  have hMR1 : 1 ≤ M * Sh.R kind N := Nat.mul_pos hM hR1
  have hpp : 1 ≤ (Sh.prog kind K M N gd).length := Sh.plain_pos _ _ (by rw [hPL]; exact hMR1)
  have hpn : (Sh.prog kind K M N gd).length ≤ 4000 := by
    have := Sh.plA_len (K * Sh.R kind N) (Sh.parity kind K M N gd) hKR (Sh.parity kind K M N gd).length
    show (Sh.plA _ _ _).length ≤ 4000
    rw [hPL] at this ⊢
    omega
  have hXl : ∀ (j : Nat) (x : List Int), X[j]? = some x → x.length = Sh.R kind N * size := fun j x hx => by
    obtain ⟨p, hp⟩ : ∃ p, ps[j]? = some p := ⟨_, List.getElem?_eq_getElem (by rw [← HD.out.lens]; exact (List.getElem?_eq_some_iff.1 hx).1)⟩
    exact (HD.out.each j p x hp hx).1
  have HRun := hide (fun (wx : World) (hx : Below w4.heap.size w4 wx) => (by
    have hb2x := hb24.trans (hx.mono hb24.size)
    have := run_any (K * Sh.R kind N) (M * Sh.R kind N) 0 size blk (.slice (some ⟨go, 0, none⟩) (Sh.prog kind K M N gd).length co) (.slice (some ⟨g4, 0, none⟩) (K * Sh.R kind N) cap4) 0 _ (Sh.prog kind K M N gd) (Sh.cutAll size (Sh.R kind N) ps) (Sh.rowsD (Sh.R kind N) size X) wx hKR1 hKR hMR1 hMR (by decide) hs1 hs2 hbk hbk'
      (by have := Sh.plain_ok (K * Sh.R kind N) (Sh.parity kind K M N gd) hKR1; rw [hPL] at this; exact this) hpp hpn (own_below HO2.out hb2x) (own_below HOwn4.out hx) hcl (by rw [Sh.rowsD_len, HD.out.lens, HPL.out])
      (Sh.cut_lt (HD2.out.below hb2x)) (Sh.rowsD_each hXl) (Sh.Dat.rows (HD2.out.below hb2x))
    exact this : Calls Try.prog 23 #[.agg #[.int .i64 ((K * Sh.R kind N : Nat) : Int), .int .i64 ((M * Sh.R kind N : Nat) : Int), .int .i64 0, .slice (some ⟨go, 0, none⟩) (Sh.prog kind K M N gd).length co], .slice (some ⟨g4, 0, none⟩) (K * Sh.R kind N) cap4, .int .i64 size, .int .i64 blk] wx
      fun e w' => ∃ (v : Value) (bs : List Nat), e = .returned v ∧ w'.ownsRow wx.heap.size 33 1 v (M * Sh.R kind N) (bs.map fun b => Value.slice (some ⟨b, 0, none⟩) size size) ∧ bs.length = M * Sh.R kind N ∧ bs.Nodup ∧
        (∀ (j b : Nat), bs[j]? = some b → wx.heap.size ≤ b ∧ w'.heap[b]? = some (.cells ((Sh.regAt (Sh.prog kind K M N gd) (Sh.rowsD (Sh.R kind N) size X) (K * Sh.R kind N) size size size 0 j).map (Value.int .u8)).toArray 5 (0, 0))) ∧ Below wx.heap.size wx w'))
  have HSO := hide (fun (v : Value) (base : Nat) (bs : List Nat) (wx : World) (h1 : bs.length = M * Sh.R kind N) (h2 : wx.ownsRow base 33 1 v (M * Sh.R kind N) (bs.map fun b => Value.slice (some ⟨b, 0, none⟩) size size))
      (h3 : ∀ (j b : Nat), bs[j]? = some b → wx.heap[b]? = some (.cells ((Sh.regAt (Sh.prog kind K M N gd) (Sh.rowsD (Sh.R kind N) size X) (K * Sh.R kind N) size size size 0 j).map (Value.int .u8)).toArray 5 (0, 0))) =>
    shardsOf_any v base M (Sh.R kind N) size bs (Sh.regs kind K M N gd size X) wx hM (by omega) hR1 (by omega) hs1 hs2 h1 (by simp [Sh.regs]) (by
      intro j x hx
      simp only [Sh.regs, List.getElem?_map, Option.map_eq_some_iff] at hx
      obtain ⟨q, _, rfl⟩ := hx
      exact Sh.regAt_len _ _ _ _ _ _ _ _) h2 (by
      intro j b x hb hx
      have hj : j < M * Sh.R kind N := by rw [← h1]; exact (List.getElem?_eq_some_iff.1 hb).1
      simp only [Sh.regs, List.getElem?_map, List.getElem?_range hj, Option.map_some, Option.some.injEq] at hx
      subst hx
      exact h3 j b hb))
  have HPar := hide (rfl : (List.range M).map (fun k => Sh.shB (Sh.regs kind K M N gd size X) (Sh.R kind N) k (Sh.R kind N)) = Sh.par kind K M N gd size X)
  rw [HPar.out] at HSO
  generalize Sh.par kind K M N gd size X = PX at *
  clear HPar hpc hXl
  generalize hGn : K * Sh.R kind N = Gn at *
  generalize hOn : M * Sh.R kind N = On at *
  have HGn := hide hGn
  have HOn := hide hOn
  clear hGn hOn
  go_wp2
  go_region_with ((go_at_call 23; refine (HRun.out _ (by first | exact Below.refl _ _ | exact (Below.refl _ _).drew)).mono ?_; rintro e w5 ⟨v5, bs, rfl, hown5, hbl5, hnd5, hbs5, hb5⟩))
  all_goals
    have hs4 := hb24.size
    have hs5 := hb5.size
    go_wp2_with (go_at_call 24; refine (HSO.out _ _ _ _ hbl5 hown5 (fun j b hb => (hbs5 j b hb).2)).mono ?_; rintro e w6 ⟨v6, qs, rfl, hql, hown6, hb6⟩)
    go_ret
    have hb4x : Below w4.heap.size w4 w5 := by first | exact hb5 | exact ((Below.refl _ _).drew).trans hb5
    have hb46 := hb4x.trans (hb6.mono hb4x.size)
    exact ⟨_, qs, rfl, hql, hown6.mono (by have := hb4x.size; omega), (HC2.out.below hb24).below hb46, grown_below (grown_below (grown_trans (grown_of hb1 (some cb)) HG2.out) hb24) hb46⟩

set_option maxHeartbeats 1000000 in
theorem encode_ok (cb : Nat) (kind : Int) (K M : Nat) (N gd lev scr : Int) (blk : Nat) (cac : Int) (size : Nat) (v : Value) (base : Nat) (ps : List (Nat × Nat × Nat)) (X : List (List Int)) (w : World) (h : Sh.Ok kind K M N gd) (hcac : 1 ≤ cac) (hc4 : cac ≤ 4) (hbk : 1 ≤ blk) (hbk' : blk ≤ 64)
    (hs1 : 1 ≤ size) (hs2 : size ≤ 48) (hc : Sh.CS w cb kind K M N gd lev scr blk cac) (hd : Sh.Dat w base 33 v (Sh.R kind N * size) ps X) (hpl : ps.length = K) (hne : ∀ p ∈ ps, p.1 ≠ cb) :
    Calls Try.prog 9 #[.pointer (some ⟨cb, 0, none⟩), v] w fun e w' => ∃ (v' : Value) (qs : List (Nat × Nat × Nat)), e = .returned (.tuple #[v', .int .i64 0]) ∧ qs.length = M ∧
      Sh.Own w' w.heap.size 33 5 v' (Sh.R kind N * size) qs (Sh.par kind K M N gd size X) ∧ Sh.CS w' cb kind K M N gd lev scr blk cac ∧ w.grownBy w' (some cb) := by
  obtain ⟨hK, hM, h10, hR1, hR2, hKR, hMR, hPL⟩ := h.bounds
  obtain ⟨p0, g0, o0, z0, v0, cnt, hblk⟩ := hc.blk
  have hcb := blk_lt hblk
  have c0 : w.cell? ⟨cb, 0, none⟩ = some (.int .i64 kind) := blk_cell hblk rfl
  have c1 : w.cell? ⟨cb, 1, none⟩ = some (.int .i64 K) := blk_cell hblk rfl
  have c2 : w.cell? ⟨cb, 2, none⟩ = some (.int .i64 M) := blk_cell hblk rfl
  have c3 : w.cell? ⟨cb, 3, none⟩ = some (.int .i64 N) := blk_cell hblk rfl
  have c4 : w.cell? ⟨cb, 4, none⟩ = some (.int .i64 gd) := blk_cell hblk rfl
  have HF := hide (fit_ok cb v base K size ps kind K M N gd w h hs1 hs2 hK (by omega) hpl (by have := hd.row; rw [hpl] at this; exact this) hcb c0 c1 c2 c3 c4 hR1 hR2)
  have HP := hide (fun (wx : World) (hx : Below w.heap.size w wx) => parityOf_ok cb kind K M N gd lev scr blk cac size v base ps X wx h hcac hc4 hbk hbk' hs1 hs2 (hc.below hx) (hd.below hx) hpl hne)
  clear hblk hc hd hne hpl h
  generalize Sh.par kind K M N gd size X = PX at *
  go_enter Try.func9, Try.ntmps9
  go_wp2_with (first | (go_at_call 13; refine HF.out.mono ?_; rintro e w1 ⟨rfl, hb1⟩) | (go_at_call 14; refine (HP.out _ hb1).mono ?_; rintro e w2 ⟨v2, qs, rfl, hql, hown, hcs, hgr⟩))
  go_ret2
  exact ⟨v2, qs, rfl, hql, hown.mono hb1.size, hcs, grown_trans (grown_of hb1 _) hgr⟩

end Go.Proofs.Ytgmbooaggddkiab
