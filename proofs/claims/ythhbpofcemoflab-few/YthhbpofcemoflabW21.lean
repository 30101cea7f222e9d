import Derived.Test.YthhbpofcemoflabW20
import Derived.Test.YthhbpofcemoflabGb
namespace Go.Proofs.Ythhbpofcemoflab
open Go.RowKit
set_option maxRecDepth 20000

/-- the coder as it stands: fresh, or with the plain program kept -/
def Sh.CS (w : World) (cb : Nat) (kind : Int) (K M : Nat) (N gd lev scr blk cac : Int) : Prop :=
  (w.heap[cb]? = some (.cells (Sh.coder kind K M N gd lev scr blk cac 0 0 0 0 (.slice none 0 0) 0) 54 (0, 0))) ∨
  ∃ go co : Nat, w.heap[cb]? = some (.cells (Sh.coder kind K M N gd lev scr blk cac 0 ((K * Sh.R kind N : Nat) : Int) ((M * Sh.R kind N : Nat) : Int) (Sh.prz kind K M N gd lev scr : Int) (.slice (some ⟨go, 0, none⟩) (Sh.prog kind K M N gd lev scr).length co) 1) 54 (0, 0)) ∧
    w.ownsRow 0 98 3 (.slice (some ⟨go, 0, none⟩) (Sh.prog kind K M N gd lev scr).length co) (Sh.prog kind K M N gd lev scr).length (Sh.opCells (Sh.prog kind K M N gd lev scr))
theorem Sh.CS.blk {w : World} {cb : Nat} {kind : Int} {K M : Nat} {N gd lev scr blk cac : Int} (h : Sh.CS w cb kind K M N gd lev scr blk cac) : ∃ p0 g0 o0 z0 v0 cnt, w.heap[cb]? = some (.cells (Sh.coder kind K M N gd lev scr blk cac p0 g0 o0 z0 v0 cnt) 54 (0, 0)) := by
  rcases h with h | ⟨go, co, h, _⟩
  · exact ⟨_, _, _, _, _, _, h⟩
  · exact ⟨_, _, _, _, _, _, h⟩
theorem Sh.CS.below {w w' : World} {cb : Nat} {kind : Int} {K M : Nat} {N gd lev scr blk cac : Int} (h : Sh.CS w cb kind K M N gd lev scr blk cac) (hb : Below w.heap.size w w') : Sh.CS w' cb kind K M N gd lev scr blk cac := by
  rcases h with h | ⟨go, co, h, ho⟩
  · exact Or.inl ((hb.block cb (blk_lt h)).trans h)
  · exact Or.inr ⟨go, co, (hb.block cb (blk_lt h)).trans h, own_below ho hb⟩

theorem want_any (cb : Nat) (kind : Int) (K M : Nat) (N gd lev scr blk cac : Int) (w : World) (h : Sh.Ok kind K M N gd) (hcac : 0 ≤ cac) (hc4 : cac ≤ 4) (hc : Sh.CS w cb kind K M N gd lev scr blk cac) :
    Calls Try.prog 43 #[.pointer (some ⟨cb, 0, none⟩), .int .i64 0] w fun e w' => ∃ go co : Nat, e = .returned (.agg #[.int .i64 ((K * Sh.R kind N : Nat) : Int), .int .i64 ((M * Sh.R kind N : Nat) : Int), .int .i64 (Sh.prz kind K M N gd lev scr : Int), .slice (some ⟨go, 0, none⟩) (Sh.prog kind K M N gd lev scr).length co]) ∧
      w'.ownsRow 0 98 3 (.slice (some ⟨go, 0, none⟩) (Sh.prog kind K M N gd lev scr).length co) (Sh.prog kind K M N gd lev scr).length (Sh.opCells (Sh.prog kind K M N gd lev scr)) ∧ Sh.CS w' cb kind K M N gd lev scr blk cac ∧ w.grownBy w' (some cb) := by
  rcases hc with hc | ⟨go, co, hc, ho⟩
  · by_cases hc0 : cac = 0
    · have hpp : 1 ≤ (Sh.prog kind K M N gd lev scr).length := (Sh.prog_good h lev scr).pos
      refine (want_none cb 0 kind K M N gd lev scr blk cac _ _ _ (Sh.prog kind K M N gd lev scr) w (by omega) hpp hc (fun wx hx hbx => programOf_ok cb kind K M N gd lev scr wx h hx (blk_cell (hbx.trans hc) rfl) (blk_cell (hbx.trans hc) rfl) (blk_cell (hbx.trans hc) rfl) (blk_cell (hbx.trans hc) rfl) (blk_cell (hbx.trans hc) rfl) (blk_cell (hbx.trans hc) rfl) (blk_cell (hbx.trans hc) rfl))).mono ?_
      rintro e w' ⟨vo, rfl, h1, h2⟩
      obtain ⟨g, c, rfl, _, _⟩ := own_form3 h1 hpp
      exact ⟨g, c, rfl, own_mono h1 (Nat.zero_le _), Or.inl ((h2.block cb (blk_lt hc)).trans hc), grown_of h2 _⟩
    have hcac1 : 1 ≤ cac := by omega
    refine (want_new cb kind K M N gd lev scr blk cac w h hcac1 hc4 hc).mono ?_
    rintro e w' ⟨vo, rfl, h1, h2, h3⟩
    have hpp : 1 ≤ (Sh.prog kind K M N gd lev scr).length := (Sh.prog_good h lev scr).pos
    obtain ⟨g, c, rfl, _, _⟩ := own_form3 h1 hpp
    exact ⟨g, c, rfl, own_mono h1 (Nat.zero_le _), Or.inr ⟨g, c, h2, own_mono h1 (Nat.zero_le _)⟩, h3⟩
  · refine (want_kept cb kind K M N gd lev scr blk cac _ _ _ go _ co w hc).mono ?_
    rintro e w' ⟨rfl, h1⟩
    exact ⟨go, co, rfl, own_below ho h1, Or.inr ⟨go, co, (h1.block cb (blk_lt hc)).trans hc, own_below ho h1⟩, grown_of h1 _⟩

/-- registers that come out of a plain program of n shards of data for m shards -/
def Sh.regsG (R n m size : Nat) (sums : List Int) (X : List (List Int)) : List (List Int) := (List.range (m * R)).map (Sh.regAt (Sh.plain (n * R) sums) (Sh.rowsD R size X) (n * R) size size size 0)
def Sh.parG (R n m size : Nat) (sums : List Int) (X : List (List Int)) : List (List Int) := (List.range m).map fun k => Sh.shB (Sh.regsG R n m size sums X) R k R
def Sh.regs (kind : Int) (K M : Nat) (N gd : Int) (size : Nat) (X : List (List Int)) : List (List Int) := (List.range (M * Sh.R kind N)).map (Sh.regAt (Sh.plain (K * Sh.R kind N) (Sh.parity kind K M N gd)) (Sh.rowsD (Sh.R kind N) size X) (K * Sh.R kind N) size size size 0)
/-- the shards of parity -/
def Sh.par (kind : Int) (K M : Nat) (N gd : Int) (size : Nat) (X : List (List Int)) : List (List Int) := (List.range M).map fun k => Sh.shB (Sh.regs kind K M N gd size X) (Sh.R kind N) k (Sh.R kind N)

theorem Sh.parG_par (kind : Int) (K M : Nat) (N gd : Int) (size : Nat) (X : List (List Int)) : Sh.parG (Sh.R kind N) K M size (Sh.parity kind K M N gd) X = Sh.par kind K M N gd size X := rfl

set_option maxHeartbeats 2000000 in
theorem run_ok (cb : Nat) (kind : Int) (K M : Nat) (N gd : Int) (blk n m size : Nat) (S : List Nat) (Bz : Nat) (pr : List (Int × Int × Int)) (v : Value) (base bo go co : Nat) (ps : List (Nat × Nat × Nat)) (X : List (List Int)) (w : World) (h : Sh.Ok kind K M N gd) (hbk : 1 ≤ blk) (hbk' : blk ≤ 64)
    (hn1 : 1 ≤ n) (hn2 : n ≤ 20) (hnR : n * Sh.R kind N ≤ 48) (hm1 : 1 ≤ m) (hm2 : m ≤ 10) (hmR : m * Sh.R kind N ≤ 40) (hgd : Sh.Good (n * Sh.R kind N) S Bz pr) (hsl : S.length = m * Sh.R kind N) (hSt : ∀ s ∈ S, s < 2 ^ (n * Sh.R kind N)) (hX : Sh.Bytes X)
    (hs1 : 1 ≤ size) (hs2 : size ≤ 48) (hcb : cb < w.heap.size)
    (c0 : w.cell? ⟨cb, 0, none⟩ = some (.int .i64 kind)) (c1 : w.cell? ⟨cb, 1, none⟩ = some (.int .i64 K)) (c2 : w.cell? ⟨cb, 2, none⟩ = some (.int .i64 M)) (c3 : w.cell? ⟨cb, 3, none⟩ = some (.int .i64 N)) (c4 : w.cell? ⟨cb, 4, none⟩ = some (.int .i64 gd)) (c7 : w.cell? ⟨cb, 7, none⟩ = some (.int .i64 blk))
    (ho : w.ownsRow bo 98 3 (.slice (some ⟨go, 0, none⟩) pr.length co) pr.length (Sh.opCells pr))
    (hd : Sh.Dat w base 33 v (Sh.R kind N * size) ps X) (hpl : ps.length = n) :
    Calls Try.prog 44 #[.pointer (some ⟨cb, 0, none⟩), .agg #[.int .i64 ((n * Sh.R kind N : Nat) : Int), .int .i64 ((m * Sh.R kind N : Nat) : Int), .int .i64 (Bz : Int), .slice (some ⟨go, 0, none⟩) pr.length co], v] w fun e w' => ∃ (v' : Value) (qs : List (Nat × Nat × Nat)), e = .returned v' ∧ qs.length = m ∧
      Sh.Own w' w.heap.size 33 5 v' (Sh.R kind N * size) qs (Sh.parG (Sh.R kind N) n m size (S.map Int.ofNat) X) ∧ Below w.heap.size w w' := by
  obtain ⟨hK, hM, h10, hR1, hR2, hKR, hMR, hPL⟩ := h.bounds
  have HRw := hide (fun w => rows_ok kind K M N gd w h)
  have HD := hide hd
  have HO := hide ho
  have HPL := hide hpl
  have HSL := hide hsl
  have HGd := hide hgd
  have HSt := hide hSt
  have HX := hide hX
  clear hd hpl ho hsl hPL hKR hMR h10 hK hM h hgd hSt hX
  generalize hR : Sh.R kind N = R at *
  clear hR
  go_enter Try.func44, Try.ntmps44
  go_wp2_with fail
  refine (HRw.out _).mono ?_
  rintro e w2 ⟨rfl, hb2⟩
  have hs2w := hb2.size
  simp only [World.size_alloc] at hs2w
  have hb0 : Below w.heap.size w w2 := ((Below.refl _ _).alloc (Nat.le_refl _) _).trans (hb2.mono (by simp))
  have HD2 := hide (HD.out.below hb0)
  have HO2 := hide (own_below HO.out hb0)
  have f7 := keepc hb0 hcb 7 c7
  have hpb := (hb2.block w.heap.size (by simp)).trans (heap_alloc_new w _)
  have Hpb := hide hpb
  clear hpb c0 c1 c2 c3 c4 c7
  have HRO := hide (fun (wx : World) (hbx : Below w2.heap.size w2 wx) => rowsOf_any v base n R size ps wx hn1 hn2 hR1 (by omega) hs1 hs2 HPL.out (fun p hp => HD2.out.caps p hp) (by have := (HD2.out.below hbx).row; rw [HPL.out] at this; exact this))
  go_wp2_with fail
  refine (HRO.out _ (Below.refl _ _)).mono ?_
  rintro e w4 ⟨v4, rfl, hown4, hb4⟩
  have hnR1 : 1 ≤ n * R := Nat.mul_pos hn1 hR1
  obtain ⟨g4, cap4, hv4, hgb4, hg4, hcap4, hcells4⟩ := own_form hown4 hnR1
  rw [hv4]
  rw [hv4] at hown4
  have hcl : (Sh.cutAll size R ps).length = n * R := by rw [Sh.cutAll_len, HPL.out]
  obtain ⟨pc, hpc⟩ : ∃ p, (Sh.cutAll size R ps)[0]? = some p := ⟨_, List.getElem?_eq_getElem (by rw [hcl]; omega)⟩
  have k0 : w4.cell? ⟨g4, 0, none⟩ = some (.slice (some ⟨pc.1, pc.2.1, none⟩) size pc.2.2) := hcells4 0 _ (Sh.sv_get hpc)
  have hpb := (hb4.block w.heap.size (by omega)).trans Hpb.out
  have r0 : w4.cell? ⟨w.heap.size, 0, none⟩ = some (.int .i64 ((n * R : Nat) : Int)) := blk_cell hpb rfl
  have r1 : w4.cell? ⟨w.heap.size, 1, none⟩ = some (.int .i64 ((m * R : Nat) : Int)) := blk_cell hpb rfl
  have r2 : w4.cell? ⟨w.heap.size, 2, none⟩ = some (.int .i64 (Bz : Int)) := blk_cell hpb rfl
  have r3 : w4.cell? ⟨w.heap.size, 3, none⟩ = some (.slice (some ⟨go, 0, none⟩) pr.length co) := blk_cell hpb rfl
  have f7' : w4.cell? ⟨cb, 7, none⟩ = some (.int .i64 blk) := keepc hb4 (by omega) 7 f7
  have hs4 := hb4.size
  have HOwn4 := hide hown4
  clear hcells4 hown4 hv4 hpb f7
  have hmR1 : 1 ≤ m * R := Nat.mul_pos hm1 hR1
  have hpp : 1 ≤ pr.length := HGd.out.pos
  have hpn : pr.length ≤ 2048 := HGd.out.len
  have hXl : ∀ (j : Nat) (x : List Int), X[j]? = some x → x.length = R * size := fun j x hx => by
    obtain ⟨p, hp⟩ : ∃ p, ps[j]? = some p := ⟨_, List.getElem?_eq_getElem (by rw [← HD.out.lens]; exact (List.getElem?_eq_some_iff.1 hx).1)⟩
    exact (HD.out.each j p x hp hx).1
  have HRun := hide (fun (wx : World) (hx : Below w4.heap.size w4 wx) => (by
    have hb2x := hb4.trans (hx.mono hb4.size)
    have hDl : (Sh.rowsD R size X).length = n * R := by rw [Sh.rowsD_len, HD.out.lens, HPL.out]
    have := run_any (n * R) (m * R) Bz size blk (.slice (some ⟨go, 0, none⟩) pr.length co) (.slice (some ⟨g4, 0, none⟩) (n * R) cap4) _ _ pr (Sh.cutAll size R ps) (Sh.rowsD R size X) wx hnR1 hnR hmR1 hmR HGd.out.hB hs1 hs2 hbk hbk'
      (by have := HGd.out.ok; rw [HSL.out] at this; exact this) hpp hpn (own_below HO2.out hb2x) (own_below HOwn4.out hx) hcl hDl
      (Sh.cut_lt (HD2.out.below hb2x)) (Sh.rowsD_each hXl) (Sh.Dat.rows (HD2.out.below hb2x))
    refine this.mono ?_
    rintro e w' ⟨v, bs, he, k1, k2, k3, k4, k5⟩
    refine ⟨v, bs, he, k1, k2, k3, fun j b hb => ?_, k5⟩
    have hj : j < S.length := by rw [HSL.out, ← k2]; exact (List.getElem?_eq_some_iff.1 hb).1
    rw [← HGd.out.regs (by omega) HSt.out hDl (Sh.rowsD_bytes HX.out) hj]
    exact k4 j b hb : Calls Try.prog 53 #[.agg #[.int .i64 ((n * R : Nat) : Int), .int .i64 ((m * R : Nat) : Int), .int .i64 (Bz : Int), .slice (some ⟨go, 0, none⟩) pr.length co], .slice (some ⟨g4, 0, none⟩) (n * R) cap4, .int .i64 size, .int .i64 blk] wx
      fun e w' => ∃ (v : Value) (bs : List Nat), e = .returned v ∧ w'.ownsRow wx.heap.size 33 1 v (m * R) (bs.map fun b => Value.slice (some ⟨b, 0, none⟩) size size) ∧ bs.length = m * R ∧ bs.Nodup ∧
        (∀ (j b : Nat), bs[j]? = some b → wx.heap.size ≤ b ∧ w'.heap[b]? = some (.cells ((Sh.regAt (Sh.plain (n * R) (S.map Int.ofNat)) (Sh.rowsD R size X) (n * R) size size size 0 j).map (Value.int .u8)).toArray 5 (0, 0))) ∧ Below wx.heap.size wx w'))
  have HSO := hide (fun (v : Value) (base : Nat) (bs : List Nat) (wx : World) (h1 : bs.length = m * R) (h2 : wx.ownsRow base 33 1 v (m * R) (bs.map fun b => Value.slice (some ⟨b, 0, none⟩) size size))
      (h3 : ∀ (j b : Nat), bs[j]? = some b → wx.heap[b]? = some (.cells ((Sh.regAt (Sh.plain (n * R) (S.map Int.ofNat)) (Sh.rowsD R size X) (n * R) size size size 0 j).map (Value.int .u8)).toArray 5 (0, 0))) =>
    shardsOf_any v base m R size bs (Sh.regsG R n m size (S.map Int.ofNat) X) wx hm1 hm2 hR1 (by omega) hs1 hs2 h1 (by simp [Sh.regsG]) (by
      intro j x hx
      simp only [Sh.regsG, List.getElem?_map, Option.map_eq_some_iff] at hx
      obtain ⟨q, _, rfl⟩ := hx
      exact Sh.regAt_len _ _ _ _ _ _ _ _) h2 (by
      intro j b x hb hx
      have hj : j < m * R := by rw [← h1]; exact (List.getElem?_eq_some_iff.1 hb).1
      simp only [Sh.regsG, List.getElem?_map, List.getElem?_range hj, Option.map_some, Option.some.injEq] at hx
      subst hx
      exact h3 j b hb))
  have HPar := hide (rfl : (List.range m).map (fun k => Sh.shB (Sh.regsG R n m size (S.map Int.ofNat) X) R k R) = Sh.parG R n m size (S.map Int.ofNat) X)
  rw [HPar.out] at HSO
  generalize Sh.parG R n m size (S.map Int.ofNat) X = PX at *
  clear HPar hpc hXl
  generalize hGn : n * R = Gn at *
  generalize hOn : m * R = On at *
  have HGn := hide hGn
  have HOn := hide hOn
  clear hGn hOn
  go_wp2
  go_region_with ((go_at_call 53; refine (HRun.out _ (by first | exact Below.refl _ _ | exact (Below.refl _ _).drew)).mono ?_; rintro e w5 ⟨v5, bs, rfl, hown5, hbl5, hnd5, hbs5, hb5⟩))
  all_goals
    have hs5 := hb5.size
    go_wp2_with (go_at_call 59; refine (HSO.out _ _ _ _ hbl5 hown5 (fun j b hb => (hbs5 j b hb).2)).mono ?_; rintro e w6 ⟨v6, qs, rfl, hql, hown6, hb6⟩)
    go_ret
    have hb4x : Below w4.heap.size w4 w5 := by first | exact hb5 | exact ((Below.refl _ _).drew).trans hb5
    have hb46 := hb4x.trans (hb6.mono hb4x.size)
    have hs46 := hb4x.size
    exact ⟨_, qs, rfl, hql, hown6.mono (by omega), (hb0.trans (hb4.mono (by omega))).trans (hb46.mono (by omega))⟩

set_option maxHeartbeats 1000000 in
theorem made_ok (cb : Nat) (kind : Int) (K M : Nat) (N gd lev scr : Int) (blk : Nat) (cac : Int) (size : Nat) (v : Value) (base : Nat) (ps : List (Nat × Nat × Nat)) (X : List (List Int)) (w : World) (h : Sh.Ok kind K M N gd) (hcac : 0 ≤ cac) (hc4 : cac ≤ 4) (hbk : 1 ≤ blk) (hbk' : blk ≤ 64)
    (hs1 : 1 ≤ size) (hs2 : size ≤ 48) (hc : Sh.CS w cb kind K M N gd lev scr blk cac) (hd : Sh.Dat w base 33 v (Sh.R kind N * size) ps X) (hpl : ps.length = K) (hne : ∀ p ∈ ps, p.1 ≠ cb) (hX : Sh.Bytes X) :
    Calls Try.prog 25 #[.pointer (some ⟨cb, 0, none⟩), .int .i64 0, v] w fun e w' => ∃ (v' : Value) (qs : List (Nat × Nat × Nat)), e = .returned v' ∧ qs.length = M ∧
      Sh.Own w' w.heap.size 33 5 v' (Sh.R kind N * size) qs (Sh.par kind K M N gd size X) ∧ Sh.CS w' cb kind K M N gd lev scr blk cac ∧ w.grownBy w' (some cb) := by
  obtain ⟨hK, hM, h10, hR1, hR2, hKR, hMR, hPL⟩ := h.bounds
  have HW := hide (fun wx hx => want_any cb kind K M N gd lev scr blk cac wx h hcac hc4 hx)
  obtain ⟨p0, g0, o0, z0, v0, cnt, hblk⟩ := hc.blk
  have HRun := hide (fun (go co : Nat) (wx : World) (hd : Sh.Dat wx base 33 v (Sh.R kind N * size) ps X) (hc : Sh.CS wx cb kind K M N gd lev scr blk cac) (ho : wx.ownsRow 0 98 3 (.slice (some ⟨go, 0, none⟩) (Sh.prog kind K M N gd lev scr).length co) (Sh.prog kind K M N gd lev scr).length (Sh.opCells (Sh.prog kind K M N gd lev scr))) => (by
    obtain ⟨e0, e1, e2, e3, e4, e5, hb⟩ := hc.blk
    have := run_ok cb kind K M N gd blk K M size (Sh.pn kind K M N gd) (Sh.prz kind K M N gd lev scr) (Sh.prog kind K M N gd lev scr) v base 0 go co ps X wx h hbk hbk' hK (by omega) hKR hM (by omega) hMR (Sh.prog_good h lev scr) (Sh.pn_len h) (Sh.pn_lt h) hX hs1 hs2 (blk_lt hb) (blk_cell hb rfl) (blk_cell hb rfl) (blk_cell hb rfl) (blk_cell hb rfl) (blk_cell hb rfl) (blk_cell hb rfl) ho hd hpl
    rw [Sh.pn_int h, Sh.parG_par] at this
    exact this : Calls Try.prog 44 #[.pointer (some ⟨cb, 0, none⟩), .agg #[.int .i64 ((K * Sh.R kind N : Nat) : Int), .int .i64 ((M * Sh.R kind N : Nat) : Int), .int .i64 (Sh.prz kind K M N gd lev scr : Int), .slice (some ⟨go, 0, none⟩) (Sh.prog kind K M N gd lev scr).length co], v] wx fun e w' => ∃ (v' : Value) (qs : List (Nat × Nat × Nat)), e = .returned v' ∧ qs.length = M ∧
      Sh.Own w' wx.heap.size 33 5 v' (Sh.R kind N * size) qs (Sh.par kind K M N gd size X) ∧ Below wx.heap.size wx w'))
  have Hblk := hide hblk
  have HC := hide hc
  have HD := hide hd
  have HNE := hide hne
  clear hblk hc hd hne hpl h hX
  generalize Sh.par kind K M N gd size X = PX at *
  generalize Sh.prog kind K M N gd lev scr = pr at *
  generalize (Sh.prz kind K M N gd lev scr : Int) = pz at *
  generalize hGn : K * Sh.R kind N = Gn at *
  generalize hOn : M * Sh.R kind N = On at *
  go_enter Try.func25, Try.ntmps25
  go_wp2_with fail
  refine (HW.out _ HC.out).mono ?_
  rintro e w2 ⟨go, co, rfl, ho2, hc2, hg2⟩
  have HD2 := hide (HD.out.grown hg2 Hblk.out (by decide) HNE.out)
  have HR2 := hide (fun (wx : World) (hx : Below w2.heap.size w2 wx) => HRun.out go co wx (HD2.out.below hx) (hc2.below hx) (own_below ho2 hx))
  have HC2 := hide hc2
  have HG2 := hide hg2
  clear ho2 hc2 hg2
  go_wp2_with fail
  refine (HR2.out _ (by first | exact Below.refl _ _ | exact (Below.refl _ _).alloc (Nat.le_refl _) _)).mono ?_
  rintro e w3 ⟨v3, qs, rfl, hql, hown, hb3⟩
  go_wp2
  go_ret
  have hb23 : Below w2.heap.size w2 w3 := by first | exact hb3 | exact ((Below.refl _ _).alloc (Nat.le_refl _) _).trans (hb3.mono (by simp))
  exact ⟨v3, qs, rfl, hql, hown.mono (by have := HG2.out.size; simp; omega), HC2.out.below hb23, grown_below HG2.out hb23⟩

set_option maxHeartbeats 1000000 in
theorem encode_ok (cb : Nat) (kind : Int) (K M : Nat) (N gd lev scr : Int) (blk : Nat) (cac : Int) (size : Nat) (v : Value) (base : Nat) (ps : List (Nat × Nat × Nat)) (X : List (List Int)) (w : World) (h : Sh.Ok kind K M N gd) (hcac : 0 ≤ cac) (hc4 : cac ≤ 4) (hbk : 1 ≤ blk) (hbk' : blk ≤ 64)
    (hs1 : 1 ≤ size) (hs2 : size ≤ 48) (hc : Sh.CS w cb kind K M N gd lev scr blk cac) (hd : Sh.Dat w base 33 v (Sh.R kind N * size) ps X) (hpl : ps.length = K) (hne : ∀ p ∈ ps, p.1 ≠ cb) (hX : Sh.Bytes X) :
    Calls Try.prog 14 #[.pointer (some ⟨cb, 0, none⟩), v] w fun e w' => ∃ (v' : Value) (qs : List (Nat × Nat × Nat)), e = .returned (.tuple #[v', .int .i64 0]) ∧ qs.length = M ∧
      Sh.Own w' w.heap.size 33 5 v' (Sh.R kind N * size) qs (Sh.par kind K M N gd size X) ∧ Sh.CS w' cb kind K M N gd lev scr blk cac ∧ w.grownBy w' (some cb) := by
  obtain ⟨hK, hM, h10, hR1, hR2, hKR, hMR, hPL⟩ := h.bounds
  obtain ⟨p0, g0, o0, z0, v0, cnt, hblk⟩ := hc.blk
  have hcb := blk_lt hblk
  have c0 : w.cell? ⟨cb, 0, none⟩ = some (.int .i64 kind) := blk_cell hblk rfl
  have c1 : w.cell? ⟨cb, 1, none⟩ = some (.int .i64 K) := blk_cell hblk rfl
  have c2 : w.cell? ⟨cb, 2, none⟩ = some (.int .i64 M) := blk_cell hblk rfl
  have c3 : w.cell? ⟨cb, 3, none⟩ = some (.int .i64 N) := blk_cell hblk rfl
  have c4 : w.cell? ⟨cb, 4, none⟩ = some (.int .i64 gd) := blk_cell hblk rfl
  have HF := hide (fit_ok cb v base K size ps kind K M N gd w h hs1 hs2 hK (by omega) hpl (by have := hd.row; rw [hpl] at this; exact this) hcb c0 c1 c2 c3 c4 hR1 hR2)
  have HP := hide (fun (wx : World) (hx : Below w.heap.size w wx) => made_ok cb kind K M N gd lev scr blk cac size v base ps X wx h hcac hc4 hbk hbk' hs1 hs2 (hc.below hx) (hd.below hx) hpl hne hX)
  clear hblk hc hd hne hpl h hX
  generalize Sh.par kind K M N gd size X = PX at *
  go_enter Try.func14, Try.ntmps14
  go_wp2_with (first | (go_at_call 24; refine HF.out.mono ?_; rintro e w1 ⟨rfl, hb1⟩) | (go_at_call 25; refine (HP.out _ hb1).mono ?_; rintro e w2 ⟨v2, qs, rfl, hql, hown, hcs, hgr⟩))
  go_ret2
  exact ⟨v2, qs, rfl, hql, hown.mono hb1.size, hcs, grown_trans (grown_of hb1 _) hgr⟩

end Go.Proofs.Ythhbpofcemoflab
