import Derived.Test.YthhbpofcemoflabGo
namespace Go.Proofs.Ythhbpofcemoflab
open Go.RowKit
set_option maxRecDepth 20000
/-- the coder, of which only its code and block are known -/
def Sh.CC (w : World) (cb : Nat) (kind : Int) (K M : Nat) (N gd blk : Int) : Prop :=
  ∃ C : Array Value, w.heap[cb]? = some (.cells C 54 (0, 0)) ∧ C[0]? = some (.int .i64 kind) ∧ C[1]? = some (.int .i64 K) ∧ C[2]? = some (.int .i64 M) ∧ C[3]? = some (.int .i64 N) ∧ C[4]? = some (.int .i64 gd) ∧ C[7]? = some (.int .i64 blk)
theorem Sh.CC.below {w w' : World} {cb : Nat} {kind : Int} {K M : Nat} {N gd blk : Int} (h : Sh.CC w cb kind K M N gd blk) (hb : Below w.heap.size w w') : Sh.CC w' cb kind K M N gd blk := by
  obtain ⟨C, h1, h2⟩ := h
  exact ⟨C, (hb.block cb (blk_lt h1)).trans h1, h2⟩
set_option maxHeartbeats 1000000 in
theorem wantq_any (cb : Nat) (kind : Int) (K M : Nat) (N gd lev scr blk cac : Int) (q : Nat) (w : World) (h : Sh.Ok kind K M N gd) (hP : Sh.Pb kind K M N gd) (hq : q < 2 ^ 20) (hq0 : q ≠ 0) (hlo1 : 1 ≤ (Sh.lo q (K + M)).length) (hlo : (Sh.lo q (K + M)).length ≤ M) (hc4 : cac ≤ 4) (hc : Sh.CS w cb kind K M N gd lev scr blk cac) :
    Calls Try.prog 43 #[.pointer (some ⟨cb, 0, none⟩), .int .i64 q] w fun e w' => ∃ go co : Nat, e = .returned (.agg #[.int .i64 ((K * Sh.R kind N : Nat) : Int), .int .i64 (((Sh.lo q (K + M)).length * Sh.R kind N : Nat) : Int), .int .i64 (Sh.lprz kind K M N gd lev scr q : Int), .slice (some ⟨go, 0, none⟩) (Sh.lprog kind K M N gd lev scr q).length co]) ∧
      w'.ownsRow 0 98 3 (.slice (some ⟨go, 0, none⟩) (Sh.lprog kind K M N gd lev scr q).length co) (Sh.lprog kind K M N gd lev scr q).length (Sh.opCells (Sh.lprog kind K M N gd lev scr q)) ∧ Sh.CC w' cb kind K M N gd blk ∧ w.grownBy w' (some cb) := by
  obtain ⟨hK, hM, h10, hR1, hR2, hKR, hMR, hPL⟩ := h.bounds
  have hpp : 1 ≤ (Sh.lprog kind K M N gd lev scr q).length := (Sh.lprog_good h lev scr q hlo1 hlo).pos
  have hpo : ∀ (p0 g0 o0 z0 : Int) (v0 : Value) (cnt : Int), w.heap[cb]? = some (.cells (Sh.coder kind K M N gd lev scr blk cac p0 g0 o0 z0 v0 cnt) 54 (0, 0)) → ∀ (wx : World), cb < wx.heap.size → wx.heap[cb]? = w.heap[cb]? → _ := fun p0 g0 o0 z0 v0 cnt hb wx hx hbx => programOf_q cb kind K M N gd lev scr q wx h hP hq hq0 hlo1 hlo hx (blk_cell (hbx.trans hb) rfl) (blk_cell (hbx.trans hb) rfl) (blk_cell (hbx.trans hb) rfl) (blk_cell (hbx.trans hb) rfl) (blk_cell (hbx.trans hb) rfl) (blk_cell (hbx.trans hb) rfl) (blk_cell (hbx.trans hb) rfl)
  rcases hc with hc | ⟨go, co, hc, ho⟩
  · by_cases h1 : 1 ≤ cac
    · refine (want_add cb q kind K M N gd lev scr blk cac _ _ _ (Sh.lprog kind K M N gd lev scr q) w h1 hc4 hpp hc (hpo _ _ _ _ _ _ hc)).mono ?_
      rintro e w' ⟨vo, rfl, a1, a2, a3⟩
      obtain ⟨g, c, rfl, _, _⟩ := own_form3 a1 hpp
      exact ⟨g, c, rfl, own_mono a1 (Nat.zero_le _), ⟨_, a2, rfl, rfl, rfl, rfl, rfl, rfl⟩, a3⟩
    · refine (want_none cb q kind K M N gd lev scr blk cac _ _ _ (Sh.lprog kind K M N gd lev scr q) w (by omega) hpp hc (hpo _ _ _ _ _ _ hc)).mono ?_
      rintro e w' ⟨vo, rfl, a1, a2⟩
      obtain ⟨g, c, rfl, _, _⟩ := own_form3 a1 hpp
      exact ⟨g, c, rfl, own_mono a1 (Nat.zero_le _), ⟨_, (a2.block cb (blk_lt hc)).trans hc, rfl, rfl, rfl, rfl, rfl, rfl⟩, grown_of a2 _⟩
  · by_cases h2 : 2 ≤ cac
    · refine (want_more cb q (by omega) kind K M N gd lev scr blk cac _ _ _ _ _ _ _ (Sh.lprog kind K M N gd lev scr q) w h2 hc4 hpp hc (hpo _ _ _ _ _ _ hc)).mono ?_
      rintro e w' ⟨vo, rfl, a1, a2, a3⟩
      obtain ⟨g, c, rfl, _, _⟩ := own_form3 a1 hpp
      exact ⟨g, c, rfl, own_mono a1 (Nat.zero_le _), ⟨_, a2, by simp [Sh.coder], by simp [Sh.coder], by simp [Sh.coder], by simp [Sh.coder], by simp [Sh.coder], by simp [Sh.coder]⟩, a3⟩
    · refine (want_full cb q (by omega) kind K M N gd lev scr blk cac _ _ _ _ _ _ _ (Sh.lprog kind K M N gd lev scr q) w (by omega) hpp hc (hpo _ _ _ _ _ _ hc)).mono ?_
      rintro e w' ⟨vo, rfl, a1, a2⟩
      obtain ⟨g, c, rfl, _, _⟩ := own_form3 a1 hpp
      exact ⟨g, c, rfl, own_mono a1 (Nat.zero_le _), ⟨_, (a2.block cb (blk_lt hc)).trans hc, rfl, rfl, rfl, rfl, rfl, rfl⟩, grown_of a2 _⟩
set_option maxHeartbeats 1000000 in
theorem madeq_ok (cb : Nat) (kind : Int) (K M : Nat) (N gd lev scr : Int) (blk : Nat) (cac : Int) (q size : Nat) (v : Value) (base : Nat) (ps : List (Nat × Nat × Nat)) (X : List (List Int)) (w : World) (h : Sh.Ok kind K M N gd) (hP : Sh.Pb kind K M N gd) (hq : q < 2 ^ 20) (hq0 : q ≠ 0) (hlo1 : 1 ≤ (Sh.lo q (K + M)).length) (hlo : (Sh.lo q (K + M)).length ≤ M) (hc4 : cac ≤ 4) (hbk : 1 ≤ blk) (hbk' : blk ≤ 64)
    (hs1 : 1 ≤ size) (hs2 : size ≤ 48) (hc : Sh.CS w cb kind K M N gd lev scr blk cac) (hd : Sh.Dat w base 33 v (Sh.R kind N * size) ps X) (hpl : ps.length = K) (hne : ∀ p ∈ ps, p.1 ≠ cb) (hX : Sh.Bytes X) :
    Calls Try.prog 25 #[.pointer (some ⟨cb, 0, none⟩), .int .i64 q, v] w fun e w' => ∃ (v' : Value) (qs : List (Nat × Nat × Nat)), e = .returned v' ∧ qs.length = (Sh.lo q (K + M)).length ∧
      Sh.Own w' w.heap.size 33 5 v' (Sh.R kind N * size) qs (Sh.parG (Sh.R kind N) K (Sh.lo q (K + M)).length size (Sh.lsums kind K M N gd q) X) ∧ w.grownBy w' (some cb) := by
  obtain ⟨hK, hM, h10, hR1, hR2, hKR, hMR, hPL⟩ := h.bounds
  have HW := hide (wantq_any cb kind K M N gd lev scr blk cac q w h hP hq hq0 hlo1 hlo hc4 hc)
  obtain ⟨p0, g0, o0, z0, v0, cnt, hblk⟩ := hc.blk
  have HRun := hide (fun (go co : Nat) (wx : World) (hd : Sh.Dat wx base 33 v (Sh.R kind N * size) ps X) (hc : Sh.CC wx cb kind K M N gd blk) (ho : wx.ownsRow 0 98 3 (.slice (some ⟨go, 0, none⟩) (Sh.lprog kind K M N gd lev scr q).length co) (Sh.lprog kind K M N gd lev scr q).length (Sh.opCells (Sh.lprog kind K M N gd lev scr q))) => (by
    obtain ⟨C, hb, e0, e1, e2, e3, e4, e7⟩ := hc
    exact run_ok cb kind K M N gd blk K (Sh.lo q (K + M)).length size (Sh.lost kind K M N gd q) (Sh.lprz kind K M N gd lev scr q) (Sh.lprog kind K M N gd lev scr q) v base 0 go co ps X wx h hbk hbk' hK (by omega) hKR hlo1 (by omega) (Nat.le_trans (Nat.mul_le_mul_right _ hlo) hMR) (Sh.lprog_good h lev scr q hlo1 hlo) (Sh.lost_len kind K M N gd q) (Sh.lost_lt kind K M N gd q) hX hs1 hs2 (blk_lt hb) (blk_cell hb e0) (blk_cell hb e1) (blk_cell hb e2) (blk_cell hb e3) (blk_cell hb e4) (blk_cell hb e7) ho hd hpl : Calls Try.prog 44 #[.pointer (some ⟨cb, 0, none⟩), .agg #[.int .i64 ((K * Sh.R kind N : Nat) : Int), .int .i64 (((Sh.lo q (K + M)).length * Sh.R kind N : Nat) : Int), .int .i64 (Sh.lprz kind K M N gd lev scr q : Int), .slice (some ⟨go, 0, none⟩) (Sh.lprog kind K M N gd lev scr q).length co], v] wx fun e w' => ∃ (v' : Value) (qs : List (Nat × Nat × Nat)), e = .returned v' ∧ qs.length = (Sh.lo q (K + M)).length ∧
      Sh.Own w' wx.heap.size 33 5 v' (Sh.R kind N * size) qs (Sh.parG (Sh.R kind N) K (Sh.lo q (K + M)).length size (Sh.lsums kind K M N gd q) X) ∧ Below wx.heap.size wx w'))
  have Hblk := hide hblk
  have HD := hide hd
  have HNE := hide hne
  clear hblk hc hd hne hpl h hX
  generalize Sh.parG (Sh.R kind N) K (Sh.lo q (K + M)).length size (Sh.lsums kind K M N gd q) X = PX at *
  generalize Sh.lprog kind K M N gd lev scr q = pr at *
  generalize (Sh.lprz kind K M N gd lev scr q : Int) = pz at *
  generalize hGn : K * Sh.R kind N = Gn at *
  generalize hOn : (Sh.lo q (K + M)).length * Sh.R kind N = On at *
  generalize (Sh.lo q (K + M)).length = cc at *
  go_enter Try.func25, Try.ntmps25
  go_wp2_with fail
  refine HW.out.mono ?_
  rintro e w2 ⟨go, co, rfl, ho2, hc2, hg2⟩
  have HD2 := hide (HD.out.grown hg2 Hblk.out (by decide) HNE.out)
  have HR2 := hide (fun (wx : World) (hx : Below w2.heap.size w2 wx) => HRun.out go co wx (HD2.out.below hx) (hc2.below hx) (own_below ho2 hx))
  have HG2 := hide hg2
  clear ho2 hc2 hg2
  go_wp2_with fail
  refine (HR2.out _ (by first | exact Below.refl _ _ | exact (Below.refl _ _).alloc (Nat.le_refl _) _)).mono ?_
  rintro e w3 ⟨v3, qs, rfl, hql, hown, hb3⟩
  go_wp2
  go_ret
  have hb23 : Below w2.heap.size w2 w3 := by first | exact hb3 | exact ((Below.refl _ _).alloc (Nat.le_refl _) _).trans (hb3.mono (by simp))
  exact ⟨v3, qs, rfl, hql, hown.mono (by have := HG2.out.size; simp; omega), grown_below HG2.out hb23⟩
end Go.Proofs.Ythhbpofcemoflab
