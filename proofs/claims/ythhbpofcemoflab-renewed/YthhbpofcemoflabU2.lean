import Derived.Test.YthhbpofcemoflabU1
import Derived.Test.YthhbpofcemoflabT1
namespace Go.Proofs.Ythhbpofcemoflab
open Go.RowKit
set_option maxRecDepth 20000
/-- one shard that is read -/
structure Sh.One (w : World) (n : Nat) (p : Nat × Nat × Nat) (x : List Int) : Prop where
  caps : n ≤ p.2.2 ∧ p.2.2 ≤ maxLen
  lt : p.1 < w.heap.size
  len : x.length = n
  cells : ∀ (i : Nat) (b : Int), x[i]? = some b → w.cell? ⟨p.1, p.2.1 + i, none⟩ = some (.int .u8 b)
theorem Sh.One.below {w w' : World} {n : Nat} {p : Nat × Nat × Nat} {x : List Int} (h : Sh.One w n p x) (hb : Below w.heap.size w w') : Sh.One w' n p x :=
  ⟨h.caps, Nat.lt_of_lt_of_le h.lt hb.size, h.len, fun i b hi => (hb.cell (p := ⟨p.1, p.2.1 + i, none⟩) h.lt).trans (h.cells i b hi)⟩
theorem Sh.One.of {w : World} {base : Nat} {v : Value} {n : Nat} {ps : List (Nat × Nat × Nat)} {X : List (List Int)} (h : Sh.Dat w base 33 v n ps X) {j : Nat} {p : Nat × Nat × Nat} {x : List Int} (hp : ps[j]? = some p) (hx : X[j]? = some x) : Sh.One w n p x :=
  ⟨h.caps p (List.mem_of_getElem? hp), h.lt p (List.mem_of_getElem? hp), (h.each j p x hp hx).1, (h.each j p x hp hx).2⟩
/-- shards, one by one -/
theorem Sh.Dat.mk' {w : World} {base : Nat} {v : Value} {n : Nat} {ps : List (Nat × Nat × Nat)} {X : List (List Int)} (hrow : w.ownsRow base 33 1 v ps.length (Sh.sv n ps)) (hl : X.length = ps.length) (h : ∀ (j : Nat) (p : Nat × Nat × Nat) (x : List Int), ps[j]? = some p → X[j]? = some x → Sh.One w n p x) : Sh.Dat w base 33 v n ps X := by
  have key : ∀ p ∈ ps, ∃ x, Sh.One w n p x := by
    intro p hp
    obtain ⟨j, hj⟩ := List.getElem?_of_mem hp
    obtain ⟨x, hx⟩ : ∃ x, X[j]? = some x := ⟨_, List.getElem?_eq_getElem (by rw [hl]; exact (List.getElem?_eq_some_iff.1 hj).1)⟩
    exact ⟨x, h j p x hj hx⟩
  exact ⟨hrow, hl, fun p hp => (key p hp).elim fun x hx => hx.caps, fun p hp => (key p hp).elim fun x hx => hx.lt, fun j p x hp hx => ⟨(h j p x hp hx).len, (h j p x hp hx).cells⟩⟩

/-- the sums of Update, as numbers -/
def Sh.turnN (kind : Int) (K M : Nat) (N gd : Int) (j : Nat) : List Nat := (List.range (M * Sh.R kind N)).map fun i => Sh.tn ((Sh.parity kind K M N gd).getD i 0).toNat (j * Sh.R kind N) (M * Sh.R kind N) (Sh.R kind N) i
theorem Sh.turnN_int (kind : Int) (K M : Nat) (N gd : Int) (j : Nat) : (Sh.turnN kind K M N gd j).map Int.ofNat = Sh.turnS kind K M N gd j := by
  unfold Sh.turnN Sh.turnS
  rw [List.map_map]
  rfl
theorem Sh.turnN_nvl (kind : Int) (K M : Nat) (N gd : Int) (j : Nat) : (Sh.turnS kind K M N gd j).map (Value.int .u64) = (Sh.turnN kind K M N gd j).map fun (s : Nat) => Value.int .u64 (s : Int) := by
  rw [← Sh.turnN_int, List.map_map]
  rfl
theorem Sh.turnN_len (kind : Int) (K M : Nat) (N gd : Int) (j : Nat) : (Sh.turnN kind K M N gd j).length = M * Sh.R kind N := by simp [Sh.turnN]
theorem Sh.turnN_lt (kind : Int) (K M : Nat) (N gd : Int) (j : Nat) : ∀ s ∈ Sh.turnN kind K M N gd j, s < 2 ^ ((M + 2) * Sh.R kind N) := by
  intro s hs
  simp only [Sh.turnN, List.mem_map, List.mem_range] at hs
  obtain ⟨i, hi, rfl⟩ := hs
  exact Sh.tn_lt _ _ _ _ _ hi _ (by rw [Nat.add_mul]; omega)
set_option maxHeartbeats 2000000 in
theorem update_ok (cb : Nat) (kind : Int) (K M : Nat) (N gd lev scr : Int) (blk : Nat) (cac : Int) (size : Nat) (v : Value) (base : Nat) (ps : List (Nat × Nat × Nat)) (X : List (List Int)) (j : Nat) (po pn : Nat × Nat × Nat) (x y : List Int) (w : World) (h : Sh.Ok kind K M N gd) (hP : Sh.Pb kind K M N gd) (hj : j < K) (hbk : 1 ≤ blk) (hbk' : blk ≤ 64)
    (hs1 : 1 ≤ size) (hs2 : size ≤ 48) (hc : Sh.CS w cb kind K M N gd lev scr blk cac) (hd : Sh.Dat w base 33 v (Sh.R kind N * size) ps X) (hpl : ps.length = M) (ho : Sh.One w (Sh.R kind N * size) po x) (hn : Sh.One w (Sh.R kind N * size) pn y) (hX : Sh.Bytes (X ++ [x, y])) :
    Calls Try.prog 35 #[.pointer (some ⟨cb, 0, none⟩), v, .int .i64 j, .slice (some ⟨po.1, po.2.1, none⟩) (Sh.R kind N * size : Nat) po.2.2, .slice (some ⟨pn.1, pn.2.1, none⟩) (Sh.R kind N * size : Nat) pn.2.2] w fun e w' => ∃ (v' : Value) (qs : List (Nat × Nat × Nat)), e = .returned (.tuple #[v', .int .i64 0]) ∧ qs.length = M ∧
      Sh.Own w' w.heap.size 33 5 v' (Sh.R kind N * size) qs (Sh.parG (Sh.R kind N) (M + 2) M size (Sh.turnS kind K M N gd j) (X ++ [x, y])) ∧ Below w.heap.size w w' := by
  obtain ⟨hK, hM, h10, hR1, hR2, hKR, hMR, hPL⟩ := h.bounds
  obtain ⟨i0, hi, hz0, hz1, hz2⟩ := info_parts Try.infoSl
  obtain ⟨p0, g0, o0, z0, v0, cnt, hblk⟩ := hc.blk
  have hcb := blk_lt hblk
  have c0 : w.cell? ⟨cb, 0, none⟩ = some (.int .i64 kind) := blk_cell hblk rfl
  have c1 : w.cell? ⟨cb, 1, none⟩ = some (.int .i64 K) := blk_cell hblk rfl
  have c2 : w.cell? ⟨cb, 2, none⟩ = some (.int .i64 M) := blk_cell hblk rfl
  have c3 : w.cell? ⟨cb, 3, none⟩ = some (.int .i64 N) := blk_cell hblk rfl
  have c4 : w.cell? ⟨cb, 4, none⟩ = some (.int .i64 gd) := blk_cell hblk rfl
  have c7 : w.cell? ⟨cb, 7, none⟩ = some (.int .i64 blk) := blk_cell hblk rfl
  have hM2R : (M + 2) * Sh.R kind N ≤ 48 := by
    rcases h.tab with ⟨h0, d, hd, h'⟩ | ⟨h0, n1, hn, h'⟩
    · obtain ⟨_, _, h1, h4, hK, hM, h10, hp, _⟩ := h'
      rw [Sh.R, if_pos h0, hd, Int.toNat_natCast]
      have b : (M + 2) * d ≤ 11 * 4 := Nat.mul_le_mul (by omega) h4
      omega
    · obtain ⟨_, hK, h10, hN, hk⟩ := h'
      have hR : (N - 1).toNat = n1 := by omega
      rw [Sh.R, if_neg h0, hR]
      have b : (M + 2) * n1 ≤ 5 * 6 := Nat.mul_le_mul (by omega) (by omega)
      omega
  have hrow := hd.row
  rw [hpl] at hrow
  obtain ⟨gD, capD, hvD, _, hgD, hcD, hcellsD⟩ := own_form hrow hM
  subst hvD
  have hsvp : (Sh.sv (Sh.R kind N * size) ps).length = M * 1 := by rw [Sh.sv_len, hpl, Nat.mul_one]
  have Hp := hide hsvp
  have HcD := hide hcellsD
  have Hone := hide (fun (ps' : List (Nat × Nat × Nat)) => Sh.sv_one (Sh.R kind N * size) ps')
  have HT := hide (fun w => turned_ok kind K M N gd j w h hP hj)
  have HRw := hide (fun w => rows_ok kind K M N gd w h)
  have hTl : (Sh.turnS kind K M N gd j).length = M * Sh.R kind N := by simp [Sh.turnS]
  have hTn := Sh.turnN_len kind K M N gd j
  have hMR1 : 1 ≤ M * Sh.R kind N := Nat.mul_pos hM hR1
  have HPl := hide (fun (v : Value) (base : Nat) (w : World) (hv : w.ownsRow base 94 1 v (M * Sh.R kind N) ((Sh.turnS kind K M N gd j).map (Value.int .u64))) => (by
    rw [Sh.turnN_nvl] at hv
    have := plainN_ok ((M + 2) * Sh.R kind N) v base (Sh.turnN kind K M N gd j) w hM2R (by rw [hTn]; exact hMR1) (by rw [hTn]; exact hMR) (fun s hs => Nat.lt_of_lt_of_le (Sh.turnN_lt kind K M N gd j s hs) (Nat.pow_le_pow_right (by decide) (by omega))) (by rw [hTn]; exact hv)
    rw [hTn] at this
    exact this : Calls Try.prog 50 #[.int .i64 (((M + 2) * Sh.R kind N : Nat) : Int), v] w fun e w' => ∃ vo, e = .returned (.agg #[.int .i64 (((M + 2) * Sh.R kind N : Nat) : Int), .int .i64 ((M * Sh.R kind N : Nat) : Int), .int .i64 0, vo]) ∧
      w'.ownsRow w.heap.size 98 3 vo (Sh.sumsO ((M + 2) * Sh.R kind N) (M * Sh.R kind N) (Sh.turnN kind K M N gd j) (M * Sh.R kind N)).length (Sh.opCells (Sh.sumsO ((M + 2) * Sh.R kind N) (M * Sh.R kind N) (Sh.turnN kind K M N gd j) (M * Sh.R kind N))) ∧ Below w.heap.size w w'))
  have hgd := (Sh.plain_good (Nat.mul_pos (by omega : 0 < M + 2) hR1) hM2R (Sh.turnN_lt kind K M N gd j) (by rw [hTn]; exact hMR1) (by rw [hTn]; exact hMR)).1
  have hgd' := hgd
  rw [hTn] at hgd'
  have HPP := hide hgd'.pos
  have HFit := hide (fun (v : Value) (base : Nat) (wx : World) (hx : Below w.heap.size w wx) (hdx : Sh.Dat wx base 33 v (Sh.R kind N * size) (ps ++ [po, pn]) (X ++ [x, y])) => fit_ok cb v base (M + 2) size (ps ++ [po, pn]) kind K M N gd wx h hs1 hs2 (by omega) (by omega) (by simp [hpl]) (by have := hdx.row; rw [show (ps ++ [po, pn]).length = M + 2 by simp [hpl]] at this; exact this) (Nat.lt_of_lt_of_le hcb hx.size) (keepc hx hcb 0 c0) (keepc hx hcb 1 c1) (keepc hx hcb 2 c2) (keepc hx hcb 3 c3) (keepc hx hcb 4 c4) hR1 hR2)
  have HRun := hide (fun (v : Value) (base bo go co : Nat) (wx : World) (hx : Below w.heap.size w wx) (hdx : Sh.Dat wx base 33 v (Sh.R kind N * size) (ps ++ [po, pn]) (X ++ [x, y])) (hox : wx.ownsRow bo 98 3 (.slice (some ⟨go, 0, none⟩) (Sh.sumsO ((M + 2) * Sh.R kind N) (M * Sh.R kind N) (Sh.turnN kind K M N gd j) (M * Sh.R kind N)).length co) (Sh.sumsO ((M + 2) * Sh.R kind N) (M * Sh.R kind N) (Sh.turnN kind K M N gd j) (M * Sh.R kind N)).length (Sh.opCells (Sh.sumsO ((M + 2) * Sh.R kind N) (M * Sh.R kind N) (Sh.turnN kind K M N gd j) (M * Sh.R kind N)))) =>
    run_ok cb kind K M N gd blk (M + 2) M size (Sh.turnN kind K M N gd j) 0 _ v base bo go co (ps ++ [po, pn]) (X ++ [x, y]) wx h hbk hbk' (by omega) (by omega) hM2R hM (by omega) hMR hgd' hTn (Sh.turnN_lt kind K M N gd j) hX hs1 hs2 (Nat.lt_of_lt_of_le hcb hx.size) (keepc hx hcb 0 c0) (keepc hx hcb 1 c1) (keepc hx hcb 2 c2) (keepc hx hcb 3 c3) (keepc hx hcb 4 c4) (keepc hx hcb 7 c7) hox hdx (by simp [hpl]))
  rw [Sh.turnN_int] at HRun
  have HD := hide (fun (v : Value) (base : Nat) (wx : World) (hx : Below w.heap.size w wx) (hr : wx.ownsRow base 33 1 v (M + 2) (Sh.sv (Sh.R kind N * size) (ps ++ [po, pn]))) => (Sh.Dat.mk' (by rw [show (ps ++ [po, pn]).length = M + 2 by simp [hpl]]; exact hr) (by simp [hd.lens]) (by
    intro k p z hp hz
    rw [List.getElem?_append] at hp hz
    rw [hd.lens] at hz
    by_cases c : k < ps.length
    · rw [if_pos c] at hp hz
      exact (Sh.One.of hd hp hz).below hx
    · rw [if_neg c] at hp hz
      generalize k - ps.length = d at *
      match d with
      | 0 => simp at hp hz; subst hp; subst hz; exact ho.below hx
      | 1 => simp at hp hz; subst hp; subst hz; exact hn.below hx
      | d + 2 => simp at hp) : Sh.Dat wx base 33 v (Sh.R kind N * size) (ps ++ [po, pn]) (X ++ [x, y])))
  have Hsv := hide (show Sh.sv (Sh.R kind N * size) (ps ++ [po, pn]) = Sh.sv (Sh.R kind N * size) ps ++ [.slice (some ⟨po.1, po.2.1, none⟩) (Sh.R kind N * size) po.2.2, .slice (some ⟨pn.1, pn.2.1, none⟩) (Sh.R kind N * size) pn.2.2] by simp [Sh.sv])
  have Hnil := hide (fun (wx : World) => World.ownsRow_nil wx w.heap.size 33 1)
  clear h hP hc hd hrow hcellsD ho hn hblk hPL hTl hsvp hpl hX hgd hgd' hTn
  generalize Sh.parG (Sh.R kind N) (M + 2) M size (Sh.turnS kind K M N gd j) (X ++ [x, y]) = PX at *
  generalize Sh.sumsO ((M + 2) * Sh.R kind N) (M * Sh.R kind N) (Sh.turnN kind K M N gd j) (M * Sh.R kind N) = pr at *
  generalize hnn : Sh.R kind N * size = n at *
  generalize hR : Sh.R kind N = R at *
  clear hR hnn
  obtain ⟨p1, p2, p3⟩ := po
  obtain ⟨q1, q2, q3⟩ := pn
  have dj : decide ((j : Int) < 0) = false := by simp
  have dk : decide ((K : Int) ≤ (j : Int)) = false := by simp; omega
  go_enter Try.func35, Try.ntmps35
  have hem : (w.alloc (.cells #[] 33)).ownsRow w.heap.size 33 1 (.slice (some ⟨w.heap.size, 0, none⟩) 0 0) 0 [] := own_empty rfl (Nat.le_refl _)
  obtain ⟨G, hG⟩ : ∃ G, (M + 2) * R = G := ⟨_, rfl⟩
  have hGc : ((M : Int) + 2) * (R : Int) = (G : Int) := by rw [← hG, Int.natCast_mul]; rfl
  rw [hG] at HPl HRun hM2R
  clear hMR hMR1 hKR hG
  go_wp2_with (first
    | (at_builtin; refine appendX _ rfl (.tmp 33) (.tmp 34) 32 rfl w.heap.size 33 i0 (.slice none 0 0) 1 24 Try.underlying32 hi hz0 hz1 hz2 rfl (by decide) _ _ _ rfl hem ⟨gD, 0, none⟩ M capD (Sh.sv n ps) rfl Hp.out (fun j u hu => by rw [addr_add]; exact keepc ((Below.refl _ _).alloc (Nat.le_refl _) _) hgD j (HcD.out j u hu)) (Hone.out ps) hM (by unfold maxLen; omega) (by omega) (by simp) ?_; intro v2 w2 hown2 hb2 hg2 hf2; have hs2 := hg2.size; simp only [World.size_alloc] at hs2)
    | (at_builtin; refine appendX _ rfl (.tmp 36) (.tmp 39) 32 rfl w.heap.size 33 i0 (.slice none 0 0) 1 24 Try.underlying32 hi hz0 hz1 hz2 rfl (by decide) _ _ _ rfl (hown2.alloc _) ⟨w2.heap.size, 0, none⟩ 2 2 [.slice (some ⟨p1, p2, none⟩) n p3, .slice (some ⟨q1, q2, none⟩) n q3] rfl rfl (fun j u hu => by rw [addr_add]; exact blk_cell (heap_alloc_new w2 _) (by simpa using hu)) (by simp; exact ⟨rfl, rfl⟩) (by decide) (by unfold maxLen; omega) (by omega) (by simp; omega) ?_; intro v3 w3 hown3 hb3 hg3 hf3; have hs3 := hg3.size; simp only [World.size_alloc] at hs3; have hB3 : Below w.heap.size w w3 := ((((Below.refl w.heap.size w).alloc (Nat.le_refl _) _).trans hb2).alloc (by omega) _).trans hb3; have hrow3 : w3.ownsRow w.heap.size 33 1 v3 (M + 2) (Sh.sv n (ps ++ [(p1, p2, p3), (q1, q2, q3)])) := (by rw [Hsv.out]; simpa using hown3); have HD3 := hide (HD.out v3 _ w3 hB3 hrow3); obtain ⟨g3, cap3, hv3, _, hg3z, _, _⟩ := own_form hrow3 (by omega); subst hv3; have e2 := keepc hB3 hcb 2 c2; clear hown2 hown3 hrow3 hg2 hf2 hg3 hf3 hb2 hb3)
    | (go_at_call 24; refine (HFit.out _ _ _ hB3 HD3.out).mono ?_; rintro e w4 ⟨rfl, hb4⟩; have hs4 := hb4.size; have hB4 := hB3.trans (hb4.mono (by omega)); have e0 := keepc hB4 hcb 0 c0; have e1 := keepc hB4 hcb 1 c1; have e2' := keepc hB4 hcb 2 c2; have e3 := keepc hB4 hcb 3 c3; have e4 := keepc hB4 hcb 4 c4))
  refine (HT.out _).mono ?_
  rintro e w5 ⟨v5, rfl, hown5, hb5⟩
  have hs5 := hb5.size
  have hB5 := hB4.trans (hb5.mono (by omega))
  have f0 := keepc hB5 hcb 0 c0
  have f1 := keepc hB5 hcb 1 c1
  have f2 := keepc hB5 hcb 2 c2
  have f3 := keepc hB5 hcb 3 c3
  have f4 := keepc hB5 hcb 4 c4
  clear e0 e1 e2' e3 e4 e2
  go_wp2_with fail
  refine (HRw.out _).mono ?_
  rintro e w6 ⟨rfl, hb6⟩
  have hs6 := hb6.size
  have hB6 := hB5.trans (hb6.mono (by omega))
  clear f0 f1 f2 f3 f4
  go_wp2_with fail
  refine (HPl.out _ _ _ (own_below hown5 hb6)).mono ?_
  rintro e w7 ⟨v7, rfl, hown7, hb7⟩
  obtain ⟨g7, cap7, hv7, _, hg7⟩ := own_form3 hown7 HPP.out
  subst hv7
  have hs7 := hb7.size
  have hB7 := hB6.trans (hb7.mono (by omega))
  have h37 : Below w3.heap.size w3 w7 := ((hb4.trans (hb5.mono (by omega))).trans (hb6.mono (by omega))).trans (hb7.mono (by omega))
  go_wp2_with fail
  refine (HRun.out _ _ _ _ _ _ (hB7.alloc (by omega) _) ((HD3.out.below h37).below ((Below.refl _ _).alloc (Nat.le_refl _) _)) (hown7.alloc _)).mono ?_
  rintro e w8 ⟨v8, qs, rfl, hql, hown8, hb8⟩
  go_wp2
  go_ret2
  exact ⟨v8, qs, rfl, hql, hown8.mono (by simp; omega), (hB7.alloc (by omega) _).trans (hb8.mono (by simp; omega))⟩
end Go.Proofs.Ythhbpofcemoflab
