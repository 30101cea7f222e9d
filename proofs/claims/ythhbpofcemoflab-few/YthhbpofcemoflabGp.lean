import Derived.Test.YthhbpofcemoflabS7
import Derived.BigQuiet
namespace Go.Proofs.Ythhbpofcemoflab
open Go.RowKit
set_option maxRecDepth 20000
/-- one shard that is read -/
structure Sh.One (w : World) (n : Nat) (p : Nat × Nat × Nat) (x : List Int) : Prop where
  caps : n ≤ p.2.2 ∧ p.2.2 ≤ maxLen
  lt : p.1 < w.heap.size
  len : x.length = n
  cells : ∀ (i : Nat) (b : Int), x[i]? = some b → w.cell? ⟨p.1, p.2.1 + i, none⟩ = some (.int .u8 b)
theorem Sh.One.below {w w' : World} {n : Nat} {p : Nat × Nat × Nat} {x : List Int} (h : Sh.One w n p x) (hb : Below w.heap.size w w') : Sh.One w' n p x :=
  ⟨h.caps, Nat.lt_of_lt_of_le h.lt hb.size, h.len, fun i b hi => (hb.cell (p := ⟨p.1, p.2.1 + i, none⟩) h.lt).trans (h.cells i b hi)⟩
theorem Sh.One.of {w : World} {base : Nat} {v : Value} {n : Nat} {ps : List (Nat × Nat × Nat)} {X : List (List Int)} (h : Sh.Dat w base 33 v n ps X) {j : Nat} {p : Nat × Nat × Nat} {x : List Int} (hp : ps[j]? = some p) (hx : X[j]? = some x) : Sh.One w n p x :=
  ⟨h.caps p (List.mem_of_getElem? hp), h.lt p (List.mem_of_getElem? hp), (h.each j p x hp hx).1, (h.each j p x hp hx).2⟩
/-- shards, one by one -/
theorem Sh.Dat.mk' {w : World} {base : Nat} {v : Value} {n : Nat} {ps : List (Nat × Nat × Nat)} {X : List (List Int)} (hrow : w.ownsRow base 33 1 v ps.length (Sh.sv n ps)) (hl : X.length = ps.length) (h : ∀ (j : Nat) (p : Nat × Nat × Nat) (x : List Int), ps[j]? = some p → X[j]? = some x → Sh.One w n p x) : Sh.Dat w base 33 v n ps X := by
  have key : ∀ p ∈ ps, ∃ x, Sh.One w n p x := by
    intro p hp
    obtain ⟨j, hj⟩ := List.getElem?_of_mem hp
    obtain ⟨x, hx⟩ : ∃ x, X[j]? = some x := ⟨_, List.getElem?_eq_getElem (by rw [hl]; exact (List.getElem?_eq_some_iff.1 hj).1)⟩
    exact ⟨x, h j p x hj hx⟩
  exact ⟨hrow, hl, fun p hp => (key p hp).elim fun x hx => hx.caps, fun p hp => (key p hp).elim fun x hx => hx.lt, fun j p x hp hx => ⟨(h j p x hp hx).len, (h j p x hp hx).cells⟩⟩

theorem Sh.lf_bit {q K s : Nat} : ∀ i ∈ Sh.lf q K s, q.testBit i = false := by
  induction s with
  | zero => intro i h; cases h
  | succ s ih =>
    intro i h
    simp only [Sh.lf] at h
    split at h
    · next c =>
      rw [List.mem_append, List.mem_singleton] at h
      rcases h with h | h
      · exact ih i h
      · subst h; exact c.1
    · exact ih i h
/-- shards of which those that are lost may be anything -/
structure Sh.Brk (w : World) (base : Nat) (v : Value) (n q : Nat) (vs : List Value) (ps : List (Nat × Nat × Nat)) (X : List (List Int)) : Prop where
  row : w.ownsRow base 33 1 v vs.length vs
  lp : ps.length = vs.length
  lx : X.length = vs.length
  sl : ∀ u ∈ vs, ∃ a l c, u = Value.slice a l c
  each : ∀ (j : Nat) (p : Nat × Nat × Nat) (x : List Int), q.testBit j = false → ps[j]? = some p → X[j]? = some x → vs[j]? = some (.slice (some ⟨p.1, p.2.1, none⟩) n p.2.2) ∧ Sh.One w n p x
theorem Sh.Brk.below {w w' : World} {base : Nat} {v : Value} {n q : Nat} {vs : List Value} {ps : List (Nat × Nat × Nat)} {X : List (List Int)} (h : Sh.Brk w base v n q vs ps X) (hb : Below w.heap.size w w') : Sh.Brk w' base v n q vs ps X :=
  ⟨own_below h.row hb, h.lp, h.lx, h.sl, fun j p x h1 h2 h3 => ⟨(h.each j p x h1 h2 h3).1, (h.each j p x h1 h2 h3).2.below hb⟩⟩
theorem Sh.lo_mono {q a b : Nat} (h : a ≤ b) : (Sh.lo q a).length ≤ (Sh.lo q b).length := by
  induction b with
  | zero => have : a = 0 := by omega
            subst this; exact Nat.le_refl _
  | succ b ih =>
    by_cases e : a = b + 1
    · subst e; exact Nat.le_refl _
    · refine Nat.le_trans (ih (by omega)) ?_
      simp only [Sh.lo]
      split
      · rw [List.length_append]; omega
      · exact Nat.le_refl _
/-- the place of a shard among those that are lost -/
theorem Sh.lo_get {q k n : Nat} (hk : k < n) (hb : q.testBit k = true) : (Sh.lo q n)[(Sh.lo q k).length]? = some k := by
  induction n with
  | zero => omega
  | succ n ih =>
    by_cases e : k = n
    · subst e
      simp only [Sh.lo]
      rw [if_pos hb, List.getElem?_append_right (Nat.le_refl _), Nat.sub_self]
      rfl
    · have h1 := ih (by omega)
      simp only [Sh.lo]
      split
      · rw [List.getElem?_append_left (List.getElem?_eq_some_iff.1 h1).1]; exact h1
      · exact h1
set_option maxHeartbeats 1000000 in
theorem firstLeft_ok (v : Value) (base n cnt q K : Nat) (vs : List Value) (ps : List (Nat × Nat × Nat)) (X : List (List Int)) (w : World) (hq : q < 2 ^ 20) (hn1 : 1 ≤ cnt) (hn2 : cnt ≤ 20) (hK1 : 1 ≤ K) (hK2 : K ≤ 20) (hv : Sh.Brk w base v n q vs ps X) (hl : vs.length = cnt) :
    Calls Try.prog 41 #[v, .int .i64 q, .int .i64 K] w fun e w' => ∃ v', e = .returned v' ∧ Sh.Dat w' w.heap.size 33 v' n ((Sh.lf q K cnt).map fun i => ps.getD i (0, 0, 0)) (Sh.pick' X (Sh.lf q K cnt)) ∧ Below w.heap.size w w' := by
  obtain ⟨i0, hi, hz0, hz1, hz2⟩ := info_parts Try.infoSl
  have hrow := hv.row
  rw [hl] at hrow
  obtain ⟨g, cap, rfl, _, hg, hcp, hcells⟩ := own_form hrow hn1
  have HCC := hide hcells
  have HV := hide hv
  have HL := hide hl
  clear hcells hl hv hrow
  go_enter Try.func41, Try.ntmps41
  go_wp2
  go_loopw [7, 8, 9, 13] (fun s _ _ i wr => ∃ k : Nat, k ≤ cnt ∧ i = .int .i64 k ∧ wr.ownsRow w.heap.size 33 1 s (Sh.lf q K k).length (Sh.sv n ((Sh.lf q K k).map fun i => ps.getD i (0, 0, 0))) ∧ Below w.heap.size w wr) (fun _ _ _ i _ => cnt - (intOf i).toNat)
  case atStart => exact ⟨0, Nat.zero_le _, rfl, own_empty rfl (Nat.le_refl _), (Below.refl _ _).alloc (Nat.le_refl _) _⟩
  case round =>
    obtain ⟨k, hk, rfl, hown, hbl⟩ := hrel
    have hsr := hbl.size
    have hfl : (Sh.lf q K k).length ≤ K := by rw [Sh.lf_len]; omega
    obtain ⟨sa, sc, rfl⟩ := own_slice hown
    by_cases hlt : k < cnt
    · have HI := hide (fun w => isLost_any q k w hq (by omega))
      obtain ⟨u, hu⟩ : ∃ u, vs[k]? = some u := ⟨_, List.getElem?_eq_getElem (by rw [HL.out]; exact hlt)⟩
      have hck := keepc hbl hg k (HCC.out k u hu)
      have HLf : Hid (Sh.lf q K (k + 1) = if q.testBit k = false ∧ (Sh.lf q K k).length < K then Sh.lf q K k ++ [k] else Sh.lf q K k) := rfl
      cases hbt : q.testBit k with
      | true =>
        obtain ⟨ua, ul, uc, rfl⟩ := HV.out.sl u (List.mem_of_getElem? hu)
        have HG1 := hide (show Sh.lf q K (k + 1) = Sh.lf q K k by rw [HLf.out, hbt]; simp)
        rw [hbt] at HI
        clear hbt hu HLf
        go_wp2_with (go_at_call 56; refine (HI.out _).mono ?_; rintro e w1 ⟨rfl, rfl⟩)
        go_roundw
        case rel => exact ⟨k + 1, by omega, by go_num, by rw [HG1.out]; exact hown, hbl⟩
        case measure => simp [intOf]; omega
      | false =>
        obtain ⟨p, hp⟩ : ∃ p, ps[k]? = some p := ⟨_, List.getElem?_eq_getElem (by rw [HV.out.lp, HL.out]; exact hlt)⟩
        obtain ⟨x, hx⟩ : ∃ x, X[k]? = some x := ⟨_, List.getElem?_eq_getElem (by rw [HV.out.lx, HL.out]; exact hlt)⟩
        have hev := (HV.out.each k p x hbt hp hx).1
        rw [hu] at hev
        injection hev with hev
        subst hev
        rw [hbt] at HI
        have HP := hide hp
        by_cases hga : (Sh.lf q K k).length < K
        · have HG1 := hide (show Sh.lf q K (k + 1) = Sh.lf q K k ++ [k] by rw [HLf.out, hbt]; simp [hga])
          have HN := hide (show Sh.sv n ((Sh.lf q K k ++ [k]).map fun i => ps.getD i (0, 0, 0)) = Sh.sv n ((Sh.lf q K k).map fun i => ps.getD i (0, 0, 0)) ++ [.slice (some ⟨p.1, p.2.1, none⟩) n p.2.2] by rw [List.map_append, Sh.sv_append, List.map_cons, List.getD_eq_getElem?_getD, hp]; rfl)
          generalize hLk : Sh.lf q K k = Lk at *
          clear hbt hu HLf hp hx hLk
          go_wp2_with (first | (go_at_call 56; refine (HI.out _).mono ?_; rintro e w1 ⟨rfl, rfl⟩) | (at_builtin; refine append1x _ rfl (.tmp 28) (.tmp 30) 32 rfl w.heap.size 33 i0 (.slice none 0 0) 1 24 Try.underlying32 hi hz0 hz1 hz2 rfl (by decide) (by decide) _ _ _ _ rfl hown rfl rfl (by simp; rfl) (by omega) (by omega) ?_; intro v3 w3 hown3 hb3 hg3 hf3))
          go_roundw
          case rel => exact ⟨k + 1, by omega, by go_num, by rw [HG1.out, HN.out, List.length_append]; exact hown3, hbl.trans hb3⟩
          case measure => simp [intOf]; omega
        · have HG1 := hide (show Sh.lf q K (k + 1) = Sh.lf q K k by rw [HLf.out]; rw [if_neg (fun h => hga h.2)])
          generalize hLk : Sh.lf q K k = Lk at *
          clear hbt hu HLf hp hx hLk
          go_wp2_with (go_at_call 56; refine (HI.out _).mono ?_; rintro e w1 ⟨rfl, rfl⟩)
          go_roundw
          case rel => exact ⟨k + 1, by omega, by go_num, by rw [HG1.out]; exact hown, hbl⟩
          case measure => simp [intOf]; omega
    · have hkn : k = cnt := by omega
      subst hkn
      go_wp2
      go_ret
      refine ⟨_, rfl, Sh.Dat.mk' (by rw [List.length_map]; exact hown) (by simp [Sh.pick']) ?_, hbl⟩
      intro j p x hp hx
      unfold Sh.pick' at hx
      rw [List.getElem?_map, Option.map_eq_some_iff] at hp hx
      obtain ⟨t, ht, rfl⟩ := hp
      obtain ⟨t', ht', rfl⟩ := hx
      rw [ht] at ht'
      injection ht' with ht'
      subst ht'
      have htm := List.mem_of_getElem? ht
      have htl := Sh.lf_lt t htm
      have htb := Sh.lf_bit t htm
      have e1 : ps[t]? = some (ps.getD t (0, 0, 0)) := by rw [List.getD_eq_getElem?_getD, List.getElem?_eq_getElem (by rw [HV.out.lp, HL.out]; exact htl)]; rfl
      have e2 : X[t]? = some (X.getD t []) := by rw [List.getD_eq_getElem?_getD, List.getElem?_eq_getElem (by rw [HV.out.lx, HL.out]; exact htl)]; rfl
      exact (HV.out.each t _ _ htb e1 e2).2.below hbl
set_option maxHeartbeats 1000000 in
theorem fitq_ok (cb : Nat) (v : Value) (base n size q : Nat) (vs : List Value) (ps : List (Nat × Nat × Nat)) (X : List (List Int)) (kind : Int) (K M : Nat) (N gd : Int) (w : World) (h : Sh.Ok kind K M N gd) (hs1 : 1 ≤ size) (hs2 : size ≤ 48) (hq : q < 2 ^ 20)
    (hn1 : 1 ≤ n) (hn2 : n ≤ 20) (hv : Sh.Brk w base v (Sh.R kind N * size) q vs ps X) (hl : vs.length = n) (hlo : (Sh.lo q n).length < n) (hcb : cb < w.heap.size)
    (c0 : w.cell? ⟨cb, 0, none⟩ = some (.int .i64 kind)) (c1 : w.cell? ⟨cb, 1, none⟩ = some (.int .i64 K)) (c2 : w.cell? ⟨cb, 2, none⟩ = some (.int .i64 M)) (c3 : w.cell? ⟨cb, 3, none⟩ = some (.int .i64 N)) (c4 : w.cell? ⟨cb, 4, none⟩ = some (.int .i64 gd))
    (hR1 : 1 ≤ Sh.R kind N) (hR2 : Sh.R kind N ≤ 6) :
    Calls Try.prog 24 #[.pointer (some ⟨cb, 0, none⟩), v, .int .i64 n, .int .i64 q] w fun e w' => e = .returned (.bool true) ∧ Below w.heap.size w w' := by
  have HR := hide (fun w => rows_ok kind K M N gd w h)
  have hlfl : (Sh.lf q n n).length = n - (Sh.lo q n).length := by rw [Sh.lf_len]; omega
  have HFL := hide (firstLeft_ok v base (Sh.R kind N * size) n q n vs ps X w hq hn1 hn2 hn1 hn2 hv hl)
  have hrow := hv.row
  rw [hl] at hrow
  obtain ⟨g, cap, rfl, _, hg, hcp, _⟩ := own_form hrow hn1
  have Hlfl := hide hlfl
  clear hl hv h hrow hlfl
  generalize hR : Sh.R kind N = R at *
  clear hR
  have hRs : R * size ≤ 288 := by
    have : R * size ≤ 6 * 48 := Nat.mul_le_mul hR2 hs2
    omega
  have hRs1 : 1 ≤ R * size := Nat.mul_pos hR1 hs1
  have hmod : ((R * size : Nat) : Int) % (R : Int) = 0 := by rw [Int.natCast_mul]; exact Int.mul_emod_right _ _
  have hdiv : ((R * size : Nat) : Int) / (R : Int) = (size : Int) := by rw [Int.natCast_mul]; exact Int.mul_ediv_cancel_left _ (by omega)
  generalize hLn : R * size = Ln at *
  clear hLn
  have d48 : decide ((size : Int) ≤ 48) = true := by simp; omega
  go_enter Try.func24, Try.ntmps24
  go_wp2_with fail
  refine (HFL.out).mono ?_
  rintro e w1 ⟨v1, rfl, hd1, hb1⟩
  have hll : ((Sh.lf q n n).map fun i => ps.getD i (0, 0, 0)).length = n - (Sh.lo q n).length := by rw [List.length_map, Hlfl.out]
  have HLn := hide (lengthOf_ok v1 _ _ Ln _ w1 (by omega) (by omega) rfl hd1.row)
  clear hd1
  go_wp2_with fail
  refine (HLn.out).mono ?_
  rintro e w2 ⟨rfl, rfl⟩
  have hs1 := hb1.size
  have d0 := (hb1.cell (p := ⟨cb, 0, none⟩) hcb).trans c0
  have d1 := (hb1.cell (p := ⟨cb, 1, none⟩) hcb).trans c1
  have d2 := (hb1.cell (p := ⟨cb, 2, none⟩) hcb).trans c2
  have d3 := (hb1.cell (p := ⟨cb, 3, none⟩) hcb).trans c3
  have d4 := (hb1.cell (p := ⟨cb, 4, none⟩) hcb).trans c4
  clear c0 c1 c2 c3 c4
  go_wp2_with (go_at_call 23; refine (HR.out _).mono ?_; rintro e w3 ⟨rfl, hb3⟩)
  go_ret
  exact ⟨rfl, hb1.trans (hb3.mono hs1)⟩
end Go.Proofs.Ythhbpofcemoflab
namespace Go.Proofs.Ythhbpofcemoflab
open Go.RowKit
set_option maxRecDepth 20000
theorem addr_add2 (g o j : Nat) : (⟨g, o, none⟩ : Addr).add j = ⟨g, o + j, none⟩ := by
  unfold Addr.add
  split
  · next e => rw [e, Nat.add_zero]
  · simp
set_option maxHeartbeats 2000000 in
theorem completed_ok (v : Value) (base n cnt q : Nat) (vs : List Value) (ps : List (Nat × Nat × Nat)) (X : List (List Int)) (gb nb capb : Nat) (bs : List (Nat × Nat × Nat)) (w : World) (hq : q < 2 ^ 20) (hn : 1 ≤ n) (hn' : n ≤ 1000) (hn1 : 1 ≤ cnt) (hn2 : cnt ≤ 20) (hv : Sh.Brk w base v n q vs ps X) (hl : vs.length = cnt)
    (hnb : nb = (Sh.lo q cnt).length) (hbl : bs.length = nb) (hgb : gb < w.heap.size) (hbc : ∀ (j : Nat) (p : Nat × Nat × Nat), bs[j]? = some p → w.cell? ⟨gb, j, none⟩ = some (.slice (some ⟨p.1, p.2.1, none⟩) n p.2.2))
    (hbo : ∀ (j : Nat) (p : Nat × Nat × Nat) (x : List Int), bs[j]? = some p → (Sh.pick' X (Sh.lo q cnt))[j]? = some x → Sh.One w n p x) :
    Calls Try.prog 48 #[v, .int .i64 q, .slice (some ⟨gb, 0, none⟩) nb capb] w fun e w' => ∃ (v' : Value) (rs : List (Nat × Nat × Nat)), e = .returned v' ∧ rs.length = cnt ∧ Sh.Own w' w.heap.size 33 5 v' n rs X ∧ Below w.heap.size w w' := by
  obtain ⟨i0, hi, hz0, hz1, hz2⟩ := info_parts Try.infoSl
  obtain ⟨i1, hj, hy0, hy1, hy2⟩ := info_parts Try.infoU8
  have hrow := hv.row
  rw [hl] at hrow
  obtain ⟨g, cap, rfl, _, hg, hcp, hcells⟩ := own_form hrow hn1
  have HCC := hide hcells
  have HV := hide hv
  have HL := hide hl
  have HXl := hide (show X.length = cnt by rw [hv.lx, hl])
  have HBC := hide hbc
  have HBO := hide hbo
  have HBL := hide hbl
  have HLn := hide (show (Sh.lo q cnt).length ≤ 20 from Nat.le_trans (Sh.lo_len_le q cnt) hn2)
  have hnb20 : nb ≤ 20 := by have := HLn.out; omega
  have HNB := hide hnb
  clear hcells hl hv hrow hbc hbo hbl hnb
  go_enter Try.func48, Try.ntmps48
  go_wp2
  go_loopw [7, 8, 9, 10, 11, 12, 16] (fun s nx _ _ _ _ i wr => ∃ (k : Nat) (rs : List (Nat × Nat × Nat)), k ≤ cnt ∧ i = .int .i64 k ∧ nx = .int .i64 (Sh.lo q k).length ∧ rs.length = k ∧ Sh.Own wr w.heap.size 33 5 s n rs (X.take k) ∧ Below w.heap.size w wr) (fun _ _ _ _ _ _ i _ => cnt - (intOf i).toNat)
  case atStart => exact ⟨0, [], Nat.zero_le _, rfl, rfl, rfl, ⟨own_empty rfl (Nat.le_refl _), rfl, by intro j p x hp; simp at hp, by simp⟩, (Below.refl _ _).alloc (Nat.le_refl _) _⟩
  case round =>
    obtain ⟨k, rs, hk, rfl, rfl, hrl, hown, hbw⟩ := hrel
    have hsw := hbw.size
    have hll := Sh.lo_len_le q k
    obtain ⟨sa, sc, rfl⟩ := own_slice hown.row
    by_cases hlt : k < cnt
    · have HI := hide (fun w => isLost_any q k w hq (by omega))
      obtain ⟨u, hu⟩ : ∃ u, vs[k]? = some u := ⟨_, List.getElem?_eq_getElem (by rw [HL.out]; exact hlt)⟩
      obtain ⟨x, hx⟩ : ∃ x, X[k]? = some x := ⟨_, List.getElem?_eq_getElem (by rw [HXl.out]; exact hlt)⟩
      have hck := keepc hbw hg k (HCC.out k u hu)
      have HTk := hide (show X.take (k + 1) = X.take k ++ [x] by rw [List.take_add_one, hx]; rfl)
      have Hown := hide hown
      have Hrl := hide hrl
      have hrow := hown.row
      rw [hrl] at hrow
      rename World => wz
      have HFin : Hid (∀ (g4 cap4 : Nat) (v5 : Value) (w3 w5 : World), w3.ownsRow wz.heap.size 5 1 (.slice (some ⟨g4, 0, none⟩) n cap4) n (x.map (Value.int .u8)) → Below wz.heap.size wz w3 → wz.heap.size ≤ g4 → w5.ownsRow w.heap.size 33 1 v5 (k + 1) (Sh.sv n rs ++ [.slice (some ⟨g4, 0, none⟩) n cap4]) → w3.grownBy w5 (Value.slice sa rs.length sc).ownBlock → Sh.Own w5 w.heap.size 33 5 v5 n (rs ++ [(g4, 0, cap4)]) (X.take (k + 1))) := by
        intro g4 cap4 v5 w3 w5 h1 h2 h3 h4 h5
        rw [HTk.out]
        refine (Hown.out.below h2).push (by decide) wz.heap.size (own_mono h1 hsw) ?_ h3 (by rw [Hrl.out]; exact h4) h5
        intro p hp
        obtain ⟨j, hjp⟩ := List.getElem?_of_mem hp
        obtain ⟨y, hyj⟩ : ∃ y, (X.take k)[j]? = some y := ⟨_, List.getElem?_eq_getElem (by rw [Hown.out.lens]; exact (List.getElem?_eq_some_iff.1 hjp).1)⟩
        exact ((Hown.out.each j p y hjp hyj).2.lt p.1 rfl).2
      have hem : (wz.alloc (.cells #[] 5)).ownsRow wz.heap.size 5 1 (.slice (some ⟨wz.heap.size, 0, none⟩) 0 0) 0 [] := own_empty rfl (Nat.le_refl _)
      rw [hrl] at HFin
      clear hown
      cases hbt : q.testBit k with
      | true =>
        obtain ⟨ua, ul, uc, rfl⟩ := HV.out.sl u (List.mem_of_getElem? hu)
        have hlg := Sh.lo_get hlt hbt
        have e1 : (Sh.lo q (k + 1)).length = (Sh.lo q k).length + 1 := by simp only [Sh.lo]; rw [if_pos hbt]; simp
        have hlk : (Sh.lo q k).length < nb := by rw [HNB.out]; exact (List.getElem?_eq_some_iff.1 hlg).1
        obtain ⟨p, hp⟩ : ∃ p, bs[(Sh.lo q k).length]? = some p := ⟨_, List.getElem?_eq_getElem (by rw [HBL.out]; exact hlk)⟩
        have hpx : (Sh.pick' X (Sh.lo q cnt))[(Sh.lo q k).length]? = some x := by unfold Sh.pick'; rw [List.getElem?_map, hlg, Option.map_some, List.getD_eq_getElem?_getD, hx]; rfl
        have hone := (HBO.out _ p x hp hpx).below hbw
        have hbk := keepc hbw hgb _ (HBC.out _ p hp)
        rw [hbt] at HI
        have HE1 := hide e1
        generalize hlo : (Sh.lo q k).length = lk at *
        clear hbt hu e1 hp hpx hlg hlo
        have HOne := hide hone
        have HXn := hide hone.len
        have hlt0 := hone.lt
        clear hone hx
        go_wp2_with (first
          | (go_at_call 56; refine (HI.out _).mono ?_; rintro e w1 ⟨rfl, hw1⟩; rw [hw1]; clear hw1 w1)
          | (at_builtin; refine appendX _ rfl (.tmp 38) (.tmp 39) 33 rfl wz.heap.size 5 i1 (.int .u8 0) 1 1 Try.underlying33 hj hy0 hy1 hy2 rfl (by decide) _ _ _ rfl hem ⟨p.1, p.2.1, none⟩ n p.2.2 (x.map (Value.int .u8)) rfl (by simp [HXn.out]) (fun j u hu => by rw [addr_add2]; rw [List.getElem?_map, Option.map_eq_some_iff] at hu; obtain ⟨b, hb, rfl⟩ := hu; exact (HOne.out.below ((Below.refl _ _).alloc (Nat.le_refl _) _)).cells j b hb) (ints_one _ _) hn (by unfold maxLen; omega) (by omega) (by simp) ?_; intro v3 w3 hown3 hb3 hg3 hf3; rw [Nat.zero_add, List.nil_append] at hown3; obtain ⟨g4, cap4, hv4, hgb4, hgw4, _, _⟩ := own_form hown3 hn; subst hv4; have hbz : Below wz.heap.size wz w3 := ((Below.refl _ _).alloc (Nat.le_refl _) _).trans hb3; have hsz3 := hbz.size; have hrow3 := own_below hrow hbz)
          | (at_builtin; refine append1x _ rfl (.tmp 41) (.tmp 43) 32 rfl w.heap.size 33 i0 (.slice none 0 0) 1 24 Try.underlying32 hi hz0 hz1 hz2 rfl (by decide) (by decide) _ _ _ _ rfl hrow3 rfl rfl (by simp; rfl) (by omega) (by omega) ?_; intro v5 w5 hown5 hb5 hg5 hf5))
        go_roundw
        case rel => exact ⟨k + 1, rs ++ [(g4, 0, cap4)], by omega, by go_num, by rw [HE1.out]; go_num, by simp [Hrl.out], HFin.out g4 cap4 _ _ _ hown3 hbz hgb4 hown5 hg5, (hbw.trans (hbz.mono hsw)).trans hb5⟩
        case measure => simp [intOf]; omega
      | false =>
        obtain ⟨p, hp⟩ : ∃ p, ps[k]? = some p := ⟨_, List.getElem?_eq_getElem (by rw [HV.out.lp, HL.out]; exact hlt)⟩
        obtain ⟨hev, hone0⟩ := HV.out.each k p x hbt hp hx
        have hone := hone0.below hbw
        rw [hu] at hev
        injection hev with hev
        subst hev
        have e1 : (Sh.lo q (k + 1)).length = (Sh.lo q k).length := by simp only [Sh.lo]; rw [if_neg (by simp [hbt])]
        rw [hbt] at HI
        have HE1 := hide e1
        generalize hlo : (Sh.lo q k).length = lk at *
        clear hbt hu e1 hp hlo hone0
        have HOne := hide hone
        have HXn := hide hone.len
        have hlt0 := hone.lt
        clear hone hx
        go_wp2_with (first
          | (go_at_call 56; refine (HI.out _).mono ?_; rintro e w1 ⟨rfl, hw1⟩; rw [hw1]; clear hw1 w1)
          | (at_builtin; refine appendX _ rfl (.tmp 38) (.tmp 39) 33 rfl wz.heap.size 5 i1 (.int .u8 0) 1 1 Try.underlying33 hj hy0 hy1 hy2 rfl (by decide) _ _ _ rfl hem ⟨p.1, p.2.1, none⟩ n p.2.2 (x.map (Value.int .u8)) rfl (by simp [HXn.out]) (fun j u hu => by rw [addr_add2]; rw [List.getElem?_map, Option.map_eq_some_iff] at hu; obtain ⟨b, hb, rfl⟩ := hu; exact (HOne.out.below ((Below.refl _ _).alloc (Nat.le_refl _) _)).cells j b hb) (ints_one _ _) hn (by unfold maxLen; omega) (by omega) (by simp) ?_; intro v3 w3 hown3 hb3 hg3 hf3; rw [Nat.zero_add, List.nil_append] at hown3; obtain ⟨g4, cap4, hv4, hgb4, hgw4, _, _⟩ := own_form hown3 hn; subst hv4; have hbz : Below wz.heap.size wz w3 := ((Below.refl _ _).alloc (Nat.le_refl _) _).trans hb3; have hsz3 := hbz.size; have hrow3 := own_below hrow hbz)
          | (at_builtin; refine append1x _ rfl (.tmp 41) (.tmp 43) 32 rfl w.heap.size 33 i0 (.slice none 0 0) 1 24 Try.underlying32 hi hz0 hz1 hz2 rfl (by decide) (by decide) _ _ _ _ rfl hrow3 rfl rfl (by simp; rfl) (by omega) (by omega) ?_; intro v5 w5 hown5 hb5 hg5 hf5))
        go_roundw
        case rel => exact ⟨k + 1, rs ++ [(g4, 0, cap4)], by omega, by go_num, by rw [HE1.out], by simp [Hrl.out], HFin.out g4 cap4 _ _ _ hown3 hbz hgb4 hown5 hg5, (hbw.trans (hbz.mono hsw)).trans hb5⟩
        case measure => simp [intOf]; omega
    · have hkn : k = cnt := by omega
      subst hkn
      go_wp2
      go_ret
      rw [List.take_of_length_le (by rw [HXl.out]; exact Nat.le_refl _)] at hown
      exact ⟨_, rs, rfl, hrl, hown, hbw⟩
end Go.Proofs.Ythhbpofcemoflab
namespace Go.Proofs.Ythhbpofcemoflab
open Go.RowKit
set_option maxRecDepth 20000
theorem Sh.Brk.grown {w w' : World} {base cb : Nat} {v : Value} {n q : Nat} {vs : List Value} {ps : List (Nat × Nat × Nat)} {X : List (List Int)} {tC : TypeId} {C : Array Value} (h : Sh.Brk w base v n q vs ps X) (hg : w.grownBy w' (some cb)) (hC : w.heap[cb]? = some (.cells C tC (0, 0))) (ht : 33 ≠ tC) (hne : ∀ (j : Nat) (p : Nat × Nat × Nat), q.testBit j = false → ps[j]? = some p → p.1 ≠ cb) : Sh.Brk w' base v n q vs ps X := by
  refine ⟨h.row.kept hg ?_, h.lp, h.lx, h.sl, fun j p x h1 h2 h3 => ⟨(h.each j p x h1 h2 h3).1, ?_⟩⟩
  · rcases h.row.2 with ⟨rfl, _⟩ | ⟨g, cap, cur, rfl, _, hgg, _⟩
    · exact Or.inl rfl
    · right
      intro e
      simp [Value.ownBlock] at e
      subst e
      rw [hC] at hgg
      injection hgg with hgg
      injection hgg with _ hgg _
      exact ht hgg.symm
  · have ho := (h.each j p x h1 h2 h3).2
    exact ⟨ho.caps, Nat.lt_of_lt_of_le ho.lt hg.size, ho.len, fun i b hi => (grown_cell hg ho.lt (hne j p h1 h2)).trans (ho.cells i b hi)⟩
theorem Sh.lo_zero (s : Nat) : (Sh.lo 0 s).length = 0 := by
  induction s with
  | zero => rfl
  | succ s ih => simp only [Sh.lo]; rw [if_neg (by simp), ih]
set_option maxHeartbeats 2000000 in
theorem reconstruct_ok (cb : Nat) (kind : Int) (K M : Nat) (N gd lev scr : Int) (blk : Nat) (cac : Int) (size q : Nat) (v vl : Value) (base : Nat) (vs : List Value) (ps : List (Nat × Nat × Nat)) (X : List (List Int)) (w : World) (h : Sh.Ok kind K M N gd) (hP : Sh.Pb kind K M N gd) (hD : Sh.dfs (Sh.shs (Sh.row kind K M N gd) (Sh.R kind N) (K + M)) [] K M [] = true) (hq : q < 2 ^ 20) (hlo : (Sh.lo q (K + M)).length ≤ M) (hlo1 : q ≠ 0 → 1 ≤ (Sh.lo q (K + M)).length) (hc4 : cac ≤ 4) (hbk : 1 ≤ blk) (hbk' : blk ≤ 64)
    (hs1 : 1 ≤ size) (hs2 : size ≤ 48) (hc : Sh.CS w cb kind K M N gd lev scr blk cac) (hX : X.length = K) (bX : Sh.Bytes X) (lX : ∀ x ∈ X, x.length = Sh.R kind N * size) (hv : Sh.Brk w base v (Sh.R kind N * size) q vs ps (X ++ Sh.parB kind K M N gd size X)) (hl : vs.length = K + M) (hne : ∀ (j : Nat) (p : Nat × Nat × Nat), q.testBit j = false → ps[j]? = some p → p.1 ≠ cb)
    (hpat : Calls Try.prog 47 #[.pointer (some ⟨cb, 0, none⟩), vl] w fun e w' => e = .returned (.tuple #[.int .i64 (q : Int), .int .i64 0]) ∧ Below w.heap.size w w') :
    Calls Try.prog 32 #[.pointer (some ⟨cb, 0, none⟩), v, vl] w fun e w' => ∃ (v' : Value) (rs : List (Nat × Nat × Nat)), e = .returned (.tuple #[v', .int .i64 0]) ∧ rs.length = K + M ∧ Sh.Own w' w.heap.size 33 5 v' (Sh.R kind N * size) rs (X ++ Sh.parB kind K M N gd size X) ∧ w.grownBy w' (some cb) := by
  obtain ⟨hK, hM, h10, hR1, hR2, hKR, hMR, hPL⟩ := h.bounds
  obtain ⟨p0, g0, o0, z0, v0, cnt, hblk⟩ := hc.blk
  have hcb := blk_lt hblk
  have c0 : w.cell? ⟨cb, 0, none⟩ = some (.int .i64 kind) := blk_cell hblk rfl
  have c1 : w.cell? ⟨cb, 1, none⟩ = some (.int .i64 K) := blk_cell hblk rfl
  have c2 : w.cell? ⟨cb, 2, none⟩ = some (.int .i64 M) := blk_cell hblk rfl
  have c3 : w.cell? ⟨cb, 3, none⟩ = some (.int .i64 N) := blk_cell hblk rfl
  have c4 : w.cell? ⟨cb, 4, none⟩ = some (.int .i64 gd) := blk_cell hblk rfl
  have hrow := hv.row
  rw [hl] at hrow
  obtain ⟨gD, capD, hvD, _, hgD, hcD, _⟩ := own_form hrow (by omega)
  subst hvD
  have hn1 : 1 ≤ Sh.R kind N * size := Nat.mul_pos hR1 hs1
  have hn2 : Sh.R kind N * size ≤ 288 := by
    have : Sh.R kind N * size ≤ 6 * 48 := Nat.mul_le_mul hR2 hs2
    omega
  have HF := hide (fun (wx : World) (hx : Below w.heap.size w wx) => fitq_ok cb _ base (K + M) size q vs ps _ kind K M N gd wx h hs1 hs2 hq (by omega) (by omega) (hv.below hx) hl (by omega) (Nat.lt_of_lt_of_le hcb hx.size) (keepc hx hcb 0 c0) (keepc hx hcb 1 c1) (keepc hx hcb 2 c2) (keepc hx hcb 3 c3) (keepc hx hcb 4 c4) hR1 hR2)
  have HFL := hide (fun (wx : World) (hx : Below w.heap.size w wx) => firstLeft_ok _ base (Sh.R kind N * size) (K + M) q K vs ps _ wx hq (by omega) (by omega) hK (by omega) (hv.below hx) hl)
  have hlf : (Sh.lf q K (K + M)).length = K := by rw [Sh.lf_len]; omega
  have HMd := hide (fun (hq0 : q ≠ 0) (wx : World) (vf : Value) (bf : Nat) (hx : Below w.heap.size w wx) (hdx : Sh.Dat wx bf 33 vf (Sh.R kind N * size) ((Sh.lf q K (K + M)).map fun i => ps.getD i (0, 0, 0)) (Sh.pick' (X ++ Sh.parB kind K M N gd size X) (Sh.lf q K (K + M)))) => (by
    have := madeq_ok cb kind K M N gd lev scr blk cac q size vf bf _ _ wx h hP hq hq0 (hlo1 hq0) hlo hc4 hbk hbk' hs1 hs2 (hc.below hx) hdx (by rw [List.length_map, hlf]) (by
      intro p hp
      rw [List.mem_map] at hp
      obtain ⟨t, ht, rfl⟩ := hp
      have htl := Sh.lf_lt t ht
      exact hne t _ (Sh.lf_bit t ht) (by rw [List.getD_eq_getElem?_getD, List.getElem?_eq_getElem (by rw [hv.lp, hl]; exact htl)]; rfl)) (by
      intro x hx
      unfold Sh.pick' at hx
      rw [List.mem_map] at hx
      obtain ⟨t, ht, rfl⟩ := hx
      have hlt := Sh.lf_lt t ht
      rw [List.getD_eq_getElem?_getD, List.getElem?_eq_getElem (by rw [List.length_append, hX, Sh.parB_len]; exact hlt)]
      exact (List.mem_append.1 (List.getElem_mem _)).elim (fun h => bX _ h) (fun h => Sh.parB_bytes kind K M N gd size X _ h))
    have e : Sh.lsums kind K M N gd q = (Sh.lost kind K M N gd q).map Int.ofNat := rfl
    rw [e, Sh.lost_back h hP hD hX bX lX q hlo] at this
    exact this : Calls Try.prog 25 #[.pointer (some ⟨cb, 0, none⟩), .int .i64 q, vf] wx fun e w' => ∃ (v' : Value) (qs : List (Nat × Nat × Nat)), e = .returned v' ∧ qs.length = (Sh.lo q (K + M)).length ∧
      Sh.Own w' wx.heap.size 33 5 v' (Sh.R kind N * size) qs (Sh.pick' (X ++ Sh.parB kind K M N gd size X) (Sh.lo q (K + M))) ∧ wx.grownBy w' (some cb)))
  have HCo := hide (fun (gb nb capb : Nat) (bs : List (Nat × Nat × Nat)) (wx : World) (hbr : Sh.Brk wx base (.slice (some ⟨gD, 0, none⟩) (K + M) capD) (Sh.R kind N * size) q vs ps (X ++ Sh.parB kind K M N gd size X)) => completed_ok _ base (Sh.R kind N * size) (K + M) q vs ps _ gb nb capb bs wx hq hn1 (by omega) (by omega) (by omega) hbr hl)
  have HBr := hide (fun (wx : World) (hg : w.grownBy wx (some cb)) => hv.grown hg hblk (by decide) hne)
  have HPat := hide hpat
  have HC1 := hide (fun (wx : World) (hx : Below w.heap.size w wx) => keepc hx hcb 1 c1)
  have Hlo1 := hide hlo1
  have HLo := hide hlo
  clear h hP hD hc hv hl hne hpat hrow hblk hX bX lX hlf hlo1
  generalize hZ : X ++ Sh.parB kind K M N gd size X = Z at *
  clear hZ
  generalize hn : Sh.R kind N * size = n at *
  clear hn
  go_enter Try.func32, Try.ntmps32
  go_wp2_with fail
  refine HPat.out.mono ?_
  rintro e w1 ⟨rfl, hb1⟩
  have hs1w := hb1.size
  have hnb : Nonempty (BW w1) := ⟨⟨w1, Below.refl _ _⟩⟩
  have b1 : ∀ s : BW w1, s.out.cell? ⟨cb, 1, none⟩ = some (.int .i64 K) := fun s => keepc s.low (by omega) 1 (keepc hb1 hcb 1 c1)
  have b2 : ∀ s : BW w1, s.out.cell? ⟨cb, 2, none⟩ = some (.int .i64 M) := fun s => keepc s.low (by omega) 2 (keepc hb1 hcb 2 c2)
  have HF1 := hide (fun (s : BW w1) => HF.out s.out (hb1.trans (s.low.mono hs1w)))
  clear c0 c2 c3 c4
  go_wp2
  refine wp_region_low_lit (by kernel_rfl) (by kernel_rfl) ?_
  repeat (go_big_quiet_step ((refine (HF1.out _).mono ?_; rintro e w2 ⟨rfl, hb2⟩; exact ⟨rfl, ⟨w2, (BW.low _).trans (hb2.mono (BW.low _).size)⟩, rfl⟩)))
  refine wpQuiet_nil ?_
  rintro w2 ⟨s2, rfl⟩
  have hlow2 := s2.low
  generalize s2.out = w2 at *
  have hs2w := hlow2.size
  have hB2 := hb1.trans (hlow2.mono hs1w)
  clear b1 b2 hnb HF1
  by_cases hq0 : q = 0
  · subst hq0
    have hz0 : (Sh.lo 0 (K + M)).length = 0 := Sh.lo_zero _
    have hBa : Below w.heap.size w (w2.alloc (.cells #[] 33)) := hB2.alloc (by omega) _
    have HCo0 := hide (HCo.out w2.heap.size 0 0 [] _ (HBr.out _ (grown_of hBa _)) hz0.symm rfl (by simp) (by intro j p hp; simp at hp) (by intro j p x hp; simp at hp))
    go_wp2_with fail
    refine HCo0.out.mono ?_
    rintro e w5 ⟨v5, rs, rfl, hrl, hown5, hb5⟩
    go_wp2
    go_ret2
    exact ⟨v5, rs, rfl, hrl, hown5.mono (by simp; omega), grown_below (grown_of hBa _) hb5⟩
  · have hq1 : ((q : Int) == 0) = false := by simp; exact hq0
    have hq2 : ¬ ((q : Int) = 0) := by omega
    have d1 := HC1.out w2 hB2
    have hcb2 : cb < w2.heap.size := by omega
    have hBa : Below w.heap.size w (w2.alloc (.cells #[] 33)) := hB2.alloc (by omega) _
    go_wp2_with fail
    refine (HFL.out _ hBa).mono ?_
    rintro e w4 ⟨v4, rfl, hd4, hb4⟩
    have hs4 := hb4.size
    simp only [World.size_alloc] at hs4
    have hB4 := hBa.trans (hb4.mono (by simp; omega))
    have HM4 := hide (HMd.out hq0 w4 v4 _ hB4 hd4)
    clear hd4 d1
    go_wp2_with fail
    refine HM4.out.mono ?_
    rintro e w5 ⟨v5, qs, rfl, hql, hown5, hg5⟩
    have hs5 := hg5.size
    have hr5 := hown5.row
    rw [hql] at hr5
    obtain ⟨g5, cap5, hv5, hg5b, hg5z, hcap5, hcell5⟩ := own_form hr5 (Hlo1.out hq0)
    subst hv5
    have hG5 := grown_trans (grown_of hB4 (some cb)) hg5
    have HCo5 := hide (HCo.out g5 _ cap5 qs w5 (HBr.out _ hG5) rfl hql hg5z (fun j p hp => hcell5 j _ (Sh.sv_get hp)) (fun j p x hp hx => Sh.One.of (own_dat hown5) hp hx))
    clear hown5 hr5 hcell5
    go_wp2_with fail
    refine HCo5.out.mono ?_
    rintro e w6 ⟨v6, rs, rfl, hrl, hown6, hb6⟩
    go_wp2
    go_ret2
    exact ⟨v6, rs, rfl, hrl, hown6.mono (by omega), grown_below hG5 hb6⟩
end Go.Proofs.Ythhbpofcemoflab
