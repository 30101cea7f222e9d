import Derived.Test.YthhbpofcemoflabW14
import Derived.Test.YthhbpofcemoflabGb
namespace Go.Proofs.Ythhbpofcemoflab
open Go.RowKit
set_option maxRecDepth 20000

set_option maxHeartbeats 1000000 in
theorem rowsOf_any (v : Value) (base K R size : Nat) (ps : List (Nat × Nat × Nat)) (w : World) (hK : 1 ≤ K) (hK' : K ≤ 20) (hR : 1 ≤ R) (hR' : R ≤ 8) (hs1 : 1 ≤ size) (hs2 : size ≤ 48) (hl : ps.length = K)
    (hcap : ∀ p ∈ ps, R * size ≤ p.2.2 ∧ p.2.2 ≤ maxLen) (hv : w.ownsRow base 33 1 v K (Sh.sv (R * size) ps)) :
    Calls Try.prog 58 #[v, .int .i64 R] w
      fun e w' => ∃ v', e = .returned v' ∧ w'.ownsRow w.heap.size 33 1 v' (K * R) (Sh.sv size (Sh.cutAll size R ps)) ∧ Below w.heap.size w w' := by
  obtain ⟨i0, hi, hz0, hz1, hz2⟩ := info_parts Try.infoSl
  obtain ⟨g, cap, rfl, _, hg, hcp, hcells⟩ := own_form hv hK
  have HCC := hide hcells
  have HCAP := hide hcap
  have HL := hide hl
  clear hcells hcap hl hv
  have dR : decide ((R : Int) < 1) = false := by simp; omega
  go_enter Try.func58, Try.ntmps58
  go_wp2
  go_loopw [5, 7, 8, 9, 16] (fun v _ _ _ i' wr => ∃ k : Nat, k ≤ K ∧ i' = .int .i64 k ∧ wr.ownsRow w.heap.size 33 1 v (k * R) (Sh.sv size (Sh.cutAll size R (ps.take k))) ∧ Below w.heap.size w wr) (fun _ _ _ _ i _ => K - (intOf i).toNat)
  case atStart => exact ⟨0, Nat.zero_le _, rfl, by simp only [Nat.zero_mul]; exact own_empty rfl (Nat.le_refl _), (Below.refl _ _).alloc (Nat.le_refl _) _⟩
  case round =>
    obtain ⟨k, hk, rfl, hown, hbl⟩ := hrel
    have hsw := hbl.size
    by_cases hlt : k < K
    · have hlp : k < ps.length := by rw [HL.out]; exact hlt
      have hck := (hbl.cell (p := ⟨g, k, none⟩) hg).trans (HCC.out k _ (Sh.sv_get (List.getElem?_eq_getElem hlp)))
      have hcp2 := HCAP.out ps[k] (List.getElem_mem _)
      have HS := hide (List.take_succ_eq_append_getElem hlp)
      generalize hp0 : ps[k] = p0 at *
      clear hp0
      obtain ⟨pg, po, pc⟩ := p0
      simp only at hck hcp2
      unfold maxLen at hcp2
      have hkR : k * R ≤ 160 := by
        have : k * R ≤ 20 * 8 := Nat.mul_le_mul (by omega) hR'
        omega
      have hRs : R * size ≤ 384 := by
        have : R * size ≤ 8 * 48 := Nat.mul_le_mul hR' hs2
        omega
      have hdiv : (R : Int) * (size : Int) / (R : Int) = (size : Int) := Int.mul_ediv_cancel_left _ (by omega)
      go_wp2
      rw [hdiv]
      clear hdiv
      go_loopw [5, 9, 25] (fun v _ i' wr => ∃ r : Nat, r ≤ R ∧ i' = .int .i64 r ∧ wr.ownsRow w.heap.size 33 1 v (k * R + r) (Sh.sv size (Sh.cutAll size R (ps.take k) ++ Sh.cutOne size r (pg, po, pc))) ∧ Below w.heap.size w wr) (fun _ _ i _ => R - (intOf i).toNat)
      case atStart => exact ⟨0, Nat.zero_le _, rfl, by simpa [Sh.cutOne] using hown, hbl⟩
      case round =>
        clear hck hown hbl hsw
        obtain ⟨r, hr, rfl, hown, hbl⟩ := hrel
        have hsw := hbl.size
        by_cases hlr : r < R
        · have hrs : r * size + size ≤ R * size := by
            have : (r + 1) * size ≤ R * size := Nat.mul_le_mul_right _ hlr
            rw [Nat.add_mul, Nat.one_mul] at this
            exact this
          have hne : ¬ pc = r * size := by omega
          have hle : r * size ≤ pc := by omega
          go_wp2_with (at_builtin; refine append1x _ rfl (.tmp 28) (.tmp 39) 32 rfl w.heap.size 33 i0 (.slice none 0 0) 1 24 Try.underlying32 hi hz0 hz1 hz2 rfl (by decide) (by decide) _ _ _ _ rfl hown rfl rfl (by simp; rfl) (by omega) (by omega) ?_; intro v' w3 hown3 hb3 hg3 hf3)
          go_roundw
          case rel => exact ⟨r + 1, by omega, by go_num, by rw [Sh.cutOne_succ, ← List.append_assoc, Sh.sv_append]; exact hown3, hbl.trans hb3⟩
          case measure => simp [intOf]; omega
        · have hrR : r = R := by omega
          subst hrR
          go_wp2
          go_roundw
          case rel => exact ⟨k + 1, by omega, by go_num, by rw [HS.out, Sh.cutAll_snoc, Nat.add_mul, Nat.one_mul]; exact hown, hbl⟩
          case measure => simp [intOf]; omega
    · have hkK : k = K := by omega
      subst hkK
      go_wp2
      go_ret
      exact ⟨_, rfl, by rw [List.take_of_length_le (by rw [HL.out]; exact Nat.le_refl _)] at hown; exact hown, hbl⟩
end Go.Proofs.Ythhbpofcemoflab
namespace Go.Proofs.Ythhbpofcemoflab
open Go.RowKit
set_option maxRecDepth 20000

set_option maxHeartbeats 1000000 in
theorem shardsOf_any (v : Value) (base M R size : Nat) (bs : List Nat) (X : List (List Int)) (w : World) (hM : 1 ≤ M) (hM' : M ≤ 10) (hR : 1 ≤ R) (hR' : R ≤ 8) (hs1 : 1 ≤ size) (hs2 : size ≤ 48) (hl : bs.length = M * R) (hX : X.length = M * R)
    (hXl : ∀ (j : Nat) (x : List Int), X[j]? = some x → x.length = size)
    (hv : w.ownsRow base 33 1 v (M * R) (bs.map fun b => Value.slice (some ⟨b, 0, none⟩) size size))
    (hb : ∀ (j b : Nat) (x : List Int), bs[j]? = some b → X[j]? = some x → w.heap[b]? = some (.cells (x.map (Value.int .u8)).toArray 5 (0, 0))) :
    Calls Try.prog 59 #[v, .int .i64 R] w
      fun e w' => ∃ (v' : Value) (ps : List (Nat × Nat × Nat)), e = .returned v' ∧ ps.length = M ∧ Sh.Own w' w.heap.size 33 5 v' (R * size) ps ((List.range M).map fun k => Sh.shB X R k R) ∧ Below w.heap.size w w' := by
  obtain ⟨i0, hi, hz0, hz1, hz2⟩ := info_parts Try.infoSl
  obtain ⟨i1, hj, hy0, hy1, hy2⟩ := info_parts Try.infoU8
  have hMR1 : 1 ≤ M * R := Nat.mul_pos hM hR
  have hMR2 : M * R ≤ 80 := by
    have : M * R ≤ 10 * 8 := Nat.mul_le_mul hM' hR'
    omega
  obtain ⟨g, cap, rfl, _, hg, hcp, hcells⟩ := own_form hv hMR1
  have HCC := hide hcells
  have HL := hide hl
  have HX := hide hX
  have HXl := hide hXl
  have HSL := hide (fun (k r : Nat) (hk : k < M) (hr : r ≤ R) => Sh.shB_len (k := k) (r := r) hXl hX hk hr)
  have HB := hide hb
  clear hcells hl hX hXl hb hv
  have dR : decide ((R : Int) < 1) = false := by simp; omega
  have hRs : R * size ≤ 384 := by
    have : R * size ≤ 8 * 48 := Nat.mul_le_mul hR' hs2
    omega
  have HKR := hide (fun (k : Nat) (h : k < M) => (by
        have : (k + 1) * R ≤ M * R := Nat.mul_le_mul_right _ h
        rw [Nat.add_mul, Nat.one_mul] at this
        exact this : k * R + R ≤ M * R))
  generalize hN1 : M * R = N1 at *
  have HN1 := hide hN1
  clear hN1
  go_enter Try.func59, Try.ntmps59
  go_wp2
  go_loopw [5, 6, 7, 9] (fun v i' _ _ wr => ∃ (k : Nat) (ps : List (Nat × Nat × Nat)), k ≤ M ∧ i' = .int .i64 ((k * R : Nat) : Int) ∧ ps.length = k ∧ Sh.Own wr w.heap.size 33 5 v (R * size) ps ((List.range k).map fun k => Sh.shB X R k R) ∧ Below w.heap.size w wr) (fun _ i _ _ _ => N1 + R - (intOf i).toNat)
  case atStart =>
    refine ⟨0, [], Nat.zero_le _, by simp, rfl, ⟨own_empty rfl (Nat.le_refl _), rfl, by intro j p x hp; simp at hp, by simp⟩, (Below.refl _ _).alloc (Nat.le_refl _) _⟩
  case round =>
    obtain ⟨k, ps, hk, rfl, hpl, hown, hbl⟩ := hrel
    have hsw := hbl.size
    by_cases hlt : k < M
    · have hkR := HKR.out k hlt
      generalize hT : k * R = T at *
      have HT := hide hT
      clear hT
      have hne : ¬ cap = T := by omega
      have hle : T ≤ cap := by omega
      have dT : decide ((T : Int) + (R : Int) ≤ (N1 : Int)) = true := by simp; omega
      have Hown := hide hown
      have Hpl := hide hpl
      clear hown hpl
      rename World => wz
      go_wp2
      rw [Nat.add_sub_cancel_left]
      go_loopw [7, 9, 31] (fun v _ i' wr => ∃ r : Nat, r ≤ R ∧ i' = .int .i64 r ∧ wr.ownsRow wz.heap.size 5 1 v (r * size) ((Sh.shB X R k r).map (Value.int .u8)) ∧ Below wz.heap.size wz wr) (fun _ _ i _ => R - (intOf i).toNat)
      case atStart => exact ⟨0, Nat.zero_le _, rfl, by simp only [Nat.zero_mul]; exact own_empty rfl (Nat.le_refl _), (Below.refl _ _).alloc (Nat.le_refl _) _⟩
      case round =>
        obtain ⟨r, hr, rfl, hcur, hbw⟩ := hrel
        have hzw := hbw.size
        by_cases hlr : r < R
        · obtain ⟨b, hbj⟩ : ∃ b, bs[T + r]? = some b := ⟨_, List.getElem?_eq_getElem (by rw [HL.out]; omega)⟩
          obtain ⟨x, hxj⟩ : ∃ x, X[T + r]? = some x := ⟨_, List.getElem?_eq_getElem (by rw [HX.out]; omega)⟩
          have hblk := HB.out _ _ _ hbj hxj
          have hbw0 : b < w.heap.size := blk_lt hblk
          have HBlk := hide ((hbw.block b (by omega)).trans ((hbl.block b hbw0).trans hblk))
          have hck : wr.cell? ⟨g, T + r, none⟩ = some (.slice (some ⟨b, 0, none⟩) size size) := ((hbw.cell (p := ⟨g, T + r, none⟩) (by simp; omega)).trans (hbl.cell (p := ⟨g, T + r, none⟩) hg)).trans (HCC.out _ _ (by rw [List.getElem?_map, hbj]; rfl))
          have HXL := hide (HXl.out _ _ hxj)
          have HS := hide (show Sh.shB X R k (r + 1) = Sh.shB X R k r ++ x by rw [Sh.shB_succ, HT.out, List.getD_eq_getElem?_getD, hxj]; rfl)
          have hrs : r * size ≤ 384 := by
            have : r * size ≤ 8 * 48 := Nat.mul_le_mul (by omega) hs2
            omega
          clear hbj hxj hblk
          go_wp2_with (at_builtin; refine appendX _ rfl (.tmp 35) (.tmp 36) 33 rfl wz.heap.size 5 i1 (.int .u8 0) 1 1 Try.underlying33 hj hy0 hy1 hy2 rfl (by decide) _ _ _ rfl hcur ⟨b, 0, none⟩ size size (x.map (Value.int .u8)) rfl (by simp [HXL.out]) (by exact World.news_of_block (cs := (x.map (Value.int .u8)).toArray) HBlk.out) (ints_one _ _) hs1 (by unfold maxLen; omega) (by omega) (by omega) ?_; intro v3 w3 hown3 hb3 hg3 hf3)
          go_roundw
          case rel => exact ⟨r + 1, by omega, by go_num, by rw [HS.out, List.map_append, Nat.add_mul, Nat.one_mul]; exact hown3, hbw.trans hb3⟩
          case measure => simp [intOf]; omega
        · have hrR : r = R := by omega
          subst hrR
          obtain ⟨g4, cap4, hv4, hgb4, hgw4, _, _⟩ := own_form hcur (Nat.mul_pos hR hs1)
          have HO2 := hide (Hown.out.below hbw)
          have hrow := HO2.out.row
          rw [Hpl.out] at hrow
          rw [hv4] at hcur
          have HV4 := hide hv4
          clear hv4
          rw [HV4.out]
          go_wp2_with (at_builtin; refine append1x _ rfl (.tmp 39) (.tmp 41) 32 rfl w.heap.size 33 i0 (.slice none 0 0) 1 24 Try.underlying32 hi hz0 hz1 hz2 rfl (by decide) (by decide) _ _ _ _ rfl hrow rfl rfl (by simp; rfl) (by omega) (by omega) ?_; intro v3 w3 hown3 hb3 hg3 hf3)
          go_roundw
          case rel =>
            refine ⟨k + 1, ps ++ [(g4, 0, cap4)], by omega, ?_, by simp [Hpl.out], ?_, (hbl.trans (hbw.mono hsw)).trans hb3⟩
            · refine val_int ?_
              rw [Nat.add_mul, Nat.one_mul, HT.out]
              omega
            · rw [List.range_succ, List.map_append]
              refine HO2.out.push (by decide) wz.heap.size (own_mono hcur hsw) ?_ hgb4 (by rw [Hpl.out]; exact hown3) hg3
              intro p hp
              obtain ⟨j, hjp⟩ := List.getElem?_of_mem hp
              obtain ⟨x, hxj⟩ : ∃ x, ((List.range k).map fun k => Sh.shB X r k r)[j]? = some x := ⟨_, List.getElem?_eq_getElem (by rw [Hown.out.lens]; exact (List.getElem?_eq_some_iff.1 hjp).1)⟩
              exact ((Hown.out.each j p x hjp hxj).2.lt p.1 rfl).2
          case measure => simp [intOf]; omega
    · have hkM : k = M := by omega
      subst hkM
      have hbeq : (k * R = N1) := HN1.out
      go_wp2
      go_ret
      exact ⟨_, ps, rfl, hpl, hown, hbl⟩
end Go.Proofs.Ythhbpofcemoflab
namespace Go.Proofs.Ythhbpofcemoflab
open Go.RowKit
set_option maxRecDepth 20000

set_option maxHeartbeats 400000 in
theorem isLost0 (i : Nat) (w : World) (hi : i ≤ 20) :
    Calls Try.prog 56 #[.int .i64 0, .int .i64 i] w fun e w' => e = .returned (.bool false) ∧ w' = w := by
  have hb : (bits .and .i64 (0 / 2 ^ i) 1 == 1) = false := by rw [Int.zero_ediv]; decide +kernel
  have hb' : (bits .and .i64 0 1 == 1) = false := by decide +kernel
  go_enter Try.func56, Try.ntmps56
  go_wp2
  all_goals
    go_ret
    exact ⟨rfl, rfl⟩

/-- the coder's cells -/
def Sh.coder (kind K M N gd lev scr blk cac p0 g0 o0 z0 : Int) (v0 : Value) (cnt : Int) : Array Value :=
  #[Value.int .i64 kind, Value.int .i64 K, Value.int .i64 M, Value.int .i64 N, Value.int .i64 gd, Value.int .i64 lev, Value.int .i64 scr, Value.int .i64 blk, Value.int .i64 cac, Value.int .i64 p0, Value.int .i64 g0, Value.int .i64 o0, Value.int .i64 z0, v0, .int .i64 0, .int .i64 0, .int .i64 0, .int .i64 0, .slice none 0 0, .int .i64 0, .int .i64 0, .int .i64 0, .int .i64 0, .slice none 0 0, .int .i64 0, .int .i64 0, .int .i64 0, .int .i64 0, .slice none 0 0, .int .i64 cnt]

theorem own_slice {w : World} {base : Nat} {e : TypeId} {size : Nat} {v : Value} {n : Nat} {xs : List Value} (h : w.ownsRow base e size v n xs) : ∃ (a : Option Addr) (c : Nat), v = .slice a n c := by
  rcases h.2 with ⟨h1, h2⟩ | ⟨g, cap, cur, hv, _⟩
  · subst h2; exact ⟨none, 0, h1⟩
  · exact ⟨_, cap, hv⟩
set_option maxHeartbeats 1000000 in
theorem lengthOf_ok (v : Value) (base n len : Nat) (ps : List (Nat × Nat × Nat)) (w : World) (hn1 : 1 ≤ n) (hn2 : n ≤ 60) (hl : ps.length = n) (hv : w.ownsRow base 33 1 v n (Sh.sv len ps)) :
    Calls Try.prog 42 #[v] w fun e w' => e = .returned (.tuple #[.int .i64 len, .bool true]) ∧ w' = w := by
  obtain ⟨g, cap, rfl, _, hg, hcp, hcells⟩ := own_form hv hn1
  have HCC := hide hcells
  have HL := hide hl
  clear hcells hl hv
  go_enter Try.func42, Try.ntmps42
  go_wp2
  go_loop [4, 5, 6, 9] (fun len' _ _ i' => ∃ k : Nat, k ≤ n ∧ i' = .int .i64 k ∧ len' = .int .i64 (if k = 0 then 0 else (len : Int))) (fun _ _ _ i => n - (intOf i).toNat)
  case atStart => exact ⟨0, Nat.zero_le _, rfl, rfl⟩
  case round =>
    obtain ⟨k, hk, rfl, rfl⟩ := hrel
    by_cases hlt : k < n
    · obtain ⟨p, hp⟩ : ∃ p, ps[k]? = some p := ⟨_, List.getElem?_eq_getElem (by rw [HL.out]; exact hlt)⟩
      have hck := HCC.out k _ (Sh.sv_get hp)
      clear hp
      by_cases hk0 : k = 0
      · subst hk0
        simp only [if_true]
        go_wp2
        go_round
        case rel => exact ⟨1, by omega, by go_num, by simp⟩
        case measure => simp [intOf]; omega
      · simp only [if_neg hk0]
        go_wp2
        go_round
        case rel => exact ⟨k + 1, by omega, by go_num, by simp⟩
        case measure => simp [intOf]; omega
    · have hkn : k = n := by omega
      subst hkn
      have hk0 : ¬ k = 0 := by omega
      simp only [if_neg hk0]
      go_wp2
      go_ret2
      exact ⟨rfl, rfl⟩
set_option maxHeartbeats 1000000 in
theorem firstLeft0_ok (v : Value) (base n len : Nat) (ps : List (Nat × Nat × Nat)) (w : World) (hn1 : 1 ≤ n) (hn2 : n ≤ 20) (hl : ps.length = n) (hv : w.ownsRow base 33 1 v n (Sh.sv len ps)) :
    Calls Try.prog 41 #[v, .int .i64 0, .int .i64 n] w fun e w' => ∃ v', e = .returned v' ∧ w'.ownsRow w.heap.size 33 1 v' n (Sh.sv len ps) ∧ Below w.heap.size w w' := by
  obtain ⟨i0, hi, hz0, hz1, hz2⟩ := info_parts Try.infoSl
  obtain ⟨g, cap, rfl, _, hg, hcp, hcells⟩ := own_form hv hn1
  have HCC := hide hcells
  have HL := hide hl
  clear hcells hl hv
  go_enter Try.func41, Try.ntmps41
  go_wp2
  go_loopw [7, 8, 9, 13] (fun s _ _ i wr => ∃ k : Nat, k ≤ n ∧ i = .int .i64 k ∧ wr.ownsRow w.heap.size 33 1 s k (Sh.sv len (ps.take k)) ∧ Below w.heap.size w wr) (fun _ _ _ i _ => n - (intOf i).toNat)
  case atStart => exact ⟨0, Nat.zero_le _, rfl, own_empty rfl (Nat.le_refl _), (Below.refl _ _).alloc (Nat.le_refl _) _⟩
  case round =>
    obtain ⟨k, hk, rfl, hown, hbl⟩ := hrel
    have hsr := hbl.size
    obtain ⟨sa, sc, rfl⟩ := own_slice hown
    by_cases hlt : k < n
    · have HI := hide (fun w => isLost0 k w (by omega))
      have hkp : k < ps.length := by rw [HL.out]; exact hlt
      have hck := (hbl.cell (p := ⟨g, k, none⟩) hg).trans (HCC.out k _ (Sh.sv_get (List.getElem?_eq_getElem hkp)))
      have HN := hide (show Sh.sv len (ps.take (k + 1)) = Sh.sv len (ps.take k) ++ [.slice (some ⟨(ps[k]).1, (ps[k]).2.1, none⟩) len (ps[k]).2.2] by rw [List.take_succ_eq_append_getElem hkp, Sh.sv_append]; rfl)
      generalize ps[k] = p0 at *
      go_wp2_with (first | (go_at_call 56; refine (HI.out _).mono ?_; rintro e w1 ⟨rfl, rfl⟩) | (at_builtin; refine append1x _ rfl (.tmp 28) (.tmp 30) 32 rfl w.heap.size 33 i0 (.slice none 0 0) 1 24 Try.underlying32 hi hz0 hz1 hz2 rfl (by decide) (by decide) _ _ _ _ rfl hown rfl rfl (by simp; rfl) (by omega) (by omega) ?_; intro v3 w3 hown3 hb3 hg3 hf3))
      go_roundw
      case rel => exact ⟨k + 1, by omega, by go_num, by rw [HN.out]; exact hown3, hbl.trans hb3⟩
      case measure => simp [intOf]; omega
    · have hkn : k = n := by omega
      subst hkn
      rw [List.take_of_length_le (by rw [HL.out]; exact Nat.le_refl _)] at hown
      go_wp2
      go_ret
      exact ⟨_, rfl, hown, hbl⟩
set_option maxHeartbeats 1000000 in
theorem fit_ok (cb : Nat) (v : Value) (base n size : Nat) (ps : List (Nat × Nat × Nat)) (kind : Int) (K M : Nat) (N gd : Int) (w : World) (h : Sh.Ok kind K M N gd) (hs1 : 1 ≤ size) (hs2 : size ≤ 48)
    (hn1 : 1 ≤ n) (hn2 : n ≤ 20) (hl : ps.length = n) (hv : w.ownsRow base 33 1 v n (Sh.sv (Sh.R kind N * size) ps)) (hcb : cb < w.heap.size)
    (c0 : w.cell? ⟨cb, 0, none⟩ = some (.int .i64 kind)) (c1 : w.cell? ⟨cb, 1, none⟩ = some (.int .i64 K)) (c2 : w.cell? ⟨cb, 2, none⟩ = some (.int .i64 M)) (c3 : w.cell? ⟨cb, 3, none⟩ = some (.int .i64 N)) (c4 : w.cell? ⟨cb, 4, none⟩ = some (.int .i64 gd))
    (hR1 : 1 ≤ Sh.R kind N) (hR2 : Sh.R kind N ≤ 6) :
    Calls Try.prog 24 #[.pointer (some ⟨cb, 0, none⟩), v, .int .i64 n, .int .i64 0] w fun e w' => e = .returned (.bool true) ∧ Below w.heap.size w w' := by
  have HR := hide (fun w => rows_ok kind K M N gd w h)
  have HFL := hide (firstLeft0_ok v base n (Sh.R kind N * size) ps w hn1 hn2 hl hv)
  obtain ⟨g, cap, rfl, _, hg, hcp, _⟩ := own_form hv hn1
  have HL := hide hl
  clear hl hv h
  generalize hR : Sh.R kind N = R at *
  clear hR
  have hRs : R * size ≤ 288 := by
    have : R * size ≤ 6 * 48 := Nat.mul_le_mul hR2 hs2
    omega
  have hRs1 : 1 ≤ R * size := Nat.mul_pos hR1 hs1
  have hmod : ((R * size : Nat) : Int) % (R : Int) = 0 := by rw [Int.natCast_mul]; exact Int.mul_emod_right _ _
  have hdiv : ((R * size : Nat) : Int) / (R : Int) = (size : Int) := by rw [Int.natCast_mul]; exact Int.mul_ediv_cancel_left _ (by omega)
  generalize hLn : R * size = Ln at *
  clear hLn
  have d48 : decide ((size : Int) ≤ 48) = true := by simp; omega
  go_enter Try.func24, Try.ntmps24
  go_wp2_with fail
  refine (HFL.out).mono ?_
  rintro e w1 ⟨v1, rfl, hown1, hb1⟩
  have HLn := hide (lengthOf_ok v1 _ n Ln ps w1 hn1 (by omega) HL.out hown1)
  clear hown1
  go_wp2_with fail
  refine (HLn.out).mono ?_
  rintro e w2 ⟨rfl, rfl⟩
  have hs1 := hb1.size
  have d0 := (hb1.cell (p := ⟨cb, 0, none⟩) hcb).trans c0
  have d1 := (hb1.cell (p := ⟨cb, 1, none⟩) hcb).trans c1
  have d2 := (hb1.cell (p := ⟨cb, 2, none⟩) hcb).trans c2
  have d3 := (hb1.cell (p := ⟨cb, 3, none⟩) hcb).trans c3
  have d4 := (hb1.cell (p := ⟨cb, 4, none⟩) hcb).trans c4
  clear c0 c1 c2 c3 c4
  go_wp2_with (go_at_call 23; refine (HR.out _).mono ?_; rintro e w3 ⟨rfl, hb3⟩)
  go_ret
  exact ⟨rfl, hb1.trans (hb3.mono hs1)⟩
end Go.Proofs.Ythhbpofcemoflab
