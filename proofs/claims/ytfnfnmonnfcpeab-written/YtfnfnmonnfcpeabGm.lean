import Derived.Test.YtfnfnmonnfcpeabGk
import Derived.Test.YtfnfnmonnfcpeabGf
import Derived.Test.YtfnfnmonnfcpeabGc
import Derived.Test.YtfnfnmonnfcpeabGg
import Derived.Test.YtfnfnmonnfcpeabGj
namespace Go.Proofs.Ytfnfnmonnfcpeab
open Go.RowKit
set_option maxRecDepth 20000
set_option maxHeartbeats 2000000 in
theorem program_ok (cb : Nat) (kind : Int) (K M : Nat) (N gd lev scr blk cac : Int) (q : Nat) (vl : Value) (w : World) (h : Sh.Ok kind K M N gd) (hP : Sh.Pb kind K M N gd) (hq : q < 2 ^ 20) (hq0 : q ≠ 0) (hlo1 : 1 ≤ (Sh.lo q (K + M)).length) (hlo : (Sh.lo q (K + M)).length ≤ M) (hc4 : cac ≤ 4) (hc : Sh.CS w cb kind K M N gd lev scr blk cac)
    (hpat : Calls Try.prog 43 #[.pointer (some ⟨cb, 0, none⟩), vl] w fun e w' => e = .returned (.tuple #[.int .i64 (q : Int), .int .i64 0]) ∧ Below w.heap.size w w') :
    Calls Try.prog 34 #[.pointer (some ⟨cb, 0, none⟩), vl] w fun e w' => e = .returned (.tuple #[.string (strOfNums (Sh.txt (K * Sh.R kind N) ((Sh.lo q (K + M)).length * Sh.R kind N) 0 (Sh.lprog kind K M N gd q))), .int .i64 0]) ∧ Sh.CC w' cb kind K M N gd blk ∧ w.grownBy w' (some cb) := by
  obtain ⟨hK, hM, h10, hR1, hR2, hKR, hMR, hPL⟩ := h.bounds
  have hll := Sh.lsums_len kind K M N gd q
  have hmR : (Sh.lo q (K + M)).length * Sh.R kind N ≤ 40 := Nat.le_trans (Nat.mul_le_mul_right _ hlo) hMR
  have hpp : 1 ≤ (Sh.lprog kind K M N gd q).length := Sh.plain_pos _ _ (by rw [hll]; exact Nat.mul_pos hlo1 hR1)
  have hpn : (Sh.lprog kind K M N gd q).length ≤ 2048 := by
    have := Sh.plA_len (K * Sh.R kind N) (Sh.lsums kind K M N gd q) hKR (Sh.lsums kind K M N gd q).length
    show (Sh.plA _ _ _).length ≤ 2048
    omega
  have hS : Sh.Snd (K * Sh.R kind N) ((Sh.lo q (K + M)).length * Sh.R kind N) 0 (Sh.lprog kind K M N gd q) := by
    have := Sh.plain_snd (K * Sh.R kind N) (Sh.lsums kind K M N gd q)
    rw [hll] at this
    exact this
  have HW := hide (fun (wx : World) (hx : Below w.heap.size w wx) => wantq_any cb kind K M N gd lev scr blk cac q wx h hP hq hq0 hlo1 hlo hc4 (hc.below hx))
  have HT := hide (fun (wx : World) (go co : Nat) (ho : wx.ownsRow 0 91 3 (.slice (some ⟨go, 0, none⟩) (Sh.lprog kind K M N gd q).length co) (Sh.lprog kind K M N gd q).length (Sh.opCells (Sh.lprog kind K M N gd q))) => text_ok (K * Sh.R kind N) ((Sh.lo q (K + M)).length * Sh.R kind N) 0 (Sh.lprog kind K M N gd q) 0 go co wx hKR hmR (Nat.zero_le _) hpp hpn hS ho)
  have HPat := hide hpat
  clear h hP hc hpat hS hll hpp hpn hPL
  generalize Sh.lprog kind K M N gd q = pr at *
  generalize K * Sh.R kind N = Gn at *
  generalize (Sh.lo q (K + M)).length * Sh.R kind N = On at *
  generalize strOfNums (Sh.txt Gn On 0 pr) = st at *
  go_enter Try.func34, Try.ntmps34
  go_wp2_with fail
  refine HPat.out.mono ?_
  rintro e w1 ⟨rfl, hb1⟩
  go_wp2_with fail
  refine (HW.out _ hb1).mono ?_
  rintro e w2 ⟨go, co, rfl, ho2, hcc2, hg2⟩
  have HCC := hide hcc2
  have HT2 := hide (fun (o : Obj) => HT.out (w2.alloc o) go co (ho2.alloc o))
  have hG2 := grown_trans (grown_of hb1 (some cb)) hg2
  clear ho2 hcc2
  go_wp2_with (go_at_call 47; refine (HT2.out _).mono ?_; rintro e w3 ⟨rfl, hb3⟩)
  go_ret2
  exact ⟨rfl, (HCC.out.below ((Below.refl _ _).alloc (Nat.le_refl _) _)).below hb3, grown_below (grown_alloc hG2 _) hb3⟩
end Go.Proofs.Ytfnfnmonnfcpeab
namespace Go.Proofs.Ytfnfnmonnfcpeab
open Go.RowKit
set_option maxRecDepth 20000
set_option maxHeartbeats 2000000 in
theorem same60_ok (K n : Nat) (va vb : Value) (ba bb : Nat) (pa pb : List (Nat × Nat × Nat)) (X : List (List Int)) (w : World) (hK : 1 ≤ K) (hK9 : K ≤ 60) (hda : Sh.Dat w ba 33 va n pa X) (hdb : Sh.Dat w bb 33 vb n pb X) (hpa : pa.length = K) (hpb : pb.length = K) :
    Calls Try.prog 31 #[va, vb] w fun e w' => e = .returned (.bool true) ∧ ∃ q, w' = w.drewN q := by
  have hra := hda.row
  rw [hpa] at hra
  obtain ⟨ga, capa, rfl, _, hga, hcapa, hcella⟩ := own_form hra hK
  have hrb := hdb.row
  rw [hpb] at hrb
  obtain ⟨gb, capb, rfl, _, hgb, hcapb, hcellb⟩ := own_form hrb hK
  have HA := hide (fun (wx : World) (hb : Below w.heap.size w wx) => hda.below hb)
  have HB := hide (fun (wx : World) (hb : Below w.heap.size w wx) => hdb.below hb)
  have HPA := hide hpa
  have HPB := hide hpb
  have HXL := hide (show X.length = K by rw [hda.lens, hpa])
  have HCA := hide hcella
  have HCB := hide hcellb
  clear hda hdb hpa hpb hra hrb hcella hcellb
  go_enter Try.func31, Try.ntmps31
  go_wp2
  go_loopw [5] (fun i wr => ∃ k : Nat, k ≤ K ∧ i = .int .i64 k ∧ ∃ q, wr = w.drewN q) (fun i _ => K - (intOf i).toNat)
  case atStart => exact ⟨0, Nat.zero_le _, rfl, 0, rfl⟩
  case round =>
    obtain ⟨k, hk, rfl, q, rfl⟩ := hrel
    by_cases hlk : k < K
    · obtain ⟨x, hx⟩ : ∃ x, X[k]? = some x := ⟨_, List.getElem?_eq_getElem (by rw [HXL.out]; exact hlk)⟩
      obtain ⟨p, hp⟩ : ∃ p, pa[k]? = some p := ⟨_, List.getElem?_eq_getElem (by rw [HPA.out]; exact hlk)⟩
      obtain ⟨r, hr⟩ : ∃ r, pb[k]? = some r := ⟨_, List.getElem?_eq_getElem (by rw [HPB.out]; exact hlk)⟩
      have z1 : w.cell? ⟨ga, k, none⟩ = some (.slice (some ⟨p.1, p.2.1, none⟩) n p.2.2) := HCA.out k _ (Sh.sv_get hp)
      have z2 : w.cell? ⟨gb, k, none⟩ = some (.slice (some ⟨r.1, r.2.1, none⟩) n r.2.2) := HCB.out k _ (Sh.sv_get hr)
      have c1 := fun m => dat_conv (HA.out (w.drewN m) (below_drewN w m)) hp hx
      have c2 := fun m => dat_conv (HB.out (w.drewN m) (below_drewN w m)) hr hx
      clear hx hp hr
      go_wp2
      go_quiet (fail)
      go_wp2
      go_roundw
      case rel => exact ⟨k + 1, by omega, by go_num, _, rfl⟩
      case measure => simp [intOf]; omega
    · have hkK : k = K := by omega
      subst hkK
      go_wp2
      go_ret
      exact ⟨rfl, q, rfl⟩
set_option maxHeartbeats 1000000 in
theorem cut_ok (v : Value) (base K R size : Nat) (ps : List (Nat × Nat × Nat)) (w : World) (hK : 1 ≤ K) (hK' : K ≤ 20) (hR : 1 ≤ R) (hR' : R ≤ 8) (hs1 : 1 ≤ size) (hs2 : size ≤ 48) (hl : ps.length = K)
    (hcap : ∀ p ∈ ps, R * size ≤ p.2.2 ∧ p.2.2 ≤ maxLen) (hv : w.ownsRow base 33 1 v K (Sh.sv (R * size) ps)) :
    Calls Try.prog 35 #[v, .int .i64 R] w
      fun e w' => ∃ v', e = .returned v' ∧ w'.ownsRow w.heap.size 33 1 v' (K * R) (Sh.sv size (Sh.cutAll size R ps)) ∧ Below w.heap.size w w' := by
  obtain ⟨i0, hi, hz0, hz1, hz2⟩ := info_parts Try.infoSl
  obtain ⟨g, cap, rfl, _, hg, hcp, hcells⟩ := own_form hv hK
  have HCC := hide hcells
  have HCAP := hide hcap
  have HL := hide hl
  clear hcells hcap hl hv
  go_enter Try.func35, Try.ntmps35
  go_wp2
  go_loopw [5, 6, 7, 8, 9] (fun v i' _ _ _ wr => ∃ k : Nat, k ≤ K ∧ i' = .int .i64 k ∧ wr.ownsRow w.heap.size 33 1 v (k * R) (Sh.sv size (Sh.cutAll size R (ps.take k))) ∧ Below w.heap.size w wr) (fun _ i _ _ _ _ => K - (intOf i).toNat)
  case atStart => exact ⟨0, Nat.zero_le _, rfl, by simp only [Nat.zero_mul]; exact World.ownsRow_nil _ _ _ _, Below.refl _ _⟩
  case round =>
    obtain ⟨k, hk, rfl, hown, hbl⟩ := hrel
    have hsw := hbl.size
    by_cases hlt : k < K
    · have hlp : k < ps.length := by rw [HL.out]; exact hlt
      have hck := (hbl.cell (p := ⟨g, k, none⟩) hg).trans (HCC.out k _ (Sh.sv_get (List.getElem?_eq_getElem hlp)))
      have hcp2 := HCAP.out ps[k] (List.getElem_mem _)
      have HS := hide (List.take_succ_eq_append_getElem hlp)
      have HGet := hide (HCC.out k _ (Sh.sv_get (List.getElem?_eq_getElem hlp)))
      generalize hp0 : ps[k] = p0 at *
      clear hp0
      obtain ⟨pg, po, pc⟩ := p0
      simp only at hck hcp2 HGet
      unfold maxLen at hcp2
      have hkR : k * R ≤ 160 := by
        have : k * R ≤ 20 * 8 := Nat.mul_le_mul (by omega) hR'
        omega
      have hRs : R * size ≤ 384 := by
        have : R * size ≤ 8 * 48 := Nat.mul_le_mul hR' hs2
        omega
      have hdiv : (R : Int) * (size : Int) / (R : Int) = (size : Int) := Int.mul_ediv_cancel_left _ (by omega)
      go_wp2
      rw [hdiv]
      clear hdiv
      go_loopw [5, 8, 9] (fun v i' _ wr => ∃ r : Nat, r ≤ R ∧ i' = .int .i64 r ∧ wr.ownsRow w.heap.size 33 1 v (k * R + r) (Sh.sv size (Sh.cutAll size R (ps.take k) ++ Sh.cutOne size r (pg, po, pc))) ∧ Below w.heap.size w wr) (fun _ i _ _ => R - (intOf i).toNat)
      case atStart => exact ⟨0, Nat.zero_le _, rfl, by simpa [Sh.cutOne] using hown, hbl⟩
      case round =>
        clear hck hown hbl hsw
        obtain ⟨r, hr, rfl, hown, hbl⟩ := hrel
        have hsw := hbl.size
        have hck := (hbl.cell (p := ⟨g, k, none⟩) hg).trans HGet.out
        by_cases hlr : r < R
        · have hrs : r * size + size ≤ R * size := by
            have : (r + 1) * size ≤ R * size := Nat.mul_le_mul_right _ hlr
            rw [Nat.add_mul, Nat.one_mul] at this
            exact this
          have hne : ¬ pc = r * size := by omega
          have hle : r * size ≤ pc := by omega
          go_wp2_with (at_builtin; refine append1x _ rfl (.tmp 28) (.tmp 42) 32 rfl w.heap.size 33 i0 (.slice none 0 0) 1 24 Try.underlying32 hi hz0 hz1 hz2 rfl (by decide) (by decide) _ _ _ _ rfl hown rfl rfl (by simp; rfl) (by omega) (by omega) ?_; intro v' w3 hown3 hb3 hg3 hf3)
          go_roundw
          case rel => exact ⟨r + 1, by omega, by go_num, by rw [Sh.cutOne_succ, ← List.append_assoc, Sh.sv_append]; exact hown3, hbl.trans hb3⟩
          case measure => simp [intOf]; omega
        · have hrR : r = R := by omega
          subst hrR
          go_wp2
          go_roundw
          case rel => exact ⟨k + 1, by omega, by go_num, by rw [HS.out, Sh.cutAll_snoc, Nat.add_mul, Nat.one_mul]; exact hown, hbl⟩
          case measure => simp [intOf]; omega
    · have hkK : k = K := by omega
      subst hkK
      go_wp2
      go_ret
      exact ⟨_, rfl, by rw [List.take_of_length_le (by rw [HL.out]; exact Nat.le_refl _)] at hown; exact hown, hbl⟩
end Go.Proofs.Ytfnfnmonnfcpeab
namespace Go.Proofs.Ytfnfnmonnfcpeab
open Go.RowKit
set_option maxRecDepth 20000
theorem own_kept_ge {w w' : World} {base cb : Nat} {e : TypeId} {size : Nat} {v : Value} {n : Nat} {xs : List Value} (h : w.ownsRow base e size v n xs) (hg : w.grownBy w' (some cb)) (hcb : cb < base) : w'.ownsRow base e size v n xs := by
  refine h.kept hg ?_
  rcases h.2 with ⟨rfl, _⟩ | ⟨g, cap, cur, rfl, hb, _⟩
  · exact Or.inl rfl
  · right
    intro e
    simp [Value.ownBlock] at e
    omega
namespace Sh
theorem sorted_eq : ∀ (a b : List Nat), a.Pairwise (· < ·) → b.Pairwise (· < ·) → (∀ x, x ∈ a ↔ x ∈ b) → a = b
  | [], [], _, _, _ => rfl
  | [], y :: b, _, _, h => absurd ((h y).2 (by simp)) (by simp)
  | x :: a, [], _, _, h => absurd ((h x).1 (by simp)) (by simp)
  | x :: a, y :: b, ha, hb, h => by
    rw [List.pairwise_cons] at ha hb
    have hxy : x = y := by
      have h1 := (h x).1 (by simp)
      have h2 := (h y).2 (by simp)
      rw [List.mem_cons] at h1 h2
      rcases h1 with h1 | h1
      · exact h1
      · rcases h2 with h2 | h2
        · exact h2.symm
        · have := hb.1 x h1
          have := ha.1 y h2
          omega
    subst hxy
    rw [sorted_eq a b ha.2 hb.2 ?_]
    intro z
    constructor
    · intro hz
      have := (h z).1 (by simp [hz])
      rw [List.mem_cons] at this
      rcases this with e | e
      · have := ha.1 z hz; omega
      · exact e
    · intro hz
      have := (h z).2 (by simp [hz])
      rw [List.mem_cons] at this
      rcases this with e | e
      · have := hb.1 z hz; omega
      · exact e
theorem lo_sorted (q s : Nat) : (lo q s).Pairwise (· < ·) := by
  induction s with
  | zero => exact List.Pairwise.nil
  | succ s ih =>
    simp only [lo]
    split
    · rw [List.pairwise_append]
      refine ⟨ih, List.pairwise_singleton _ _, ?_⟩
      intro a ha b hb
      rw [List.mem_singleton] at hb
      subst hb
      exact (lo_lt a ha).1
    · exact ih
theorem eq_lo {q n : Nat} {l : List Nat} (hp : l.Pairwise (· < ·)) (hl : ∀ i ∈ l, i < n) (hb : ∀ i, q.testBit i = true ↔ i ∈ l) : l = lo q n := by
  refine sorted_eq _ _ hp (lo_sorted q n) ?_
  intro x
  constructor
  · intro hx
    exact List.mem_of_getElem? (lo_get (hl x hx) ((hb x).2 hx))
  · intro hx
    exact (hb x).1 (lo_lt x hx).2
theorem cut_caps {R size : Nat} {ps : List (Nat × Nat × Nat)} (h : ∀ p ∈ ps, R * size ≤ p.2.2 ∧ p.2.2 ≤ maxLen) : ∀ p ∈ cutAll size R ps, size ≤ p.2.2 ∧ p.2.2 ≤ maxLen := by
  intro p hp
  simp only [cutAll, List.mem_flatMap, cutOne, List.mem_map, List.mem_range] at hp
  obtain ⟨p0, h0, q, hq, rfl⟩ := hp
  have := h p0 h0
  have hq1 : (q + 1) * size ≤ R * size := Nat.mul_le_mul_right _ hq
  rw [Nat.add_mul, Nat.one_mul] at hq1
  simp only
  omega
end Sh
/-- shards that are cut, as rows -/
theorem cut_dat {w w' : World} {base base' : Nat} {v v' : Value} {R size : Nat} {ps : List (Nat × Nat × Nat)} {X : List (List Int)} (h : Sh.Dat w base 33 v (R * size) ps X) (hb : Below w.heap.size w w') (hr : w'.ownsRow base' 33 1 v' (ps.length * R) (Sh.sv size (Sh.cutAll size R ps))) : Sh.Dat w' base' 33 v' size (Sh.cutAll size R ps) (Sh.rowsD R size X) := by
  have hd := h.below hb
  have hXl : ∀ (j : Nat) (x : List Int), X[j]? = some x → x.length = R * size := fun j x hx => by
    obtain ⟨p, hp⟩ : ∃ p, ps[j]? = some p := ⟨_, List.getElem?_eq_getElem (by rw [← h.lens]; exact (List.getElem?_eq_some_iff.1 hx).1)⟩
    exact (h.each j p x hp hx).1
  refine ⟨by rw [Sh.cutAll_len]; exact hr, by rw [Sh.rowsD_len, Sh.cutAll_len, h.lens], Sh.cut_caps h.caps, Sh.cut_lt hd, fun j p x hp hx => ⟨Sh.rowsD_each hXl j x hx, hd.rows j p x hp hx⟩⟩
/-- shards that were picked out of others -/
theorem pick_dat {w w' : World} {base base' : Nat} {v v' : Value} {n : Nat} {ps : List (Nat × Nat × Nat)} {X : List (List Int)} {l : List Nat} (h : Sh.Dat w base 33 v n ps X) (hb : Below w.heap.size w w') (hl : ∀ i ∈ l, i < ps.length) (hr : w'.ownsRow base' 33 1 v' l.length (Sh.sv n (l.map fun i => ps.getD i (0, 0, 0)))) : Sh.Dat w' base' 33 v' n (l.map fun i => ps.getD i (0, 0, 0)) (Sh.pick' X l) := by
  refine Sh.Dat.mk' (by rw [List.length_map]; exact hr) (by simp [Sh.pick']) ?_
  intro j p x hp hx
  unfold Sh.pick' at hx
  rw [List.getElem?_map, Option.map_eq_some_iff] at hp hx
  obtain ⟨t, ht, rfl⟩ := hp
  obtain ⟨t', ht', rfl⟩ := hx
  rw [ht] at ht'
  injection ht' with ht'
  subst ht'
  have htl := hl t (List.mem_of_getElem? ht)
  have e1 : ps[t]? = some (ps.getD t (0, 0, 0)) := by rw [List.getD_eq_getElem?_getD, List.getElem?_eq_getElem htl]; rfl
  have e2 : X[t]? = some (X.getD t []) := by rw [List.getD_eq_getElem?_getD, List.getElem?_eq_getElem (by rw [h.lens]; exact htl)]; rfl
  exact (Sh.One.of h e1 e2).below hb
/-- registers that came out, as shards that are read -/
theorem regs_dat {w : World} {base : Nat} {v : Value} {size : Nat} {bs : List Nat} {X : List (List Int)} (hs : size ≤ 48) (hr : w.ownsRow base 33 1 v bs.length (bs.map fun b => Value.slice (some ⟨b, 0, none⟩) size size)) (hl : X.length = bs.length) (hX : ∀ (j : Nat) (x : List Int), X[j]? = some x → x.length = size)
    (hc : ∀ (j b : Nat) (x : List Int), bs[j]? = some b → X[j]? = some x → w.heap[b]? = some (.cells (x.map (Value.int .u8)).toArray 5 (0, 0))) : Sh.Dat w base 33 v size (bs.map fun b => (b, 0, size)) X := by
  refine Sh.Dat.mk' (by rw [List.length_map]; unfold Sh.sv; rw [List.map_map]; exact hr) (by rw [List.length_map]; exact hl) ?_
  intro j p x hp hx
  rw [List.getElem?_map, Option.map_eq_some_iff] at hp
  obtain ⟨b, hb, rfl⟩ := hp
  have h1 := hc j b x hb hx
  refine ⟨⟨Nat.le_refl _, by simp only [maxLen]; omega⟩, blk_lt h1, hX j x hx, ?_⟩
  intro i u hi
  simp only [Nat.zero_add]
  exact blk_cell h1 (by simp [hi])
end Go.Proofs.Ytfnfnmonnfcpeab
