import Derived.Test.YthhbpofcemoflabK3
namespace Go.Proofs.Ythhbpofcemoflab
open Go.RowKit
set_option maxRecDepth 20000
theorem Sh.gl_ok0 : ∀ t ∈ Sh.gl, Sh.Ok0 t.1 t.2.1 t.2.2.1 t.2.2.2.1 t.2.2.2.2.1 := by
  intro t ht
  simp only [Sh.gl, List.mem_cons, List.not_mem_nil, or_false] at ht
  rcases ht with rfl | rfl | rfl | rfl | rfl | rfl | rfl | rfl | rfl | rfl | rfl
  · exact Or.inr ⟨2, rfl, by decide, by decide, by decide, by decide⟩
  · exact Or.inr ⟨4, rfl, by decide, by decide, by decide, by decide⟩
  · exact Or.inr ⟨2, rfl, by decide, by decide, by decide, by decide⟩
  · exact Or.inr ⟨4, rfl, by decide, by decide, by decide, by decide⟩
  · exact Or.inr ⟨2, rfl, by decide, by decide, by decide, by decide⟩
  · exact Or.inr ⟨4, rfl, by decide, by decide, by decide, by decide⟩
  · exact Or.inl ⟨2, rfl, rfl, by decide, by decide, by decide, by decide, by decide, by decide, by decide⟩
  · exact Or.inl ⟨3, rfl, rfl, by decide, by decide, by decide, by decide, by decide, by decide, by decide⟩
  · exact Or.inl ⟨3, rfl, rfl, by decide, by decide, by decide, by decide, by decide, by decide, by decide⟩
  · exact Or.inl ⟨4, rfl, rfl, by decide, by decide, by decide, by decide, by decide, by decide, by decide⟩
  · exact Or.inl ⟨4, rfl, rfl, by decide, by decide, by decide, by decide, by decide, by decide, by decide⟩
set_option maxRecDepth 100000 in
theorem Sh.gl_pbk : ∀ t ∈ Sh.gl, Sh.pbk t.1 t.2.1 t.2.2.1 t.2.2.2.1 t.2.2.2.2.1 = true := by decide +kernel
theorem Sh.gl_ok : ∀ t ∈ Sh.gl, Sh.Ok t.1 t.2.1 t.2.2.1 t.2.2.2.1 t.2.2.2.2.1 := fun t ht => Sh.Ok.of (Sh.gl_ok0 t ht) (Sh.gl_pbk t ht)
/-- shards that are read, each in a block of bytes -/
structure Sh.DB (w : World) (base : Nat) (v : Value) (n : Nat) (ps : List (Nat × Nat × Nat)) (X : List (List Int)) : Prop where
  dat : Sh.Dat w base 33 v n ps X
  blk : ∀ p ∈ ps, ∃ C f, w.heap[p.1]? = some (.cells C 5 f)
  ge : ∀ p ∈ ps, base ≤ p.1
/-- behind 'd = append(d, []byte(..))' -/
theorem Sh.DB.push {w wa w' : World} {base : Nat} {v v' : Value} {n c : Nat} {ps : List (Nat × Nat × Nat)} {X : List (List Int)} {x : List Int} {C : Array Value} {f : Nat × Nat} (h : Sh.DB w base v n ps X)
    (ha : Below w.heap.size w wa) (hC : wa.heap[w.heap.size]? = some (.cells C 5 f)) (hx : x.length = n) (hcx : ∀ (i : Nat) (b : Int), x[i]? = some b → C[i]? = some (.int .u8 b)) (hc : n ≤ c ∧ c ≤ maxLen) (hbs : base ≤ w.heap.size)
    (hrow : w'.ownsRow base 33 1 v' (ps.length + 1) (Sh.sv n ps ++ [.slice (some ⟨w.heap.size, 0, none⟩) n c])) (hg : wa.grownBy w' v.ownBlock) :
    Sh.DB w' base v' n (ps ++ [(w.heap.size, 0, c)]) (X ++ [x]) := by
  have hvb : ∀ p ∈ ps, v.ownBlock ≠ some p.1 := by
    intro p hp e
    obtain ⟨C', f', hb⟩ := h.blk p hp
    rcases h.dat.row.2 with ⟨rfl, _⟩ | ⟨g, cap, cur, rfl, _, hgg, _⟩
    · cases e
    · simp [Value.ownBlock] at e
      subst e
      rw [hgg] at hb
      injection hb with hb
      injection hb with _ hb _
      exact absurd hb (by decide)
  have hvn : v.ownBlock ≠ some w.heap.size := fun e => by have := (h.dat.row.lt _ e).2; omega
  have hold : ∀ p ∈ ps, w'.heap[p.1]? = w.heap[p.1]? := fun p hp => (hg.block p.1 (Nat.lt_of_lt_of_le (h.dat.lt p hp) ha.size) (fun e => hvb p hp e.symm)).trans (ha.block p.1 (h.dat.lt p hp))
  have hnew : w'.heap[w.heap.size]? = some (.cells C 5 f) := (hg.block w.heap.size (blk_lt hC) (fun e => hvn e.symm)).trans hC
  refine ⟨⟨by rw [Sh.sv_append, List.length_append]; exact hrow, by simp [h.dat.lens], ?_, ?_, ?_⟩, ?_, ?_⟩
  · intro p hp
    rw [List.mem_append] at hp
    rcases hp with hp | hp
    · exact h.dat.caps p hp
    · simp at hp; subst hp; exact hc
  · intro p hp
    rw [List.mem_append] at hp
    rcases hp with hp | hp
    · exact Nat.lt_of_lt_of_le (h.dat.lt p hp) (Nat.le_trans ha.size hg.size)
    · simp at hp; subst hp; exact blk_lt hnew
  · intro j p y hp hy
    rw [List.getElem?_append] at hp hy
    rw [h.dat.lens] at hy
    by_cases c1 : j < ps.length
    · rw [if_pos c1] at hp hy
      obtain ⟨h1, h2⟩ := h.dat.each j p y hp hy
      exact ⟨h1, fun i b hb => (World.cell?_of_block (w := w) (hold p (List.mem_of_getElem? hp))).trans (h2 i b hb)⟩
    · rw [if_neg c1] at hp hy
      have hj : j - ps.length = 0 := by
        have := (List.getElem?_eq_some_iff.1 hp).1
        simp at this
        omega
      rw [hj] at hp hy
      simp at hp hy
      subst hp
      subst hy
      exact ⟨hx, fun i b hb => by rw [Nat.zero_add]; exact blk_cell hnew (hcx i b hb)⟩
  · intro p hp
    rw [List.mem_append] at hp
    rcases hp with hp | hp
    · obtain ⟨C', f', hb⟩ := h.blk p hp
      exact ⟨C', f', (hold p hp).trans hb⟩
    · simp at hp; subst hp; exact ⟨C, f, hnew⟩
  · intro p hp
    rw [List.mem_append] at hp
    rcases hp with hp | hp
    · exact h.ge p hp
    · simp at hp; subst hp; exact hbs

theorem chunk_cells (dd : List UInt8) (R j cap : Nat) (h : j * R + R ≤ dd.length) (i : Nat) (b : Int) (hb : (Sh.chunk R dd j)[i]? = some b) : (bytesRow ((⟨dd.toArray⟩ : ByteArray).extract (j * R) (j * R + R)) cap)[i]? = some (.int .u8 b) := by
  have hi : i < R := by
    have := (List.getElem?_eq_some_iff.1 hb).1
    simp [Sh.chunk] at this
    omega
  have e : ((⟨dd.toArray⟩ : ByteArray).extract (j * R) (j * R + R)).data = ((dd.drop (j * R)).take R).toArray := by
    rw [ByteArray.data_extract]
    simp
  unfold bytesRow
  rw [e, Array.getElem?_append_left (by simp; omega)]
  simp only [Sh.chunk, List.getElem?_map, Option.map_eq_some_iff] at hb
  obtain ⟨c, hc, rfl⟩ := hb
  simp only [Array.getElem?_map, List.getElem?_toArray, hc, Option.map_some]
theorem chunk_len (dd : List UInt8) (R j : Nat) (h : j * R + R ≤ dd.length) : (Sh.chunk R dd j).length = R := by
  simp [Sh.chunk]
  omega

theorem str_append (a b : List Int) : strOfNums a ++ strOfNums b = strOfNums (a ++ b) := by
  apply ByteArray.ext
  simp [strOfNums]
theorem str_back (pp : List UInt8) : strOfNums (pp.map fun b => (b.toNat : Int)) = ⟨pp.toArray⟩ := by
  apply ByteArray.ext
  simp [strOfNums, Function.comp_def]

set_option maxHeartbeats 2000000 in
theorem known_any (c : Int) (w : World) (hl : -9223372036854775808 ≤ c) : Calls Try.prog 3 #[.int .i64 c] w fun e w' => e = .returned (.bool true) ∧ Below w.heap.size w w' := by
  have HP := hide (fun w => pick_any c 11 w hl (by decide))
  obtain ⟨i0, hi, hz0, hz1, hz2⟩ := info_parts Try.infoSl
  go_enter Try.func3, Try.ntmps3
  go_wp2_with fail
  refine (golds_any _).mono ?_
  rintro e w1 ⟨g, rfl, hg, hb1⟩
  go_wp2_with fail
  refine (HP.out _).mono ?_
  rintro e w1' ⟨r, rfl, hr, hw1⟩
  subst hw1
  have hr11 : r < 11 := by omega
  obtain ⟨t, ht⟩ : ∃ t, Sh.gl[r]? = some t := ⟨_, List.getElem?_eq_getElem (by simpa [Sh.gl] using hr11)⟩
  have htm := List.mem_of_getElem? ht
  have hOk := Sh.gl_ok t htm
  obtain ⟨hdl, hpar⟩ := Sh.gl_nums t htm
  have hcell : ∀ i, i < 7 → w1'.cell? ⟨g, r * 7 + i, none⟩ = [Value.int .i64 t.1, .int .i64 t.2.1, .int .i64 t.2.2.1, .int .i64 t.2.2.2.1, .int .i64 t.2.2.2.2.1, .string ⟨t.2.2.2.2.2.1.toArray⟩, .string ⟨t.2.2.2.2.2.2.toArray⟩][i]? := fun i hi => by
    have h7 := Sh.seven_get ht i hi
    have e : Sh.glCells = Sh.seven Sh.gl := rfl
    rw [← h7]
    simp [World.cell?, hg, e]
  obtain ⟨kind, K, M, N, gd, dd, pp⟩ := t
  simp only at hOk hdl hpar hcell
  have k0 : w1'.cell? ⟨g, r * 7, none⟩ = some (.int .i64 kind) := hcell 0 (by decide)
  have k1 : w1'.cell? ⟨g, r * 7 + 1, none⟩ = some (.int .i64 K) := hcell 1 (by decide)
  have k2 : w1'.cell? ⟨g, r * 7 + 2, none⟩ = some (.int .i64 M) := hcell 2 (by decide)
  have k3 : w1'.cell? ⟨g, r * 7 + 3, none⟩ = some (.int .i64 N) := hcell 3 (by decide)
  have k4 : w1'.cell? ⟨g, r * 7 + 4, none⟩ = some (.int .i64 gd) := hcell 4 (by decide)
  have k5 : w1'.cell? ⟨g, r * 7 + 5, none⟩ = some (.string ⟨dd.toArray⟩) := hcell 5 (by decide)
  have k6 : w1'.cell? ⟨g, r * 7 + 6, none⟩ = some (.string ⟨pp.toArray⟩) := hcell 6 (by decide)
  have HPar := hide hpar
  have HOk := hide hOk
  have HDl := hide hdl
  clear hcell ht htm hpar hdl hOk hg
  go_wp2_with fail
  refine (best_ok kind K M N gd _ HOk.out).mono ?_
  rintro e w2 ⟨cb, rfl, hcb, hco, hb2⟩
  obtain ⟨hK, hM, h10, hR1, hR2, hKR, hMR, hPL⟩ := HOk.out.bounds
  have hkb := hb2.block w1'.heap.size (by simp)
  have hkv := hkb.trans (heap_alloc_new w1' _)
  have Hkv := hide hkv
  have hcbz := blk_lt hco
  have hkz := blk_lt hkv
  have HCS : Hid (Sh.CS w2 cb kind K M N gd 3 8 ((16 : Nat) : Int) 2) := Or.inl hco
  have hne1 : cb ≠ w1'.heap.size := by simp at hcb; omega
  have Hrow := hide (fun (wx : World) (hb : Below w2.heap.size w2 wx) => crows_ok cb kind K M N gd wx HOk.out (keepc hb hcbz 0 (blk_cell hco rfl)) (keepc hb hcbz 1 (blk_cell hco rfl)) (keepc hb hcbz 2 (blk_cell hco rfl)) (keepc hb hcbz 3 (blk_cell hco rfl)) (keepc hb hcbz 4 (blk_cell hco rfl)))
  have hlow : Below w.heap.size w w2 := (hb1.trans ((((Below.refl w1'.heap.size w1').alloc (Nat.le_refl _) _).mono hb1.size))).trans (hb2.mono (by have := hb1.size; simp; omega))
  have hcbw0 : w.heap.size ≤ cb := by have := hb1.size; simp at hcb; omega
  clear hco hkv hkb hcb hb2 hb1
  go_wp2_with fail
  refine (Hrow.out _ (Below.refl _ _)).mono ?_
  rintro e w3 ⟨rfl, hb3⟩
  generalize hR : Sh.R kind N = R at *
  have HR := hide hR
  clear hR
  have hs3 := hb3.size
  have HKV := hide (fun (wx : World) (hb : Below w3.heap.size w3 wx) => (hb.block w1'.heap.size (by omega)).trans ((hb3.block w1'.heap.size hkz).trans Hkv.out))
  have HCS3 := hide (Sh.CS.below HCS.out hb3)
  have hdl := HDl.out
  have hdlen : dd.length ≤ 48 := by rw [hdl]; exact hKR
  have hlow3 := hlow.trans (hb3.mono hlow.size)
  clear hb3 HCS Hrow Hkv hlow
  have HKR := hide (fun (j : Nat) (h : j < K) => (by
        have : (j + 1) * R ≤ K * R := Nat.mul_le_mul_right _ h
        rw [Nat.add_mul, Nat.one_mul, ← hdl] at this
        exact this : j * R + R ≤ dd.length))
  clear hdl
  go_wp2_with fail
  go_loopw [7, 8, 9] (fun v i' _ wr => ∃ (j : Nat) (ps : List (Nat × Nat × Nat)), j ≤ K ∧ i' = .int .i64 j ∧ ps.length = j ∧ Sh.DB wr w3.heap.size v R ps (Sh.chunks R dd j) ∧ Below w3.heap.size w3 wr) (fun _ i _ _ => K - (intOf i).toNat)
  case atStart => exact ⟨0, [], Nat.zero_le _, rfl, rfl, ⟨⟨World.ownsRow_nil _ _ _ _, rfl, by intro p hp; simp at hp, by intro p hp; simp at hp, by intro j p x hp; simp at hp⟩, by intro p hp; simp at hp, by intro p hp; simp at hp⟩, Below.refl _ _⟩
  case round =>
    obtain ⟨j, ps, hj, rfl, hpl, hdb, hbl⟩ := hrel
    have hkv := HKV.out _ hbl
    have q1 : wr.cell? ⟨w1'.heap.size, 1, none⟩ = some (.int .i64 K) := blk_cell hkv rfl
    have q5 : wr.cell? ⟨w1'.heap.size, 5, none⟩ = some (.string ⟨dd.toArray⟩) := blk_cell hkv rfl
    have hsw := hbl.size
    clear hkv
    by_cases hlt : j < K
    · have hjR := HKR.out j hlt
      have hdbr := hdb.dat.row
      rw [hpl] at hdbr
      have HDB := hide hdb
      have HPL := hide hpl
      clear hdb hpl
      have hcvS : ((⟨dd.toArray⟩ : ByteArray).extract (j * R) (j * R + R)).size = R := by rw [ByteArray.size_extract, show (⟨dd.toArray⟩ : ByteArray).size = dd.length from by simp [ByteArray.size]]; omega
      have hcv := fun w => run_bytes_of_string (P := Try.prog) w 9 33 5 ((⟨dd.toArray⟩ : ByteArray).extract (j * R) (j * R + R)) Try.underlying9 Try.underlying33 Try.underlying5
      rw [hcvS] at hcv
      have hjI : 0 ≤ (j : Int) * (R : Int) ∧ (j : Int) * (R : Int) + (R : Int) ≤ (dd.length : Int) := by
        have := Int.natCast_mul j R
        omega
      go_wp2_with (at_builtin; refine appendX _ rfl (.tmp 36) (.tmp 49) 32 rfl w3.heap.size 33 i0 (.slice none 0 0) 1 24 Try.underlying32 hi hz0 hz1 hz2 rfl (by decide) _ _ _ rfl (by exact (hdbr.alloc _).alloc _) ⟨wr.heap.size + 1, 0, none⟩ 1 1 [.slice (some ⟨wr.heap.size, 0, none⟩) R (grownCap wr R 0 5)] rfl rfl (by exact World.news_of_block (cs := #[.slice (some ⟨wr.heap.size, 0, none⟩) R (grownCap wr R 0 5)]) (t := 33) (fr := (0, 0)) (heap_new2 wr _ _)) (by intro u hu; simp at hu; subst hu; rfl) (by decide) (by unfold maxLen; omega) (by omega) (by simp; omega) ?_; intro v' w4 hown4 hb4 hg4 hf4)
      go_roundw
      case rel =>
        refine ⟨j + 1, ps ++ [(wr.heap.size, 0, grownCap wr R 0 5)], by omega, by go_num, by simp [HPL.out], ?_, ?_⟩
        · have e : Sh.chunks R dd (j + 1) = Sh.chunks R dd j ++ [Sh.chunk R dd j] := by simp [Sh.chunks, List.range_succ]
          rw [e]
          refine HDB.out.push (wa := (wr.alloc (.cells (bytesRow ((⟨dd.toArray⟩ : ByteArray).extract (j * R) (j * R + R)) (grownCap wr R 0 5)) 5 ((bytesRow ((⟨dd.toArray⟩ : ByteArray).extract (j * R) (j * R + R)) (grownCap wr R 0 5)).size, (bytesRow ((⟨dd.toArray⟩ : ByteArray).extract (j * R) (j * R + R)) (grownCap wr R 0 5)).size + 1))).alloc (.cells #[.slice (some ⟨wr.heap.size, 0, none⟩) R (grownCap wr R 0 5)] 33)) (((Below.refl _ _).alloc (Nat.le_refl _) _).alloc (by simp) _) (heap_new1 wr _ _) (chunk_len dd R j hjR) (chunk_cells dd R j _ hjR) ⟨grownCap_ge _ _ _ _, grownCap_le_maxLen _ _ _ _ (by unfold maxLen; omega)⟩ hsw (by rw [HPL.out]; exact hown4) ?_
          exact ⟨hg4.os, hg4.tape, hg4.output, hg4.size, hg4.block⟩
        · exact (hbl.trans ((((Below.refl _ _).alloc (Nat.le_refl _) _).alloc (by simp) _).mono hsw)).trans ⟨hb4.os, hb4.tape, hb4.output, hb4.size, hb4.block⟩
      case measure => simp [intOf]; omega
    · have hjK : j = K := by omega
      subst hjK
      have HDB := hide hdb
      have HPL := hide hpl
      have hnec : ∀ p ∈ ps, p.1 ≠ cb := by
        intro p hp e
        have := hdb.ge p hp
        omega
      have HEN := hide (encode_ok cb kind j M N gd 3 8 16 2 1 _ w3.heap.size ps (Sh.chunks R dd j) wr HOk.out (by decide) (by decide) (by decide) (by decide) (by decide) (by decide) (Sh.CS.below HCS3.out hbl) (by rw [HR.out, Nat.mul_one]; exact hdb.dat) hpl hnec (Sh.chunks_bytes R dd j))
      clear hdb hpl hnec
      go_wp2_with fail
      refine HEN.out.mono ?_
      rintro e w5 ⟨v5, qs, rfl, hql, hown5, hcs5, hg5⟩
      rw [HR.out, Nat.mul_one] at hown5
      have hPE := Sh.par_eq HOk.out 1 (Sh.chunks R dd j) (Sh.chunks_bytes R dd j)
      have hpar := HPar.out
      rw [← hPE] at hpar
      have HEQ : Hid (strOfNums (Sh.par kind j M N gd 1 (Sh.chunks R dd j)).flatten = ⟨pp.toArray⟩) := by
        show _ = _
        rw [hpar]
        exact str_back pp
      have HPL5 : Hid ((Sh.par kind j M N gd 1 (Sh.chunks R dd j)).length = M) := by show _ = _; rw [hown5.lens, hql]
      generalize Sh.par kind j M N gd 1 (Sh.chunks R dd j) = PX at *
      clear hPE hpar
      have hrow5 := hown5.row
      rw [hql] at hrow5
      obtain ⟨g5, cap5, hv5, hgb5, hgw5, hcap5, hcells5⟩ := own_form hrow5 hM
      have HC5 := hide hcells5
      have HOwn5 := hide hown5
      have HQL := hide hql
      have HV5 := hide hv5
      have hkv5 : w5.heap[w1'.heap.size]? = wr.heap[w1'.heap.size]? := hg5.block w1'.heap.size (by omega) (by simpa using (fun e => hne1 e.symm))
      have hkv := hkv5.trans (HKV.out _ hbl)
      have p0 : w5.cell? ⟨w1'.heap.size, 0, none⟩ = some (.int .i64 kind) := blk_cell hkv rfl
      have p1 : w5.cell? ⟨w1'.heap.size, 1, none⟩ = some (.int .i64 j) := blk_cell hkv rfl
      have p2 : w5.cell? ⟨w1'.heap.size, 2, none⟩ = some (.int .i64 M) := blk_cell hkv rfl
      have p3 : w5.cell? ⟨w1'.heap.size, 3, none⟩ = some (.int .i64 N) := blk_cell hkv rfl
      have p4 : w5.cell? ⟨w1'.heap.size, 4, none⟩ = some (.int .i64 gd) := blk_cell hkv rfl
      have p6 : w5.cell? ⟨w1'.heap.size, 6, none⟩ = some (.string ⟨pp.toArray⟩) := blk_cell hkv rfl
      have hkz5 := blk_lt hkv
      have Hkv5 := hide hkv
      have HG5 := hide hg5
      have HNZ := hide (fun w => new_zero kind j M N gd w HOk.out)
      clear hcells5 hown5 hql hv5 hkv5 hkv hrow5 hg5 hcs5 q1 q5
      rw [HV5.out]
      go_wp2_with fail
      go_loop [12, 13] (fun t i => ∃ k : Nat, k ≤ M ∧ i = .int .i64 k ∧ t = .string (strOfNums (PX.take k).flatten) ∧ (PX.take k).flatten.length ≤ k * 6) (fun _ i => M - (intOf i).toNat)
      case atStart => exact ⟨0, Nat.zero_le _, rfl, rfl, by simp⟩
      case round =>
        obtain ⟨k, hk, rfl, rfl, hfl⟩ := hrel
        by_cases hlk : k < M
        · obtain ⟨q, hq⟩ : ∃ q, qs[k]? = some q := ⟨_, List.getElem?_eq_getElem (by rw [HQL.out]; exact hlk)⟩
          have hkx : k < PX.length := by rw [HPL5.out]; exact hlk
          have hck : w5.cell? ⟨g5, k, none⟩ = some (.slice (some ⟨q.1, q.2.1, none⟩) R q.2.2) := HC5.out k _ (Sh.sv_get hq)
          obtain ⟨hq0, hqo⟩ := HOwn5.out.each k q PX[k] hq (List.getElem?_eq_getElem hkx)
          rw [hq0] at hck
          have hxl : PX[k].length = R := by have := hqo.1; simpa using this
          have hcv := run_convert_bytes_arg (P := Try.prog) w5 33 5 Try.underlying33 Try.underlying5 q.1 0 R q.2.2 PX[k] hxl (fun i hi => by
            have hix : i < PX[k].length := by rw [hxl]; exact hi
            rw [Nat.zero_add]
            refine own_cells hqo i _ ?_
            rw [List.getElem?_map, List.getElem?_eq_getElem hix, List.getD_eq_getElem?_getD, List.getElem?_eq_getElem hix]
            rfl) 9 Try.underlying9
          have HS := hide (show (PX.take (k + 1)).flatten = (PX.take k).flatten ++ PX[k] by rw [List.take_succ_eq_append_getElem hkx]; simp only [List.flatten_append, List.flatten_cons, List.flatten_nil, List.append_nil])
          generalize hx0 : PX[k] = x0 at *
          clear hx0 hq hq0 hqo
          have hszb : (strOfNums (PX.take k).flatten).size + (strOfNums x0).size ≤ 100 := by
            rw [strOfNums_size, strOfNums_size]
            omega
          go_wp2
          go_round
          case rel => exact ⟨k + 1, by omega, by go_num, by rw [HS.out, ← str_append], by rw [HS.out, List.length_append]; omega⟩
          case measure => simp [intOf]; omega
        · have hkM : k = M := by omega
          subst hkM
          rw [List.take_of_length_le (by rw [HPL5.out]; exact Nat.le_refl _), HEQ.out]
          go_wp2_with (go_at_call 15; refine (HNZ.out _).mono ?_; rintro e w6 ⟨rfl, hb6⟩; have p6' : w6.cell? ⟨w1'.heap.size, 6, none⟩ = some (.string ⟨pp.toArray⟩) := (hb6.cell (p := ⟨w1'.heap.size, 6, none⟩) hkz5).trans p6)
          go_ret
          refine ⟨rfl, ?_⟩
          have hbwr := hlow3.trans (hbl.mono hlow3.size)
          have hcbw : w.heap.size ≤ cb := hcbw0
          exact (hbwr.trans ⟨HG5.out.os, HG5.out.tape, HG5.out.output, HG5.out.size, fun i hi => HG5.out.block i (by have := hbwr.size; omega) (by intro e; injection e; omega)⟩).trans (hb6.mono (by have := hbwr.size; have := HG5.out.size; omega))
end Go.Proofs.Ythhbpofcemoflab
