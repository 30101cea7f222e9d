import Derived.Test.YthhbpofcemoflabGc
namespace Go.Proofs.Ythhbpofcemoflab
open Go.RowKit
set_option maxRecDepth 20000
namespace Sh
/-- how many exclusive ors a way needs -/
def wx (f : Int) (s : Nat) : Nat := if f = -1 then pc s - 1 else pc s
def w0 : Bool × Int × Nat := (false, -1, 0)
/-- the cheapest of the first so many ways -/
def cheap (ws : List (Bool × Int × Nat)) : Nat → Int
  | 0 => -1
  | k + 1 => if (ws.getD k w0).1 = true then cheap ws k else if cheap ws k = -1 ∨ wx (ws.getD k w0).2.1 (ws.getD k w0).2.2 < wx (ws.getD (cheap ws k).toNat w0).2.1 (ws.getD (cheap ws k).toNat w0).2.2 then (k : Int) else cheap ws k
theorem cheap_made {ws : List (Bool × Int × Nat)} {k : Nat} (h : (ws.getD k w0).1 = true) : cheap ws (k + 1) = cheap ws k := if_pos h
theorem cheap_new {ws : List (Bool × Int × Nat)} {k : Nat} (h : (ws.getD k w0).1 = false) (h2 : cheap ws k = -1 ∨ wx (ws.getD k w0).2.1 (ws.getD k w0).2.2 < wx (ws.getD (cheap ws k).toNat w0).2.1 (ws.getD (cheap ws k).toNat w0).2.2) : cheap ws (k + 1) = k := by
  simp only [cheap]
  rw [if_neg (by rw [h]; decide), if_pos h2]
theorem cheap_old {ws : List (Bool × Int × Nat)} {k : Nat} (h : (ws.getD k w0).1 = false) (h2 : ¬ (cheap ws k = -1 ∨ wx (ws.getD k w0).2.1 (ws.getD k w0).2.2 < wx (ws.getD (cheap ws k).toNat w0).2.1 (ws.getD (cheap ws k).toNat w0).2.2)) : cheap ws (k + 1) = cheap ws k := by
  simp only [cheap]
  rw [if_neg (by rw [h]; decide), if_neg h2]
theorem cheap_is (ws : List (Bool × Int × Nat)) (k : Nat) : (cheap ws k = -1 ∧ ∀ i, i < k → (ws.getD i w0).1 = true) ∨ ∃ j : Nat, cheap ws k = j ∧ j < k ∧ (ws.getD j w0).1 = false := by
  induction k with
  | zero => exact Or.inl ⟨rfl, fun i hi => by omega⟩
  | succ k ih =>
    cases c : (ws.getD k w0).1
    · right
      by_cases c2 : cheap ws k = -1 ∨ wx (ws.getD k w0).2.1 (ws.getD k w0).2.2 < wx (ws.getD (cheap ws k).toNat w0).2.1 (ws.getD (cheap ws k).toNat w0).2.2
      · exact ⟨k, cheap_new c c2, by omega, c⟩
      · rw [cheap_old c c2]
        rcases ih with ⟨h, _⟩ | ⟨j, h1, h2, h3⟩
        · exact absurd (Or.inl h) c2
        · exact ⟨j, h1, by omega, h3⟩
    · rw [cheap_made c]
      rcases ih with ⟨h, h'⟩ | ⟨j, h1, h2, h3⟩
      · left
        refine ⟨h, fun i hi => ?_⟩
        rcases Nat.lt_or_eq_of_le (Nat.le_of_lt_succ hi) with h1 | h1
        · exact h' i h1
        · subst h1; exact c
      · exact Or.inr ⟨j, h1, by omega, h3⟩
/-- what is made of the ways when sum j is made -/
def upW (G : Nat) (S : List Nat) (j : Nat) (ws : List (Bool × Int × Nat)) : Nat → List (Bool × Int × Nat)
  | 0 => ws
  | k + 1 => if (((upW G S j ws k).getD k w0).1 = false ∧ pc (S.getD k 0 ^^^ S.getD j 0) < wx ((upW G S j ws k).getD k w0).2.1 ((upW G S j ws k).getD k w0).2.2) then (upW G S j ws k).set k (false, ((G + j : Nat) : Int), S.getD k 0 ^^^ S.getD j 0) else upW G S j ws k
theorem upW_len (G : Nat) (S : List Nat) (j : Nat) (ws : List (Bool × Int × Nat)) (k : Nat) : (upW G S j ws k).length = ws.length := by
  induction k with
  | zero => rfl
  | succ k ih =>
    simp only [upW]
    split
    · rw [List.length_set, ih]
    · exact ih
theorem upW_rest (G : Nat) (S : List Nat) (j : Nat) (ws : List (Bool × Int × Nat)) (k i : Nat) (hi : k ≤ i) : (upW G S j ws k).getD i w0 = ws.getD i w0 := by
  induction k with
  | zero => rfl
  | succ k ih =>
    simp only [upW]
    split
    · rw [List.getD_eq_getElem?_getD, List.getElem?_set_ne (by omega), ← List.getD_eq_getElem?_getD]
      exact ih (by omega)
    · exact ih (by omega)
theorem upW_is (G : Nat) (S : List Nat) (j : Nat) (ws : List (Bool × Int × Nat)) (k i : Nat) : (upW G S j ws k).getD i w0 = ws.getD i w0 ∨ ((ws.getD i w0).1 = false ∧ (upW G S j ws k).getD i w0 = (false, ((G + j : Nat) : Int), S.getD i 0 ^^^ S.getD j 0) ∧ pc (S.getD i 0 ^^^ S.getD j 0) < wx (ws.getD i w0).2.1 (ws.getD i w0).2.2) := by
  induction k with
  | zero => exact Or.inl rfl
  | succ k ih =>
    simp only [upW]
    split
    · next h =>
      by_cases e : i = k
      · subst e
        rw [upW_rest G S j ws i i (Nat.le_refl _)] at h
        by_cases hl : i < (upW G S j ws i).length
        · right
          refine ⟨h.1, ?_, h.2⟩
          rw [List.getD_eq_getElem?_getD, List.getElem?_set_self hl]
          rfl
        · left
          rw [upW_len] at hl
          rw [List.getD_eq_getElem?_getD, List.getElem?_eq_none (by rw [List.length_set, upW_len]; omega), List.getD_eq_getElem?_getD, List.getElem?_eq_none (by omega)]
      · rw [List.getD_eq_getElem?_getD, List.getElem?_set_ne (by omega), ← List.getD_eq_getElem?_getD]
        exact ih
    · exact ih
/-- a register is made in the way told -/
def folO (G O : Nat) (t f : Int) (s : Nat) : List (Int × Int × Int) := if f = -1 then sumO G O t s else (1, t, f) :: addO G O 2 t s
def difS (G : Nat) (S : List Nat) (st : List (Bool × Int × Nat) × List (Int × Int × Int)) : List (Bool × Int × Nat) × List (Int × Int × Int) :=
  if cheap st.1 st.1.length = -1 then st else
  (upW G S (cheap st.1 st.1.length).toNat (st.1.set (cheap st.1 st.1.length).toNat (true, (st.1.getD (cheap st.1 st.1.length).toNat w0).2)) st.1.length,
    st.2 ++ folO G S.length ((G + (cheap st.1 st.1.length).toNat : Nat) : Int) (st.1.getD (cheap st.1 st.1.length).toNat w0).2.1 (st.1.getD (cheap st.1 st.1.length).toNat w0).2.2)
def difN (G : Nat) (S : List Nat) : Nat → List (Bool × Int × Nat) × List (Int × Int × Int)
  | 0 => (S.map fun s => (false, -1, s), [])
  | n + 1 => difS G S (difN G S n)
def dif (G : Nat) (S : List Nat) : List (Int × Int × Int) := (difN G S S.length).2
theorem difN_stop {G : Nat} {S : List Nat} {n : Nat} (h : cheap (difN G S n).1 (difN G S n).1.length = -1) : ∀ d, difN G S (n + d) = difN G S n := by
  intro d
  induction d with
  | zero => rfl
  | succ d ih =>
    show difS G S (difN G S (n + d)) = _
    rw [ih]
    unfold difS
    rw [if_pos h]
theorem lay_two (t : Int) (l : List Nat) : layO 2 t l = l.map fun (x : Nat) => (2, t, (x : Int)) := by cases l <;> rfl
/-- what holds while the ways are gone -/
structure DI (G : Nat) (S : List Nat) (n : Nat) (st : List (Bool × Int × Nat) × List (Int × Int × Int)) : Prop where
  len : st.1.length = S.length
  bd : Bd G (G + S.length) st.2
  made : ∀ i, i < S.length → (st.1.getD i w0).1 = true → fl G st.2 (G + i) = true ∧ sm G st.2 (G + i) = S.getD i 0
  way : ∀ i, i < S.length → (st.1.getD i w0).1 = false → (((st.1.getD i w0).2.1 = -1 ∧ (st.1.getD i w0).2.2 = S.getD i 0) ∨ ∃ k, k < S.length ∧ (st.1.getD k w0).1 = true ∧ (st.1.getD i w0).2.1 = ((G + k : Nat) : Int) ∧ (st.1.getD i w0).2.2 = S.getD i 0 ^^^ S.getD k 0)
  cost : ∀ i, i < S.length → (st.1.getD i w0).1 = false → wx (st.1.getD i w0).2.1 (st.1.getD i w0).2.2 ≤ pc (S.getD i 0) - 1
  xrs : xr st.2 ≤ sumR (fun i => if (st.1.getD i w0).1 = true then pc (S.getD i 0) - 1 else 0) S.length
  lens : st.2.length ≤ 48 * sumR (fun i => if (st.1.getD i w0).1 = true then 1 else 0) S.length
  left : n ≤ sumR (fun i => if (st.1.getD i w0).1 = true then 1 else 0) S.length
theorem getD_lt {S : List Nat} {b : Nat} (hb : 0 < b) (hS : ∀ s ∈ S, s < b) (i : Nat) : S.getD i 0 < b := by
  rw [List.getD_eq_getElem?_getD]
  cases h : S[i]? with
  | none => exact hb
  | some x => exact hS x (List.mem_of_getElem? h)
theorem DI.start {G : Nat} (S : List Nat) : DI G S 0 (difN G S 0) := by
  have hg : ∀ i, i < S.length → (difN G S 0).1.getD i w0 = (false, -1, S.getD i 0) := by
    intro i hi
    simp [difN, List.getD_eq_getElem?_getD, List.getElem?_eq_getElem hi]
  refine ⟨by simp [difN], Bd.nil _ _, ?_, ?_, ?_, Nat.zero_le _, Nat.zero_le _, Nat.zero_le _⟩
  · intro i hi h; rw [hg i hi] at h; cases h
  · intro i hi _; rw [hg i hi]; exact Or.inl ⟨rfl, rfl⟩
  · intro i hi _; rw [hg i hi]; exact Nat.le_refl _
/-- a way that is gone -/
theorem Bd.fol {G n : Nat} {ops : List (Int × Int × Int)} (h : Bd G n ops) (O t : Nat) (f : Int) (s : Nat) (hG1 : 1 ≤ G) (hG : G ≤ t) (ht : t < n) (hGn : G ≤ 64) (hs : s < 2 ^ G) (hf : f = -1 ∨ ∃ k : Nat, f = k ∧ k < n ∧ k ≠ t ∧ fl G ops k = true) :
    Bd G n (ops ++ folO G O (t : Int) f s) ∧ (∀ r, sm G (ops ++ folO G O (t : Int) f s) r = if r = t then (if f = -1 then s else sm G ops f.toNat ^^^ s) else sm G ops r) ∧ (∀ r, fl G (ops ++ folO G O (t : Int) f s) r = (fl G ops r || r == t)) ∧ xr (folO G O (t : Int) f s) = wx f s ∧ (folO G O (t : Int) f s).length ≤ wx f s + 1 := by
  have h64 : s < 2 ^ 64 := Nat.lt_of_lt_of_le hs (Nat.pow_le_pow_right (by decide) hGn)
  have htr : ∀ x, s.testBit x = true → x < G := fun x hx => by
    apply Decidable.byContradiction
    intro hi
    rw [tb_hi hs (by omega)] at hx
    cases hx
  have hxl : xl (fun x => sm G ops (trm G O x)) (bl s 64) = s := by
    rw [xl_congr (m' := fun x => 2 ^ x), xl_bl, Nat.mod_eq_of_lt h64]
    intro x hx
    have hx' := htr x (bl_mem.1 hx).2
    simp only [trm, if_pos hx']
    exact h.giv x hx'
  rcases hf with hf | ⟨k, hk, hkn, hkt, hkf⟩
  · have := h.sum O t s hG1 hG ht h64 (fun x hx => by
      have := htr x hx
      simp only [trm, if_pos this]
      exact ⟨by omega, by omega, fl_given _ this⟩)
    rw [hxl] at this
    unfold folO wx
    rw [if_pos hf, if_pos hf, if_pos hf]
    refine ⟨this.1, this.2.1, this.2.2, xr_sum G O t s, ?_⟩
    unfold sumO
    split
    · next h0 => subst h0; rw [pc_zero]; exact Nat.le_refl _
    · next h0 =>
      unfold addO
      rw [addN_len]
      have := pc_pos h0 h64
      unfold pc at *
      omega
  · have hfn : ¬ f = -1 := by omega
    have e : folO G O (t : Int) f s = layO 1 (t : Int) (k :: (bl s 64).map (trm G O)) := by
      unfold folO addO addN
      rw [if_neg hfn, lay_two, hk]
      rfl
    rw [e]
    have := h.lay t hG ht (k :: (bl s 64).map (trm G O)) (by simp) (by
      intro f hf'
      rcases List.mem_cons.1 hf' with rfl | hf'
      · exact ⟨hkn, hkt, hkf⟩
      · obtain ⟨x, hx, rfl⟩ := List.mem_map.1 hf'
        have := htr x (bl_mem.1 hx).2
        simp only [trm, if_pos this]
        exact ⟨by omega, by omega, fl_given _ this⟩)
    refine ⟨this.1, ?_, this.2.2, ?_, ?_⟩
    · intro r
      rw [this.2.1, xl, xl_map, hxl, if_neg hfn, hk]
      rfl
    · rw [xr_one, List.length_cons, List.length_map, pc_bl, wx, if_neg hfn]
      rfl
    · rw [layO_len, List.length_cons, List.length_map, pc_bl, wx, if_neg hfn]
      exact Nat.le_refl _
theorem DI.step {G : Nat} {S : List Nat} {n : Nat} {st : List (Bool × Int × Nat) × List (Int × Int × Int)} (h : DI G S n st) (hG1 : 1 ≤ G) (hG : G ≤ 48) (hS : ∀ s ∈ S, s < 2 ^ G) (hn : n < S.length) : DI G S (n + 1) (difS G S st) := by
  have hlt : ∀ i, S.getD i 0 < 2 ^ G := getD_lt (Nat.pow_pos (by decide)) hS
  unfold difS
  rcases cheap_is st.1 st.1.length with ⟨h1, h2⟩ | ⟨j, h1, h2, h3⟩
  · rw [if_pos h1]
    refine ⟨h.len, h.bd, h.made, h.way, h.cost, h.xrs, h.lens, ?_⟩
    have : ∀ i, i < S.length → (if (st.1.getD i w0).1 = true then 1 else 0) = (fun _ : Nat => 1) i := fun i hi => if_pos (h2 i (by rw [h.len]; exact hi))
    rw [sumR_congr this]
    have : ∀ m, sumR (fun _ => 1) m = m := by
      intro m
      induction m with
      | zero => rfl
      | succ m ih => simp only [sumR]; rw [ih]
    rw [this]
    omega
  · rw [h1, if_neg (by omega), Int.toNat_natCast]
    have hj : j < S.length := by rw [← h.len]; exact h2
    generalize hx : st.1.getD j w0 = x at *
    obtain ⟨mk, f, s⟩ := x
    simp only at h3
    subst h3
    have hway := h.way j hj (by rw [hx])
    have hcost := h.cost j hj (by rw [hx])
    rw [hx] at hway hcost
    simp only at hway hcost
    have hs : s < 2 ^ G := by
      rcases hway with ⟨_, rfl⟩ | ⟨k, _, _, _, rfl⟩
      · exact hlt j
      · exact Nat.xor_lt_two_pow (hlt j) (hlt k)
    have hf : f = -1 ∨ ∃ k : Nat, f = k ∧ k < G + S.length ∧ k ≠ G + j ∧ fl G st.2 k = true := by
      rcases hway with ⟨hf, _⟩ | ⟨k, hk, hm, hf, _⟩
      · exact Or.inl hf
      · refine Or.inr ⟨G + k, hf, by omega, ?_, (h.made k hk hm).1⟩
        intro e
        have : k = j := by omega
        subst this
        rw [hx] at hm
        cases hm
    obtain ⟨b1, b2, b3, b4, b5⟩ := h.bd.fol S.length (G + j) f s hG1 (by omega) (by omega) (by omega) hs hf
    simp only
    have hset : ∀ i, (st.1.set j (true, f, s)).getD i w0 = if i = j then (true, f, s) else st.1.getD i w0 := by
      intro i
      by_cases e : i = j
      · subst e; rw [if_pos rfl, List.getD_eq_getElem?_getD, List.getElem?_set_self h2]; rfl
      · rw [if_neg e, List.getD_eq_getElem?_getD, List.getElem?_set_ne (by omega), ← List.getD_eq_getElem?_getD]
    have hup := upW_is G S j (st.1.set j (true, f, s)) st.1.length
    generalize hws : upW G S j (st.1.set j (true, f, s)) st.1.length = ws at *
    have hmade : ∀ i, (ws.getD i w0).1 = true ↔ (i = j ∨ (st.1.getD i w0).1 = true) := by
      intro i
      rcases hup i with h | ⟨h, h', _⟩
      · rw [h, hset]
        by_cases e : i = j
        · rw [if_pos e]; exact ⟨fun _ => Or.inl e, fun _ => rfl⟩
        · rw [if_neg e]; exact ⟨fun h => Or.inr h, fun h => h.resolve_left e⟩
      · rw [hset] at h
        rw [h']
        by_cases e : i = j
        · rw [if_pos e] at h; cases h
        · rw [if_neg e] at h
          constructor
          · intro h4; cases h4
          · rintro (h4 | h4)
            · exact absurd h4 e
            · rw [h] at h4; cases h4
    have hval : sm G (st.2 ++ folO G S.length ((G + j : Nat) : Int) f s) (G + j) = S.getD j 0 := by
      rw [b2, if_pos rfl]
      rcases hway with ⟨hf, hs'⟩ | ⟨k, hk, hm, hf, hs'⟩
      · rw [if_pos hf, hs']
      · rw [if_neg (by omega), hf, Int.toNat_natCast, (h.made k hk hm).2, hs', Nat.xor_comm (S.getD j 0), ← Nat.xor_assoc, Nat.xor_self, Nat.zero_xor]
    have hpj : pc (S.getD j 0) ≤ 48 := Nat.le_trans (pc_le_of (hlt j) (by omega)) hG
    have hcount : sumR (fun i => if (ws.getD i w0).1 = true then 1 else 0) S.length = sumR (fun i => if (st.1.getD i w0).1 = true then 1 else 0) S.length + 1 := by
      apply sumR_set hj
      · rw [if_pos ((hmade j).2 (Or.inl rfl)), hx]; rfl
      · intro i _ hne
        by_cases e : (st.1.getD i w0).1 = true
        · rw [if_pos e, if_pos ((hmade i).2 (Or.inr e))]
        · rw [if_neg e, if_neg (fun h => (((hmade i).1 h).elim hne e))]
    refine ⟨?_, b1, ?_, ?_, ?_, ?_, ?_, ?_⟩
    · rw [← hws, upW_len, List.length_set, h.len]
    · intro i hi hm
      rw [b3]
      by_cases e : i = j
      · subst e; exact ⟨by simp, hval⟩
      · have hm' := ((hmade i).1 hm).resolve_left e
        have := h.made i hi hm'
        rw [this.1, b2, if_neg (by omega)]
        exact ⟨rfl, this.2⟩
    · intro i hi hm
      have hni : i ≠ j := fun e => by rw [(hmade i).2 (Or.inl e)] at hm; cases hm
      rcases hup i with h4 | ⟨h4, h5, _⟩
      · rw [hset, if_neg hni] at h4
        rw [h4] at hm ⊢
        rcases h.way i hi hm with h6 | ⟨k, hk, h6, h7⟩
        · exact Or.inl h6
        · exact Or.inr ⟨k, hk, (hmade k).2 (Or.inr h6), h7⟩
      · rw [h5]
        exact Or.inr ⟨j, hj, (hmade j).2 (Or.inl rfl), rfl, rfl⟩
    · intro i hi hm
      have hni : i ≠ j := fun e => by rw [(hmade i).2 (Or.inl e)] at hm; cases hm
      rcases hup i with h4 | ⟨h4, h5, h6⟩
      · rw [hset, if_neg hni] at h4
        rw [h4] at hm ⊢
        exact h.cost i hi hm
      · rw [h5]
        rw [hset, if_neg hni] at h4 h6
        have := h.cost i hi h4
        simp only [wx]
        rw [if_neg (by omega)]
        omega
    · have : sumR (fun i => if (ws.getD i w0).1 = true then pc (S.getD i 0) - 1 else 0) S.length = sumR (fun i => if (st.1.getD i w0).1 = true then pc (S.getD i 0) - 1 else 0) S.length + (pc (S.getD j 0) - 1) := by
        apply sumR_set hj
        · rw [if_pos ((hmade j).2 (Or.inl rfl)), hx]; simp
        · intro i _ hne
          by_cases e : (st.1.getD i w0).1 = true
          · rw [if_pos e, if_pos ((hmade i).2 (Or.inr e))]
          · rw [if_neg e, if_neg (fun h => (((hmade i).1 h).elim hne e))]
      rw [this, xr_append, b4]
      have := h.xrs
      omega
    · rw [hcount, List.length_append]
      have := h.lens
      omega
    · rw [hcount]
      have := h.left
      omega
theorem difN_inv {G : Nat} {S : List Nat} (hG1 : 1 ≤ G) (hG : G ≤ 48) (hS : ∀ s ∈ S, s < 2 ^ G) : ∀ n, n ≤ S.length → DI G S n (difN G S n) := by
  intro n
  induction n with
  | zero => intro _; exact DI.start S
  | succ n ih => intro hn; exact (ih (by omega)).step hG1 hG hS (by omega)
theorem sumR_all {p : Nat → Bool} {n : Nat} (h : n ≤ sumR (fun i => if p i = true then 1 else 0) n) : ∀ i, i < n → p i = true := by
  have hle : ∀ m, sumR (fun i => if p i = true then 1 else 0) m ≤ m := by
    intro m
    induction m with
    | zero => exact Nat.le_refl _
    | succ m ih => simp only [sumR]; split <;> omega
  induction n with
  | zero => intro i hi; omega
  | succ n ih =>
    intro i hi
    simp only [sumR] at h
    have := hle n
    by_cases c : p n = true
    · rw [if_pos c] at h
      rcases Nat.lt_or_eq_of_le (Nat.le_of_lt_succ hi) with h1 | h1
      · exact ih (by omega) i h1
      · subst h1; exact c
    · rw [if_neg c] at h
      omega
theorem dif_good {G : Nat} {S : List Nat} (hG1 : 1 ≤ G) (hG : G ≤ 48) (hS : ∀ s ∈ S, s < 2 ^ G) (hL1 : 1 ≤ S.length) (hL : S.length ≤ 40) : Good G S 0 (dif G S) ∧ xr (dif G S) ≤ sumR (fun j => pc (S.getD j 0) - 1) S.length := by
  have h := difN_inv hG1 hG hS S.length (Nat.le_refl _)
  have hall := sumR_all (p := fun i => ((difN G S S.length).1.getD i w0).1) h.left
  have hle : ∀ (f : Nat → Nat) m, (∀ i, f i ≤ 1) → sumR f m ≤ m := by
    intro f m hf
    induction m with
    | zero => exact Nat.le_refl _
    | succ m ih => simp only [sumR]; have := hf m; omega
  refine ⟨Bd.good (B := 0) h.bd (Nat.zero_le _) hL1 ?_ (fun j hj => h.made j hj (hall j hj)), ?_⟩
  · have h1 := h.lens
    have h2 := hle (fun i => if ((difN G S S.length).1.getD i w0).1 = true then 1 else 0) S.length (fun i => by split <;> omega)
    show (difN G S S.length).2.length ≤ 2048
    omega
  · refine Nat.le_trans h.xrs (sumR_le ?_)
    intro i _
    split
    · exact Nat.le_refl _
    · exact Nat.zero_le _
end Sh
end Go.Proofs.Ythhbpofcemoflab
namespace Go.Proofs.Ythhbpofcemoflab
open Go.RowKit
set_option maxRecDepth 20000
namespace Sh
/-- words turned over -/
def wd (T : List Nat) (i : Nat) : Nat → Nat
  | 0 => 0
  | k + 1 => wd T i k ||| ((T.getD k 0 / 2 ^ i % 2) * 2 ^ k)
def turnL (T : List Nat) (c : Nat) : List Nat := (List.range c).map fun i => wd T i T.length
theorem turnL_len (T : List Nat) (c : Nat) : (turnL T c).length = c := by simp [turnL]
theorem turnL_get {T : List Nat} {c i : Nat} (hi : i < c) : (turnL T c).getD i 0 = wd T i T.length := by
  simp [turnL, List.getD_eq_getElem?_getD, List.getElem?_range hi]
theorem one_bit (x k j : Nat) : ((x % 2) * 2 ^ k).testBit j = (decide (j = k) && decide (x % 2 = 1)) := by
  rcases Nat.mod_two_eq_zero_or_one x with h | h
  · rw [h]; simp
  · rw [h, Nat.one_mul, Nat.testBit_two_pow]
    by_cases e : k = j
    · subst e; simp
    · have : ¬ j = k := fun h => e h.symm
      simp [e, this]
theorem wd_bit (T : List Nat) (i k j : Nat) : (wd T i k).testBit j = (decide (j < k) && (T.getD j 0).testBit i) := by
  induction k with
  | zero => simp [wd]
  | succ k ih =>
    simp only [wd]
    rw [Nat.testBit_or, ih, one_bit]
    by_cases h1 : j < k
    · have h2 : ¬ j = k := by omega
      simp [h1, h2, show j < k + 1 by omega]
    · by_cases h2 : j = k
      · subst h2
        simp [Nat.testBit_eq_decide_div_mod_eq]
      · simp [h1, h2, show ¬ j < k + 1 by omega]
theorem wd_lt (T : List Nat) (i k : Nat) : wd T i k < 2 ^ k := by
  apply Nat.lt_pow_two_of_testBit
  intro j hj
  rw [wd_bit]
  simp [show ¬ j < k by omega]
/-- sums and counts over the places where something holds -/
def xp (V : Nat → Nat) (p : Nat → Bool) : Nat → Nat
  | 0 => 0
  | k + 1 => if p k = true then xp V p k ^^^ V k else xp V p k
def cp (p : Nat → Bool) : Nat → Nat
  | 0 => 0
  | k + 1 => cp p k + (p k).toNat
theorem xp_congr {V V' : Nat → Nat} {p p' : Nat → Bool} {n : Nat} (hV : ∀ k, k < n → p k = true → V k = V' k) (hp : ∀ k, k < n → p k = p' k) : xp V p n = xp V' p' n := by
  induction n with
  | zero => rfl
  | succ n ih =>
    simp only [xp]
    rw [ih (fun k hk => hV k (by omega)) (fun k hk => hp k (by omega)), ← hp n (by omega)]
    by_cases c : p n = true
    · rw [if_pos c, if_pos c, hV n (by omega) c]
    · rw [if_neg c, if_neg c]
theorem cp_congr {p p' : Nat → Bool} {n : Nat} (hp : ∀ k, k < n → p k = p' k) : cp p n = cp p' n := by
  induction n with
  | zero => rfl
  | succ n ih => simp only [cp]; rw [ih (fun k hk => hp k (by omega)), hp n (by omega)]
def off (p : Nat → Bool) (a : Nat) : Nat → Bool := fun x => if x = a then false else p x
theorem xp_off (V : Nat → Nat) (p : Nat → Bool) (a : Nat) (ha : p a = true) (n : Nat) : xp V (off p a) n = if a < n then xp V p n ^^^ V a else xp V p n := by
  induction n with
  | zero => rfl
  | succ n ih =>
    have e0 : off p a n = if n = a then false else p n := rfl
    simp only [xp]
    rw [ih, e0]
    by_cases e : n = a
    · subst e
      have h1 : ¬ n < n := Nat.lt_irrefl n
      have h2 : n < n + 1 := Nat.lt_succ_self n
      simp only [if_neg h1, if_pos h2, ha, if_true, Nat.xor_assoc, Nat.xor_self, Nat.xor_zero]
      rfl
    · simp only [if_neg e]
      by_cases h : a < n
      · have h' : a < n + 1 := by omega
        simp only [if_pos h, if_pos h']
        split
        · rw [Nat.xor_assoc, Nat.xor_comm (V a), ← Nat.xor_assoc]
        · rfl
      · have h' : ¬ a < n + 1 := by omega
        simp only [if_neg h, if_neg h']
theorem cp_off (p : Nat → Bool) (a : Nat) (ha : p a = true) (n : Nat) : cp (off p a) n + (if a < n then 1 else 0) = cp p n := by
  induction n with
  | zero => rfl
  | succ n ih =>
    simp only [cp]
    unfold off at *
    by_cases e : n = a
    · subst e
      rw [if_neg (by omega)] at ih
      rw [if_pos rfl, if_pos (by omega), ha, ← ih]
      rfl
    · rw [if_neg e]
      by_cases h : a < n
      · rw [if_pos h] at ih; rw [if_pos (by omega)]; omega
      · rw [if_neg h] at ih; rw [if_neg (by omega)]; omega
theorem xl_xp (V : Nat → Nat) (s n : Nat) : xl V (bl s n) = xp V (fun x => s.testBit x) n := by
  induction n with
  | zero => rfl
  | succ n ih =>
    simp only [xp]
    by_cases c : s.testBit n = true
    · rw [bl_t c, xl_append, ih, if_pos c]
    · rw [bl_f (by simpa using c), ih, if_neg c]
theorem pc_cp (s n : Nat) : pcF n s = cp (fun x => s.testBit x) n := by
  induction n with
  | zero => rfl
  | succ n ih => rw [pcF_top, ih]; rfl
theorem cp_two {p : Nat → Bool} {a b n : Nat} (hab : a < b) (hb : b < n) (ha : p a = true) (hpb : p b = true) : 2 ≤ cp p n := by
  have h1 := cp_off p a ha n
  have h2 := cp_off (off p a) b (by unfold off; rw [if_neg (by omega)]; exact hpb) n
  rw [if_pos (by omega)] at h1
  rw [if_pos (by omega)] at h2
  omega
/-- the pair that the most sums have -/
def cmI (T : List Nat) (b : Nat) (st : Nat × Nat × Nat × Nat) : Nat → Nat × Nat × Nat × Nat
  | 0 => st
  | a + 1 => if (cmI T b st a).2.2.2 < pc (T.getD a 0 &&& T.getD b 0) then (a, b, T.getD a 0 &&& T.getD b 0, pc (T.getD a 0 &&& T.getD b 0)) else cmI T b st a
def cmO (T : List Nat) : Nat → Nat × Nat × Nat × Nat
  | 0 => (0, 0, 0, 1)
  | b + 1 => cmI T b (cmO T b) b
def com (T : List Nat) : Nat × Nat × Nat × Nat := cmO T T.length
theorem cmI_t {T : List Nat} {b : Nat} {st : Nat × Nat × Nat × Nat} {a : Nat} (h : (cmI T b st a).2.2.2 < pc (T.getD a 0 &&& T.getD b 0)) : cmI T b st (a + 1) = (a, b, T.getD a 0 &&& T.getD b 0, pc (T.getD a 0 &&& T.getD b 0)) := if_pos h
theorem cmI_f {T : List Nat} {b : Nat} {st : Nat × Nat × Nat × Nat} {a : Nat} (h : ¬ (cmI T b st a).2.2.2 < pc (T.getD a 0 &&& T.getD b 0)) : cmI T b st (a + 1) = cmI T b st a := if_neg h
/-- what such a state says -/
def Cm (T : List Nat) (n : Nat) (st : Nat × Nat × Nat × Nat) : Prop :=
  (st = (0, 0, 0, 1)) ∨ (st.1 < st.2.1 ∧ st.2.1 < n ∧ st.2.2.1 = T.getD st.1 0 &&& T.getD st.2.1 0 ∧ st.2.2.2 = pc st.2.2.1 ∧ 2 ≤ st.2.2.2)
theorem Cm.most {T : List Nat} {n : Nat} {st : Nat × Nat × Nat × Nat} (h : Cm T n st) : 1 ≤ st.2.2.2 := by
  rcases h with h | h
  · rw [h]; exact Nat.le_refl _
  · omega
theorem cmI_is {T : List Nat} {n b : Nat} {st : Nat × Nat × Nat × Nat} (h : Cm T n st) (hb : b < n) (k : Nat) (hk : k ≤ b) : Cm T n (cmI T b st k) ∧ st.2.2.2 ≤ (cmI T b st k).2.2.2 ∧ ∀ a, a < k → pc (T.getD a 0 &&& T.getD b 0) ≤ (cmI T b st k).2.2.2 := by
  induction k with
  | zero => exact ⟨h, Nat.le_refl _, fun a ha => by omega⟩
  | succ k ih =>
    obtain ⟨h1, h2, h3⟩ := ih (by omega)
    by_cases c : (cmI T b st k).2.2.2 < pc (T.getD k 0 &&& T.getD b 0)
    · rw [cmI_t c]
      have := h1.most
      refine ⟨Or.inr ⟨by simp only; omega, hb, rfl, rfl, by simp only; omega⟩, by simp only; omega, ?_⟩
      intro a ha
      simp only
      rcases Nat.lt_or_eq_of_le (Nat.le_of_lt_succ ha) with h4 | h4
      · have := h3 a h4; omega
      · subst h4; exact Nat.le_refl _
    · rw [cmI_f c]
      refine ⟨h1, h2, ?_⟩
      intro a ha
      rcases Nat.lt_or_eq_of_le (Nat.le_of_lt_succ ha) with h4 | h4
      · exact h3 a h4
      · subst h4; omega
theorem cmO_is (T : List Nat) (n : Nat) (k : Nat) (hk : k ≤ n) : Cm T n (cmO T k) ∧ ∀ a b, a < b → b < k → pc (T.getD a 0 &&& T.getD b 0) ≤ (cmO T k).2.2.2 := by
  induction k with
  | zero => exact ⟨Or.inl rfl, fun a b _ hb => by omega⟩
  | succ k ih =>
    obtain ⟨h1, h2⟩ := ih (by omega)
    obtain ⟨h3, h4, h5⟩ := cmI_is h1 (by omega : k < n) k (Nat.le_refl _)
    refine ⟨h3, ?_⟩
    intro a b hab hb
    show _ ≤ (cmI T k (cmO T k) k).2.2.2
    rcases Nat.lt_or_eq_of_le (Nat.le_of_lt_succ hb) with h6 | h6
    · have := h2 a b hab h6; omega
    · subst h6; exact h5 a hab
theorem com_is (T : List Nat) : Cm T T.length (com T) ∧ ∀ a b, a < b → b < T.length → pc (T.getD a 0 &&& T.getD b 0) ≤ (com T).2.2.2 := cmO_is T T.length T.length (Nat.le_refl _)
theorem com_none {T : List Nat} (h : (com T).2.2.1 = 0) : ∀ a b, a < b → b < T.length → pc (T.getD a 0 &&& T.getD b 0) ≤ 1 := by
  intro a b hab hb
  obtain ⟨h1, h2⟩ := com_is T
  have := h2 a b hab hb
  rcases h1 with h1 | ⟨_, _, _, h4, h5⟩
  · rw [h1] at this; exact this
  · rw [h, pc_zero] at h4; omega
theorem com_some {T : List Nat} (h : (com T).2.2.1 ≠ 0) : (com T).1 < (com T).2.1 ∧ (com T).2.1 < T.length ∧ (com T).2.2.1 = T.getD (com T).1 0 &&& T.getD (com T).2.1 0 ∧ 2 ≤ pc (com T).2.2.1 := by
  rcases (com_is T).1 with h1 | ⟨h1, h2, h3, h4, h5⟩
  · rw [h1] at h; exact absurd rfl h
  · exact ⟨h1, h2, h3, by omega⟩
/-- a pair becomes a register besides -/
def parT (T : List Nat) : List Nat := ((T.set (com T).1 (T.getD (com T).1 0 ^^^ (com T).2.2.1)).set (com T).2.1 (T.getD (com T).2.1 0 ^^^ (com T).2.2.1)) ++ [(com T).2.2.1]
def parS (G O : Nat) (st : Nat × List Nat × List (Int × Int × Int)) : Nat × List Nat × List (Int × Int × Int) :=
  if (com st.2.1).2.2.1 = 0 then st else (st.1 + 1, parT st.2.1, st.2.2 ++ sumO G O ((G + O + st.1 : Nat) : Int) (2 ^ (com st.2.1).1 ||| 2 ^ (com st.2.1).2.1))
def parN (G : Nat) (S : List Nat) : Nat → Nat × List Nat × List (Int × Int × Int)
  | 0 => (0, turnL S G, [])
  | n + 1 => parS G S.length (parN G S n)
theorem parN_stop {G : Nat} {S : List Nat} {n : Nat} (h : (com (parN G S n).2.1).2.2.1 = 0) : ∀ d, parN G S (n + d) = parN G S n := by
  intro d
  induction d with
  | zero => rfl
  | succ d ih =>
    show parS G S.length (parN G S (n + d)) = _
    rw [ih]
    unfold parS
    rw [if_pos h]
def parO (G : Nat) (S : List Nat) (n : Nat) : List (Int × Int × Int) := (parN G S n).2.2 ++ sumsO G S.length (turnL (parN G S n).2.1 S.length) S.length
/-- how many exclusive ors there are -/
def tot (L : Nat) (st : Nat × List Nat × List (Int × Int × Int)) : Nat := st.1 + sumR (fun i => cp (fun x => (st.2.1.getD x 0).testBit i) st.2.1.length - 1) L
theorem parT_len (T : List Nat) : (parT T).length = T.length + 1 := by simp [parT]
theorem parT_get {T : List Nat} (h : (com T).2.2.1 ≠ 0) (x : Nat) : (parT T).getD x 0 = if x = T.length then (com T).2.2.1 else if x = (com T).1 then T.getD x 0 ^^^ (com T).2.2.1 else if x = (com T).2.1 then T.getD x 0 ^^^ (com T).2.2.1 else T.getD x 0 := by
  obtain ⟨h1, h2, _, _⟩ := com_some h
  unfold parT
  rw [List.getD_eq_getElem?_getD]
  by_cases e : x = T.length
  · rw [if_pos e, e, List.getElem?_append_right (by simp)]; simp
  · rw [if_neg e]
    by_cases e2 : x < T.length
    · rw [List.getElem?_append_left (by simpa using e2)]
      by_cases e3 : x = (com T).2.1
      · rw [if_neg (by omega), if_pos e3, e3, List.getElem?_set_self (by simpa using h2)]; rfl
      · rw [List.getElem?_set_ne (by omega)]
        by_cases e4 : x = (com T).1
        · rw [if_pos e4, e4, List.getElem?_set_self (by omega)]; rfl
        · rw [if_neg e4, if_neg e3, List.getElem?_set_ne (by omega), ← List.getD_eq_getElem?_getD]
    · rw [if_neg (by omega), if_neg (by omega), List.getElem?_eq_none (by simp; omega), List.getD_eq_getElem?_getD, List.getElem?_eq_none (by omega)]
theorem row_bit (T : List Nat) (i : Nat) : (fun x => (wd T i T.length).testBit x) = fun x => (decide (x < T.length) && (T.getD x 0).testBit i) := by
  funext x
  exact wd_bit T i T.length x
theorem row_pc {T : List Nat} (hT : T.length ≤ 64) (i : Nat) : pc (wd T i T.length) = cp (fun x => (T.getD x 0).testBit i) T.length := by
  unfold pc
  rw [← pc_bl, bl_stop (wd_lt T i T.length) hT, pc_bl, pc_cp]
  apply cp_congr
  intro k hk
  rw [wd_bit]
  simp [hk]
theorem row_xl {T : List Nat} (V : Nat → Nat) (hT : T.length ≤ 64) (i : Nat) : xl V (bl (wd T i T.length) 64) = xp V (fun x => (T.getD x 0).testBit i) T.length := by
  rw [bl_stop (wd_lt T i T.length) hT, xl_xp]
  apply xp_congr (fun _ _ _ => rfl)
  intro k hk
  rw [wd_bit]
  simp [hk]
/-- what holds while pairs are taken -/
structure PI (G : Nat) (S : List Nat) (st : Nat × List Nat × List (Int × Int × Int)) : Prop where
  len : st.2.1.length = G + st.1
  lt : ∀ t ∈ st.2.1, t < 2 ^ S.length
  bd : Bd G (G + S.length + st.1) st.2.2
  regs : ∀ x, x < G + st.1 → fl G st.2.2 (trm G S.length x) = true
  sem : ∀ i, i < S.length → xp (fun x => sm G st.2.2 (trm G S.length x)) (fun x => (st.2.1.getD x 0).testBit i) (G + st.1) = S.getD i 0
  xrs : xr st.2.2 = st.1
  lens : st.2.2.length = 2 * st.1
theorem PI.start {G : Nat} {S : List Nat} (hS : ∀ s ∈ S, s < 2 ^ G) : PI G S (parN G S 0) := by
  refine ⟨by simp [parN, turnL], ?_, Bd.nil _ _, ?_, ?_, rfl, rfl⟩
  · intro t ht
    simp only [parN, turnL, List.mem_map] at ht
    obtain ⟨i, _, rfl⟩ := ht
    exact wd_lt _ _ _
  · intro x hx
    have hx' : x < G := by simpa [parN] using hx
    simp only [trm, if_pos hx']
    exact fl_given _ hx'
  · intro i hi
    simp only [parN, Nat.add_zero]
    have e : xp (fun x => sm G [] (trm G S.length x)) (fun x => ((turnL S G).getD x 0).testBit i) G = xp (fun x => 2 ^ x) (fun x => (S.getD i 0).testBit x) G := by
      apply xp_congr
      · intro k hk _
        simp only [trm, if_pos hk]
        exact (Bd.nil G G).giv k hk
      · intro k hk
        rw [turnL_get hk, wd_bit]
        simp [hi]
    rw [e, ← xl_xp, xl_bl]
    exact Nat.mod_eq_of_lt (getD_lt (Nat.pow_pos (by decide)) hS i)
theorem trm_inj {G O a b : Nat} (h : trm G O a = trm G O b) : a = b := by
  unfold trm at h
  split at h <;> split at h <;> omega
theorem pow_two_bits {a b : Nat} (hab : a < b) (hb : b < 64) : 2 ^ a ||| 2 ^ b < 2 ^ 64 ∧ bl (2 ^ a ||| 2 ^ b) 64 = [a, b] := by
  have hlt : 2 ^ a ||| 2 ^ b < 2 ^ 64 := Nat.or_lt_two_pow (Nat.pow_lt_pow_right (by decide) (by omega)) (Nat.pow_lt_pow_right (by decide) hb)
  refine ⟨hlt, ?_⟩
  have hbit : ∀ x, (2 ^ a ||| 2 ^ b).testBit x = (decide (a = x) || decide (b = x)) := by
    intro x
    rw [Nat.testBit_or, Nat.testBit_two_pow, Nat.testBit_two_pow]
  have key : ∀ n, bl (2 ^ a ||| 2 ^ b) n = (if a < n then [a] else []) ++ (if b < n then [b] else []) := by
    intro n
    induction n with
    | zero => rfl
    | succ n ih =>
      by_cases e1 : a = n
      · subst e1
        rw [bl_t (by rw [hbit]; simp), ih, if_neg (by omega), if_neg (by omega), if_pos (by omega), if_neg (by omega)]
        rfl
      · by_cases e2 : b = n
        · subst e2
          rw [bl_t (by rw [hbit]; simp), ih, if_pos hab, if_neg (by omega), if_pos (by omega), if_pos (by omega)]
          rfl
        · rw [bl_f (by rw [hbit]; simp [e1, e2]), ih]
          congr 1
          · by_cases h : a < n
            · rw [if_pos h, if_pos (by omega)]
            · rw [if_neg h, if_neg (by omega)]
          · by_cases h : b < n
            · rw [if_pos h, if_pos (by omega)]
            · rw [if_neg h, if_neg (by omega)]
  rw [key, if_pos (by omega), if_pos hb]
  rfl
/-- a row's places behind a step -/
theorem parT_row {T : List Nat} (h : (com T).2.2.1 ≠ 0) (i : Nat) : ∀ k, k < T.length + 1 → ((parT T).getD k 0).testBit i = if (com T).2.2.1.testBit i = true then (if k = T.length then true else off (off (fun x => (T.getD x 0).testBit i) (com T).1) (com T).2.1 k) else (if k = T.length then false else (T.getD k 0).testBit i) := by
  intro k hk
  obtain ⟨h1, h2, h3, _⟩ := com_some h
  have hc : (com T).2.2.1.testBit i = ((T.getD (com T).1 0).testBit i && (T.getD (com T).2.1 0).testBit i) := by rw [h3, Nat.testBit_and]
  rw [parT_get h]
  by_cases e : k = T.length
  · rw [if_pos e, if_pos e, if_pos e]
    cases (com T).2.2.1.testBit i <;> rfl
  · rw [if_neg e, if_neg e, if_neg e]
    unfold off
    by_cases e1 : k = (com T).1
    · subst e1
      have e12 : ¬ (com T).1 = (com T).2.1 := by omega
      rw [if_pos rfl, Nat.testBit_xor, if_neg e12, if_pos rfl]
      cases c : (com T).2.2.1.testBit i
      · simp
      · rw [c] at hc
        have := (Bool.and_eq_true_iff.1 hc.symm).1
        rw [this]
        rfl
    · rw [if_neg e1]
      by_cases e2 : k = (com T).2.1
      · subst e2
        rw [if_pos rfl, Nat.testBit_xor, if_pos rfl]
        cases c : (com T).2.2.1.testBit i
        · simp
        · rw [c] at hc
          have := (Bool.and_eq_true_iff.1 hc.symm).2
          rw [this]
          rfl
      · rw [if_neg e2, if_neg e1, if_neg e2]
        cases (com T).2.2.1.testBit i <;> rfl
theorem cp_last (p : Nat → Bool) (n : Nat) : cp p (n + 1) = cp p n + (p n).toNat := rfl
theorem parT_cp {T : List Nat} (h : (com T).2.2.1 ≠ 0) (i : Nat) : (cp (fun x => ((parT T).getD x 0).testBit i) (T.length + 1) - 1) + ((com T).2.2.1.testBit i).toNat = cp (fun x => (T.getD x 0).testBit i) T.length - 1 := by
  obtain ⟨h1, h2, h3, _⟩ := com_some h
  have hc : (com T).2.2.1.testBit i = ((T.getD (com T).1 0).testBit i && (T.getD (com T).2.1 0).testBit i) := by rw [h3, Nat.testBit_and]
  have hrow := parT_row h i
  cases c : (com T).2.2.1.testBit i
  · rw [c] at hrow
    rw [cp_last]
    have e1 : cp (fun x => ((parT T).getD x 0).testBit i) T.length = cp (fun x => (T.getD x 0).testBit i) T.length := by
      apply cp_congr
      intro k hk
      rw [hrow k (by omega), if_neg (by decide), if_neg (by omega)]
    have e2 : ((parT T).getD T.length 0).testBit i = false := by rw [hrow _ (by omega), if_neg (by decide), if_pos rfl]
    rw [e1, e2]
    rfl
  · rw [c] at hrow hc
    obtain ⟨ha, hb⟩ := Bool.and_eq_true_iff.1 hc.symm
    rw [cp_last]
    have e1 : cp (fun x => ((parT T).getD x 0).testBit i) T.length = cp (off (off (fun x => (T.getD x 0).testBit i) (com T).1) (com T).2.1) T.length := by
      apply cp_congr
      intro k hk
      rw [hrow k (by omega), if_pos rfl, if_neg (by omega)]
    have e2 : ((parT T).getD T.length 0).testBit i = true := by rw [hrow _ (by omega), if_pos rfl, if_pos rfl]
    rw [e1, e2]
    have h4 := cp_off (fun x => (T.getD x 0).testBit i) (com T).1 ha T.length
    have h5 := cp_off (off (fun x => (T.getD x 0).testBit i) (com T).1) (com T).2.1 (by unfold off; rw [if_neg (by omega)]; exact hb) T.length
    rw [if_pos (by omega)] at h4 h5
    simp only [Bool.toNat_true]
    omega
theorem sumR_bit (c L : Nat) : sumR (fun i => (c.testBit i).toNat) L = pcF L c := by
  rw [pc_cp]
  induction L with
  | zero => rfl
  | succ L ih => simp only [sumR, cp]; rw [ih]
theorem tot_step {G : Nat} {S : List Nat} {st : Nat × List Nat × List (Int × Int × Int)} (hp : PI G S st) (hL : S.length ≤ 40) (h : (com st.2.1).2.2.1 ≠ 0) : tot S.length (parS G S.length st) + 1 ≤ tot S.length st := by
  obtain ⟨h1, h2, h3, h4⟩ := com_some h
  unfold tot parS
  rw [if_neg h]
  simp only [parT_len]
  have hlt : (com st.2.1).2.2.1 < 2 ^ S.length := by
    rw [h3]
    exact Nat.lt_of_le_of_lt Nat.and_le_left (getD_lt (Nat.pow_pos (by decide)) hp.lt _)
  have e := sumR_congr (n := S.length) (fun i _ => (parT_cp h i).symm)
  rw [sumR_add, sumR_bit] at e
  have e2 : pcF S.length (com st.2.1).2.2.1 = pc (com st.2.1).2.2.1 := by
    unfold pc
    rw [← pc_bl, ← pc_bl, bl_stop hlt (by omega : S.length ≤ 64)]
  rw [e2] at e
  omega
theorem PI.step {G : Nat} {S : List Nat} {st : Nat × List Nat × List (Int × Int × Int)} (hp : PI G S st) (hG1 : 1 ≤ G) (hG : G ≤ 48) (hB : st.1 < 16) (h : (com st.2.1).2.2.1 ≠ 0) : PI G S (parS G S.length st) := by
  obtain ⟨B, T, ops⟩ := st
  simp only at hB h
  obtain ⟨h1, h2, h3, h4⟩ := com_some h
  have hlen := hp.len
  simp only at hlen
  have hsum := hp.bd.mono (n' := G + S.length + (B + 1)) (by simp only; omega)
  simp only at hsum
  unfold parS
  simp only
  rw [if_neg h]
  obtain ⟨p1, p2⟩ := pow_two_bits h1 (by omega : (com T).2.1 < 64)
  generalize ha : (com T).1 = a at *
  generalize hb : (com T).2.1 = b at *
  have hbits : ∀ x, (2 ^ a ||| 2 ^ b).testBit x = true → x < G + B := by
    intro x hx
    rw [Nat.testBit_or, Nat.testBit_two_pow, Nat.testBit_two_pow] at hx
    simp at hx
    omega
  obtain ⟨b1, b2, b3⟩ := hsum.sum S.length (G + S.length + B) (2 ^ a ||| 2 ^ b) hG1 (by omega) (by omega) p1 (by
    intro x hx
    have := hbits x hx
    refine ⟨?_, ?_, hp.regs x this⟩
    · unfold trm; split <;> omega
    · unfold trm; split <;> omega)
  have hxr := xr_sum G S.length (G + S.length + B) (2 ^ a ||| 2 ^ b)
  have hpc : pc (2 ^ a ||| 2 ^ b) = 2 := by unfold pc; rw [← pc_bl, p2]; rfl
  have hslen : (sumO G S.length ((G + S.length + B : Nat) : Int) (2 ^ a ||| 2 ^ b)).length = 2 := by
    unfold sumO
    rw [if_neg (by intro e; rw [e, pc_zero] at hpc; omega)]
    unfold addO
    rw [addN_len]
    exact hpc
  have htn : trm G S.length (G + B) = G + S.length + B := by unfold trm; rw [if_neg (by omega)]; omega
  have hV : ∀ x, x < G + B → sm G (ops ++ sumO G S.length ((G + S.length + B : Nat) : Int) (2 ^ a ||| 2 ^ b)) (trm G S.length x) = sm G ops (trm G S.length x) := by
    intro x hx
    rw [b2, if_neg]
    unfold trm
    split <;> omega
  refine ⟨?_, ?_, b1, ?_, ?_, ?_, ?_⟩
  · simp only [parT_len]; omega
  · intro t ht
    simp only [parT] at ht
    have hc : (com T).2.2.1 < 2 ^ S.length := by
      rw [h3]
      exact Nat.lt_of_le_of_lt Nat.and_le_left (getD_lt (Nat.pow_pos (by decide)) hp.lt _)
    rw [List.mem_append, List.mem_singleton] at ht
    rcases ht with ht | rfl
    · rcases List.mem_or_eq_of_mem_set ht with ht | rfl
      · rcases List.mem_or_eq_of_mem_set ht with ht | rfl
        · exact hp.lt t ht
        · exact Nat.xor_lt_two_pow (getD_lt (Nat.pow_pos (by decide)) hp.lt _) hc
      · exact Nat.xor_lt_two_pow (getD_lt (Nat.pow_pos (by decide)) hp.lt _) hc
    · exact hc
  · intro x hx
    simp only at hx
    rw [b3]
    by_cases e : x = G + B
    · rw [e, htn]; simp
    · rw [hp.regs x (by simp only; omega)]; rfl
  · intro i hi
    have hold := hp.sem i hi
    simp only at hold ⊢
    rw [← Nat.add_assoc]
    have hrow := parT_row h i
    rw [hlen, ha, hb] at hrow
    have hcb : (com T).2.2.1.testBit i = ((T.getD a 0).testBit i && (T.getD b 0).testBit i) := by rw [h3, Nat.testBit_and]
    simp only [xp]
    cases c : (com T).2.2.1.testBit i
    · rw [c] at hrow
      rw [if_neg (by rw [hrow _ (by omega), if_neg (by decide), if_pos rfl]; decide)]
      rw [← hold]
      apply xp_congr
      · intro k hk _; exact hV k hk
      · intro k hk; rw [hrow k (by omega), if_neg (by decide), if_neg (by omega)]
    · rw [c] at hrow hcb
      obtain ⟨hpa, hpb⟩ := Bool.and_eq_true_iff.1 hcb.symm
      rw [if_pos (by rw [hrow _ (by omega), if_pos rfl, if_pos rfl])]
      have e1 : xp (fun x => sm G (ops ++ sumO G S.length ((G + S.length + B : Nat) : Int) (2 ^ a ||| 2 ^ b)) (trm G S.length x)) (fun x => ((parT T).getD x 0).testBit i) (G + B) = xp (fun x => sm G ops (trm G S.length x)) (off (off (fun x => (T.getD x 0).testBit i) a) b) (G + B) := by
        apply xp_congr
        · intro k hk _; exact hV k hk
        · intro k hk; rw [hrow k (by omega), if_pos rfl, if_neg (by omega)]
      rw [e1, xp_off _ _ b (by unfold off; rw [if_neg (by omega)]; exact hpb), if_pos (by omega), xp_off _ _ a hpa, if_pos (by omega), hold, htn, b2, if_pos rfl, p2]
      simp only [xl, Nat.xor_zero]
      rw [Nat.xor_assoc, Nat.xor_assoc, ← Nat.xor_assoc (sm G ops (trm G S.length b)), Nat.xor_comm (sm G ops (trm G S.length b)), Nat.xor_assoc (sm G ops (trm G S.length a)), Nat.xor_self, Nat.xor_zero, Nat.xor_self, Nat.xor_zero]
  · simp only
    rw [xr_append, hp.xrs, hxr, hpc]
  · simp only
    rw [List.length_append, hp.lens, hslen]
    simp only
    omega
end Sh
end Go.Proofs.Ythhbpofcemoflab
namespace Go.Proofs.Ythhbpofcemoflab
open Go.RowKit
set_option maxRecDepth 20000
namespace Sh
theorem parN_inv {G : Nat} {S : List Nat} (hG1 : 1 ≤ G) (hG : G ≤ 48) (hS : ∀ s ∈ S, s < 2 ^ G) : ∀ n, n ≤ 16 → PI G S (parN G S n) ∧ (parN G S n).1 ≤ n := by
  intro n
  induction n with
  | zero => intro _; exact ⟨PI.start hS, Nat.le_refl _⟩
  | succ n ih =>
    intro hn
    obtain ⟨h1, h2⟩ := ih (by omega)
    by_cases c : (com (parN G S n).2.1).2.2.1 = 0
    · have := parN_stop c 1
      rw [this]
      exact ⟨h1, by omega⟩
    · refine ⟨h1.step hG1 hG (by omega) c, ?_⟩
      show (parS G S.length (parN G S n)).1 ≤ n + 1
      unfold parS
      rw [if_neg c]
      simp only
      omega
theorem tot_mono {G : Nat} {S : List Nat} (hG1 : 1 ≤ G) (hG : G ≤ 48) (hS : ∀ s ∈ S, s < 2 ^ G) (hL : S.length ≤ 40) (n : Nat) (hn : n + 1 ≤ 16) : tot S.length (parN G S (n + 1)) ≤ tot S.length (parN G S n) := by
  by_cases c : (com (parN G S n).2.1).2.2.1 = 0
  · have := parN_stop c 1
    rw [this]
    exact Nat.le_refl _
  · have := tot_step (parN_inv hG1 hG hS n (by omega)).1 hL c
    show tot S.length (parS G S.length (parN G S n)) ≤ _
    omega
theorem tot_le {G : Nat} {S : List Nat} (hG1 : 1 ≤ G) (hG : G ≤ 48) (hS : ∀ s ∈ S, s < 2 ^ G) (hL : S.length ≤ 40) {m n : Nat} (hmn : m ≤ n) (hn : n ≤ 16) : tot S.length (parN G S n) ≤ tot S.length (parN G S m) := by
  obtain ⟨d, rfl⟩ := Nat.exists_eq_add_of_le hmn
  induction d with
  | zero => exact Nat.le_refl _
  | succ d ih =>
    have h1 := ih (by omega) (by omega)
    have h2 := tot_mono hG1 hG hS hL (m + d) (by omega)
    exact Nat.le_trans h2 h1
theorem tot_start {G : Nat} {S : List Nat} (hG : G ≤ 64) (hS : ∀ s ∈ S, s < 2 ^ G) : tot S.length (parN G S 0) = sumR (fun j => pc (S.getD j 0) - 1) S.length := by
  unfold tot
  simp only [parN, Nat.zero_add]
  apply sumR_congr
  intro i hi
  have hlt := getD_lt (Nat.pow_pos (by decide)) hS i
  have e : pc (S.getD i 0) = pcF G (S.getD i 0) := by
    unfold pc
    rw [← pc_bl, bl_stop hlt hG, pc_bl]
  have e2 : cp (fun x => ((turnL S G).getD x 0).testBit i) G = pcF G (S.getD i 0) := by
    rw [pc_cp]
    apply cp_congr
    intro k hk
    rw [turnL_get hk, wd_bit]
    simp [hi]
  rw [turnL_len, e, e2]
/-- the rows that come out, behind the pairs -/
theorem PI.outs {G : Nat} {S : List Nat} {st : Nat × List Nat × List (Int × Int × Int)} (h : PI G S st) (hG1 : 1 ≤ G) (hG : G ≤ 48) (hB : st.1 ≤ 16) : ∀ i, i ≤ S.length → Bd G (G + S.length + st.1) (st.2.2 ++ sumsO G S.length (turnL st.2.1 S.length) i) ∧
    (∀ x, x < G + st.1 → fl G (st.2.2 ++ sumsO G S.length (turnL st.2.1 S.length) i) (trm G S.length x) = true ∧ sm G (st.2.2 ++ sumsO G S.length (turnL st.2.1 S.length) i) (trm G S.length x) = sm G st.2.2 (trm G S.length x)) ∧
    (∀ j, j < i → fl G (st.2.2 ++ sumsO G S.length (turnL st.2.1 S.length) i) (G + j) = true ∧ sm G (st.2.2 ++ sumsO G S.length (turnL st.2.1 S.length) i) (G + j) = S.getD j 0) := by
  intro i
  induction i with
  | zero =>
    intro _
    simp only [sumsO, List.append_nil]
    exact ⟨h.bd, fun x hx => ⟨h.regs x hx, trivial⟩, fun j hj => by omega⟩
  | succ i ih =>
    intro hi
    obtain ⟨h1, h2, h3⟩ := ih (by omega)
    simp only [sumsO]
    rw [← List.append_assoc, turnL_get (by omega : i < S.length)]
    generalize st.2.2 ++ sumsO G S.length (turnL st.2.1 S.length) i = A at *
    have hlen := h.len
    have hwl := wd_lt st.2.1 i st.2.1.length
    have hw64 : wd st.2.1 i st.2.1.length < 2 ^ 64 := Nat.lt_of_lt_of_le hwl (Nat.pow_le_pow_right (by decide) (by omega))
    have hx : ∀ x, (wd st.2.1 i st.2.1.length).testBit x = true → x < G + st.1 := by
      intro x hx
      rw [wd_bit] at hx
      simp at hx
      omega
    obtain ⟨b1, b2, b3⟩ := h1.sum S.length (G + i) (wd st.2.1 i st.2.1.length) hG1 (by omega) (by omega) hw64 (by
      intro x hxb
      have := hx x hxb
      refine ⟨?_, ?_, (h2 x this).1⟩
      · unfold trm; split <;> omega
      · unfold trm; split <;> omega)
    refine ⟨b1, ?_, ?_⟩
    · intro x hxl
      have hne : trm G S.length x ≠ G + i := by unfold trm; split <;> omega
      rw [b3, b2, if_neg hne, (h2 x hxl).1]
      exact ⟨rfl, (h2 x hxl).2⟩
    · intro j hj
      by_cases e : j = i
      · subst e
        rw [b3, b2, if_pos rfl, row_xl _ (by omega), hlen]
        refine ⟨by simp, ?_⟩
        rw [← h.sem j (by omega)]
        exact xp_congr (fun k hk _ => (h2 k hk).2) (fun _ _ => rfl)
      · rw [b3, b2, if_neg (by omega), (h3 j (by omega)).1]
        exact ⟨rfl, (h3 j (by omega)).2⟩
theorem sumO_short (G O t s : Nat) (hs : s < 2 ^ 64) : (sumO G O (t : Int) s).length ≤ (pc s - 1) + 1 := by
  unfold sumO
  split
  · exact Nat.succ_le_succ (Nat.zero_le _)
  · next h0 =>
    unfold addO
    rw [addN_len]
    have := pc_pos h0 hs
    unfold pc at *
    omega
theorem sumsO_short (G O : Nat) (R : List Nat) (hR : ∀ r ∈ R, r < 2 ^ 64) (i : Nat) : (sumsO G O R i).length ≤ sumR (fun j => pc (R.getD j 0) - 1) i + i := by
  induction i with
  | zero => exact Nat.le_refl _
  | succ i ih =>
    have := sumO_short G O (G + i) (R.getD i 0) (getD_lt (Nat.pow_pos (by decide)) hR i)
    simp only [sumsO, sumR, List.length_append]
    omega
theorem plain_le {G : Nat} {S : List Nat} (hG : G ≤ 48) (hS : ∀ s ∈ S, s < 2 ^ G) (n : Nat) : sumR (fun j => pc (S.getD j 0) - 1) n ≤ 47 * n := by
  induction n with
  | zero => exact Nat.le_refl _
  | succ n ih =>
    have := pc_le_of (getD_lt (Nat.pow_pos (by decide)) hS n) (by omega : G ≤ 64)
    simp only [sumR]
    omega
theorem rows_pc {S : List Nat} {st : Nat × List Nat × List (Int × Int × Int)} (hl : st.2.1.length ≤ 64) : sumR (fun j => pc ((turnL st.2.1 S.length).getD j 0) - 1) S.length = sumR (fun i => cp (fun x => (st.2.1.getD x 0).testBit i) st.2.1.length - 1) S.length := by
  apply sumR_congr
  intro i hi
  rw [turnL_get hi, row_pc hl]
theorem par_good {G : Nat} {S : List Nat} (hG1 : 1 ≤ G) (hG : G ≤ 48) (hS : ∀ s ∈ S, s < 2 ^ G) (hL1 : 1 ≤ S.length) (hL : S.length ≤ 40) (n : Nat) (hn : n ≤ 16) : Good G S (parN G S n).1 (parO G S n) ∧ xr (parO G S n) = tot S.length (parN G S n) := by
  obtain ⟨h1, h2⟩ := parN_inv hG1 hG hS n hn
  obtain ⟨b1, _, b3⟩ := h1.outs hG1 hG (by omega) S.length (Nat.le_refl _)
  have hlen := h1.len
  have hrow := rows_pc (S := S) (st := parN G S n) (by omega)
  have htot : tot S.length (parN G S n) ≤ 47 * 40 := by
    refine Nat.le_trans (tot_le hG1 hG hS hL (Nat.zero_le n) hn) ?_
    rw [tot_start (by omega) hS]
    refine Nat.le_trans (plain_le hG hS S.length) ?_
    omega
  have hx : xr (parO G S n) = tot S.length (parN G S n) := by
    unfold parO tot
    rw [xr_append, h1.xrs, xr_sums, hrow]
  refine ⟨Bd.good b1 (by omega) hL1 ?_ b3, hx⟩
  unfold parO
  rw [List.length_append, h1.lens]
  have hs := sumsO_short G S.length (turnL (parN G S n).2.1 S.length) (by
    intro r hr
    simp only [turnL, List.mem_map] at hr
    obtain ⟨i, _, rfl⟩ := hr
    exact Nat.lt_of_lt_of_le (wd_lt _ _ _) (Nat.pow_le_pow_right (by decide) (by omega))) S.length
  rw [hrow] at hs
  unfold tot at htot
  omega
theorem turn_turn {G : Nat} {S : List Nat} (hS : ∀ s ∈ S, s < 2 ^ G) : turnL (turnL S G) S.length = S := by
  apply List.ext_getElem
  · rw [turnL_len]
  · intro i h1 h2
    have e1 : (turnL (turnL S G) S.length)[i] = (turnL (turnL S G) S.length).getD i 0 := by rw [List.getD_eq_getElem?_getD, List.getElem?_eq_getElem h1]; rfl
    have e2 : S[i] = S.getD i 0 := by rw [List.getD_eq_getElem?_getD, List.getElem?_eq_getElem h2]; rfl
    rw [e1, e2, turnL_get h2, turnL_len]
    apply Nat.eq_of_testBit_eq
    intro j
    rw [wd_bit]
    by_cases hj : j < G
    · rw [turnL_get hj, wd_bit]
      simp [hj, h2]
    · rw [tb_hi (getD_lt (Nat.pow_pos (by decide)) hS i) (by omega)]
      simp [hj]
theorem parO_zero {G : Nat} {S : List Nat} (hS : ∀ s ∈ S, s < 2 ^ G) : parO G S 0 = sumsO G S.length S S.length := by
  unfold parO
  simp only [parN, List.nil_append]
  rw [turn_turn hS]
theorem plain_good {G : Nat} {S : List Nat} (hG1 : 1 ≤ G) (hG : G ≤ 48) (hS : ∀ s ∈ S, s < 2 ^ G) (hL1 : 1 ≤ S.length) (hL : S.length ≤ 40) : Good G S 0 (sumsO G S.length S S.length) ∧ xr (sumsO G S.length S S.length) = sumR (fun j => pc (S.getD j 0) - 1) S.length := by
  have := par_good hG1 hG hS hL1 hL 0 (by omega)
  rw [parO_zero hS, tot_start (by omega) hS] at this
  exact this
/-- the rounds that registers besides allow -/
def rnd (scr : Int) : Nat := min scr.toNat 16
/-- the program at a level -/
def opt (lev scr : Int) (G : Nat) (S : List Nat) : Nat × List (Int × Int × Int) :=
  if lev = 1 then (0, dif G S) else if lev = 2 then ((parN G S (rnd scr)).1, parO G S (rnd scr)) else if lev = 3 then (if xr (parO G S (rnd scr)) < xr (dif G S) then ((parN G S (rnd scr)).1, parO G S (rnd scr)) else (0, dif G S)) else (0, sumsO G S.length S S.length)
theorem rnd_le (scr : Int) : rnd scr ≤ 16 := Nat.min_le_right _ _
theorem opt_good (lev scr : Int) {G : Nat} {S : List Nat} (hG1 : 1 ≤ G) (hG : G ≤ 48) (hS : ∀ s ∈ S, s < 2 ^ G) (hL1 : 1 ≤ S.length) (hL : S.length ≤ 40) : Good G S (opt lev scr G S).1 (opt lev scr G S).2 := by
  have h1 := (dif_good hG1 hG hS hL1 hL).1
  have h2 := (par_good hG1 hG hS hL1 hL (rnd scr) (rnd_le scr)).1
  have h3 := (plain_good hG1 hG hS hL1 hL).1
  unfold opt
  split
  · exact h1
  · split
    · exact h2
    · split
      · split
        · exact h2
        · exact h1
      · exact h3
/-- programs of the same sums give the same registers -/
theorem Good.regs {G B : Nat} {S : List Nat} {ops : List (Int × Int × Int)} (h : Good G S B ops) (hG : G ≤ 64) (hS : ∀ s ∈ S, s < 2 ^ G) {D : List (List Int)} (hD : D.length = G) (hb : Bytes D) {size j : Nat} (hj : j < S.length) : regAt ops D G size size size 0 j = regAt (plain G (S.map Int.ofNat)) D G size size size 0 j := by
  have hlt := getD_lt (Nat.pow_pos (by decide)) hS j
  refine regAt_means hD hb (by rw [List.length_map]; exact hj) (S.getD j 0) ?_ (Nat.lt_of_lt_of_le hlt (Nat.pow_le_pow_right (by decide) hG)) (h.means j hj)
  simp [List.getD_eq_getElem?_getD, List.getElem?_eq_getElem hj]
end Sh
end Go.Proofs.Ythhbpofcemoflab
namespace Go.Proofs.Ythhbpofcemoflab
open Go.RowKit
set_option maxRecDepth 20000
namespace Sh
/-- the exclusive ors of the program of a level -/
def cnt (lev scr : Int) (G : Nat) (S : List Nat) : Nat := xr (opt lev scr G S).2
/-- the plain count -/
def pln (S : List Nat) : Nat := sumR (fun j => pc (S.getD j 0) - 1) S.length
structure Fit (G : Nat) (S : List Nat) : Prop where
  g1 : 1 ≤ G
  g : G ≤ 48
  lt : ∀ s ∈ S, s < 2 ^ G
  l1 : 1 ≤ S.length
  l : S.length ≤ 40
theorem rnd_nat {k : Nat} (hk : k ≤ 16) : rnd (k : Int) = k := by
  unfold rnd
  rw [Int.toNat_natCast]
  omega
theorem Fit.good {G : Nat} {S : List Nat} (h : Fit G S) (lev scr : Int) : Good G S (opt lev scr G S).1 (opt lev scr G S).2 := opt_good lev scr h.g1 h.g h.lt h.l1 h.l
theorem Fit.cnt0 {G : Nat} {S : List Nat} (h : Fit G S) (scr : Int) : cnt 0 scr G S = pln S := (plain_good h.g1 h.g h.lt h.l1 h.l).2
theorem cnt1_eq (scr : Int) (G : Nat) (S : List Nat) : cnt 1 scr G S = xr (dif G S) := rfl
theorem Fit.cnt1 {G : Nat} {S : List Nat} (h : Fit G S) (scr : Int) : cnt 1 scr G S ≤ pln S := (dif_good h.g1 h.g h.lt h.l1 h.l).2
theorem Fit.cnt2_eq {G : Nat} {S : List Nat} (h : Fit G S) {k : Nat} (hk : k ≤ 16) : cnt 2 (k : Int) G S = tot S.length (parN G S k) := by
  show xr (parO G S (rnd (k : Int))) = _
  rw [rnd_nat hk]
  exact (par_good h.g1 h.g h.lt h.l1 h.l k hk).2
theorem Fit.tot0 {G : Nat} {S : List Nat} (h : Fit G S) : tot S.length (parN G S 0) = pln S := tot_start (by have := h.g; omega) h.lt
theorem Fit.cnt2 {G : Nat} {S : List Nat} (h : Fit G S) {k : Nat} (hk : k ≤ 16) : cnt 2 (k : Int) G S ≤ pln S := by
  rw [h.cnt2_eq hk, ← h.tot0]
  exact tot_le h.g1 h.g h.lt h.l (Nat.zero_le k) hk
theorem cnt3_eq (scr : Int) (G : Nat) (S : List Nat) : cnt 3 scr G S = min (cnt 2 scr G S) (cnt 1 scr G S) := by
  have e2 : cnt 2 scr G S = xr (parO G S (rnd scr)) := rfl
  have e1 : cnt 1 scr G S = xr (dif G S) := rfl
  have e3 : cnt 3 scr G S = xr (if xr (parO G S (rnd scr)) < xr (dif G S) then ((parN G S (rnd scr)).1, parO G S (rnd scr)) else (0, dif G S)).2 := rfl
  rw [e1, e2, e3]
  split
  · show xr (parO G S (rnd scr)) = _
    omega
  · show xr (dif G S) = _
    omega
theorem cnt3_1 (scr scr' : Int) (G : Nat) (S : List Nat) : cnt 3 scr G S ≤ cnt 1 scr' G S := by
  rw [cnt3_eq, cnt1_eq, cnt1_eq]
  omega
theorem cnt3_2 (scr : Int) (G : Nat) (S : List Nat) : cnt 3 scr G S ≤ cnt 2 scr G S := by
  rw [cnt3_eq]
  omega
theorem Fit.cnt3_mono {G : Nat} {S : List Nat} (h : Fit G S) {m n : Nat} (hmn : m ≤ n) (hn : n ≤ 16) : cnt 3 (n : Int) G S ≤ cnt 3 (m : Int) G S := by
  rw [cnt3_eq, cnt3_eq, cnt1_eq, cnt1_eq, h.cnt2_eq hn, h.cnt2_eq (by omega)]
  have := tot_le h.g1 h.g h.lt h.l hmn hn
  omega
theorem Fit.cnt3_0 {G : Nat} {S : List Nat} (h : Fit G S) (scr : Int) : cnt 3 scr G S ≤ pln S := Nat.le_trans (cnt3_1 scr 0 G S) (h.cnt1 0)
theorem Fit.besides {G : Nat} {S : List Nat} (h : Fit G S) (lev : Int) {k : Nat} (hk : k ≤ 16) : (opt lev (k : Int) G S).1 ≤ k := by
  have hb := (parN_inv h.g1 h.g h.lt k hk).2
  unfold opt
  rw [rnd_nat hk]
  split
  · exact Nat.zero_le _
  · split
    · exact hb
    · split
      · split
        · exact hb
        · exact Nat.zero_le _
      · exact Nat.zero_le _
theorem Fit.cnt_le {G : Nat} {S : List Nat} (h : Fit G S) (lev scr : Int) : cnt lev scr G S ≤ 2048 := Nat.le_trans (List.length_filter_le _ _) (h.good lev scr).len
theorem bl_sorted (s n : Nat) : (bl s n).Pairwise (· < ·) := by
  induction n with
  | zero => exact List.Pairwise.nil
  | succ n ih =>
    by_cases c : s.testBit n = true
    · rw [bl_t c, List.pairwise_append]
      refine ⟨ih, by simp, ?_⟩
      intro a ha b hb
      rw [List.mem_singleton] at hb
      subst hb
      exact (bl_mem.1 ha).1
    · rw [bl_f (by simpa using c)]
      exact ih
/-- two bits of a word with more than one -/
theorem two_bits {c : Nat} (h : c &&& (c - 1) ≠ 0) (hc : c < 2 ^ 64) : ∃ a b, a < b ∧ c.testBit a = true ∧ c.testBit b = true := by
  have h0 : c ≠ 0 := by
    intro e
    subst e
    exact h rfl
  have h1 := pc_step h0 hc
  have h2 := pc_pos h (Nat.lt_of_le_of_lt Nat.and_le_left hc)
  have h3 : (bl c 64).length = pc c := pc_bl 64 c
  have h4 := bl_sorted c 64
  cases e : bl c 64 with
  | nil => rw [e] at h3; simp at h3; omega
  | cons a l =>
    cases l with
    | nil => rw [e] at h3; simp at h3; omega
    | cons b l =>
      rw [e] at h4
      refine ⟨a, b, ?_, (bl_mem.1 (e ▸ (by simp) : a ∈ bl c 64)).2, (bl_mem.1 (e ▸ (by simp) : b ∈ bl c 64)).2⟩
      exact (List.pairwise_cons.1 h4).1 b (by simp)
theorem Fit.cnt2_lt {G : Nat} {S : List Nat} (h : Fit G S) {k : Nat} (hk1 : 1 ≤ k) (hk : k ≤ 16) {i j : Nat} (hji : j < i) (hi : i < S.length) (hc : (S.getD i 0 &&& S.getD j 0) &&& ((S.getD i 0 &&& S.getD j 0) - 1) ≠ 0) : cnt 2 (k : Int) G S < pln S := by
  have hli := getD_lt (Nat.pow_pos (by decide)) h.lt i
  have hlc : S.getD i 0 &&& S.getD j 0 < 2 ^ 64 := Nat.lt_of_le_of_lt Nat.and_le_left (Nat.lt_of_lt_of_le hli (Nat.pow_le_pow_right (by decide) (by have := h.g; omega)))
  obtain ⟨a, b, hab, ha, hb⟩ := two_bits hc hlc
  rw [Nat.testBit_and, Bool.and_eq_true] at ha hb
  have hbG : b < G := by
    by_cases c : b < G
    · exact c
    · have := tb_hi hli (by omega : G ≤ b)
      rw [this] at hb
      exact absurd hb.1 (by decide)
  have haG : a < G := by omega
  have hne : (com (parN G S 0).2.1).2.2.1 ≠ 0 := by
    intro e
    have := com_none e a b hab (by show b < (turnL S G).length; rw [turnL_len]; exact hbG)
    have e1 : (parN G S 0).2.1 = turnL S G := rfl
    rw [e1, turnL_get haG, turnL_get hbG] at this
    have h2 : 2 ≤ pc (wd S a S.length &&& wd S b S.length) := by
      unfold pc
      rw [pc_cp]
      refine cp_two hji (by have := h.l; omega) ?_ ?_
      · rw [Nat.testBit_and, wd_bit, wd_bit, ha.2, hb.2]
        simp; omega
      · rw [Nat.testBit_and, wd_bit, wd_bit, ha.1, hb.1]
        simp; omega
    omega
  have h1 := tot_step (parN_inv h.g1 h.g h.lt 0 (by omega)).1 h.l hne
  have h2 := tot_le h.g1 h.g h.lt h.l hk1 hk
  have h3 : tot S.length (parN G S 1) = tot S.length (parS G S.length (parN G S 0)) := rfl
  rw [h.cnt2_eq hk, ← h.tot0]
  omega
end Sh
end Go.Proofs.Ythhbpofcemoflab
namespace Go.Proofs.Ythhbpofcemoflab
open Go.RowKit
set_option maxRecDepth 20000
namespace Sh
theorem wrapi64 (x : Int) (h0 : 0 ≤ x) (h1 : x < 9223372036854775808) : IntKind.i64.wrap x = x := by
  rw [IntKind.wrap_i64]
  omega
theorem bits_andi (a b : Nat) (ha : a < 2 ^ 62) (hb : b < 2 ^ 62) : bits .and .i64 (a : Int) (b : Int) = ((a &&& b : Nat) : Int) := by
  have ha' : a % 2 ^ IntKind.i64.bits = a := Nat.mod_eq_of_lt (Nat.lt_of_lt_of_le ha (by decide))
  have hb' : b % 2 ^ IntKind.i64.bits = b := Nat.mod_eq_of_lt (Nat.lt_of_lt_of_le hb (by decide))
  have hx : a &&& b < 2 ^ 62 := Nat.and_lt_two_pow _ hb
  simp only [bits, BitVec.ofInt_natCast, BitVec.toNat_and, BitVec.toNat_ofNat, ha', hb']
  exact wrapi64 _ (by omega) (by omega)
theorem bits_xori (a b : Nat) (ha : a < 2 ^ 62) (hb : b < 2 ^ 62) : bits .xor .i64 (a : Int) (b : Int) = ((a ^^^ b : Nat) : Int) := by
  have ha' : a % 2 ^ IntKind.i64.bits = a := Nat.mod_eq_of_lt (Nat.lt_of_lt_of_le ha (by decide))
  have hb' : b % 2 ^ IntKind.i64.bits = b := Nat.mod_eq_of_lt (Nat.lt_of_lt_of_le hb (by decide))
  have hx : a ^^^ b < 2 ^ 62 := Nat.xor_lt_two_pow ha hb
  simp only [bits, BitVec.ofInt_natCast, BitVec.toNat_xor, BitVec.toNat_ofNat, ha', hb']
  exact wrapi64 _ (by omega) (by omega)
/-- a word and one less -/
theorem bits_less (c : Nat) (hc : c < 2 ^ 62) : bits .and .i64 (c : Int) ((c : Int) - 1) = ((c &&& (c - 1) : Nat) : Int) := by
  rcases Nat.eq_zero_or_pos c with rfl | hp
  · decide +kernel
  · have e : (c : Int) - 1 = ((c - 1 : Nat) : Int) := by omega
    rw [e]
    exact bits_andi _ _ hc (by omega)
theorem sm_take {G : Nat} {ops : List (Int × Int × Int)} {k : Nat} {o : Int × Int × Int} (h : ops[k]? = some o) : sm G (ops.take (k + 1)) = smS o (sm G (ops.take k)) := by
  unfold sm
  rw [List.take_add_one, h, Option.toList_some, smL_append]
  rfl
theorem sm_given {G n : Nat} {ops : List (Int × Int × Int)} (h : ∀ o ∈ ops, OpOk G n o) {r : Nat} (hr : r < G) (k : Nat) : sm G (ops.take k) r = 2 ^ r := by
  induction k with
  | zero => show sm0 G r = _; unfold sm0; rw [if_pos hr]
  | succ k ih =>
    cases e : ops[k]? with
    | none =>
      rw [List.take_of_length_le (by have := List.getElem?_eq_none_iff.1 e; omega)]
      rw [List.take_of_length_le (by have := List.getElem?_eq_none_iff.1 e; omega)] at ih
      exact ih
    | some o =>
      rw [sm_take e]
      unfold smS
      obtain ⟨_, t, f, h1, _, h3, _⟩ := h o (List.mem_of_getElem? e)
      rw [if_neg (by rw [h1, Int.toNat_natCast]; omega)]
      exact ih
theorem sm_lt (G : Nat) (ops : List (Int × Int × Int)) (k : Nat) : ∀ r, sm G (ops.take k) r < 2 ^ G := by
  induction k with
  | zero =>
    intro r
    show sm0 G r < _
    unfold sm0
    split
    · exact Nat.pow_lt_pow_right (by decide) (by assumption)
    · exact Nat.pow_pos (by decide)
  | succ k ih =>
    intro r
    cases e : ops[k]? with
    | none =>
      rw [List.take_of_length_le (by have := List.getElem?_eq_none_iff.1 e; omega)]
      have := ih r
      rw [List.take_of_length_le (by have := List.getElem?_eq_none_iff.1 e; omega)] at this
      exact this
    | some o =>
      rw [sm_take e]
      unfold smS
      split
      · split
        · exact Nat.pow_pos (by decide)
        · split
          · exact ih _
          · exact Nat.xor_lt_two_pow (ih _) (ih _)
      · exact ih r
/-- what the registers that come out hold behind k operations -/
def hel (G O : Nat) (ops : List (Int × Int × Int)) (k : Nat) : List Nat := (List.range O).map fun d => sm G (ops.take k) (G + d)
theorem hel_len (G O : Nat) (ops : List (Int × Int × Int)) (k : Nat) : (hel G O ops k).length = O := by simp [hel]
theorem hel_get {G O : Nat} {ops : List (Int × Int × Int)} {k d : Nat} (hd : d < O) : (hel G O ops k)[d]? = some (sm G (ops.take k) (G + d)) := by simp [hel, hd]
theorem hel_zero (G O : Nat) (ops : List (Int × Int × Int)) : hel G O ops 0 = List.replicate O 0 := by
  apply List.ext_getElem?
  intro i
  by_cases h : i < O
  · rw [hel_get h, List.getElem?_replicate_of_lt h]
    show some (sm0 G (G + i)) = _
    unfold sm0
    rw [if_neg (by omega)]
  · rw [List.getElem?_eq_none (by rw [hel_len]; omega), List.getElem?_eq_none (by rw [List.length_replicate]; omega)]
theorem hel_succ {G O : Nat} {ops : List (Int × Int × Int)} {k d : Nat} {o : Int × Int × Int} (h : ops[k]? = some o) (ht : o.2.1 = ((G + d : Nat) : Int)) : hel G O ops (k + 1) = (hel G O ops k).set d (smS o (sm G (ops.take k)) (G + d)) := by
  apply List.ext_getElem?
  intro i
  by_cases hi : i < O
  · rw [hel_get hi, sm_take h]
    by_cases e : i = d
    · subst e
      rw [List.getElem?_set_self (by rw [hel_len]; exact hi)]
    · rw [List.getElem?_set_ne (by omega), hel_get hi]
      congr 1
      unfold smS
      rw [ht, Int.toNat_natCast, if_neg (by omega)]
  · rw [List.getElem?_eq_none (by rw [hel_len]; omega), List.getElem?_eq_none (by rw [List.length_set, hel_len]; omega)]
theorem Good.hel {G B : Nat} {S : List Nat} {ops : List (Int × Int × Int)} (h : Good G S B ops) : Sh.hel G S.length ops ops.length = S := by
  apply List.ext_getElem?
  intro i
  by_cases hi : i < S.length
  · rw [hel_get hi, List.take_length, h.means i hi, List.getD_eq_getElem?_getD, List.getElem?_eq_getElem hi]
    rfl
  · rw [List.getElem?_eq_none (by rw [hel_len]; omega), List.getElem?_eq_none (by omega)]
end Sh
end Go.Proofs.Ythhbpofcemoflab
