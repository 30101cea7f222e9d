import Derived.Test.YthhbpofcemoflabL1
import Derived.Test.YthhbpofcemoflabGc
import Derived.Test.YthhbpofcemoflabPure12
namespace Go.Proofs.Ythhbpofcemoflab
open Go.RowKit
set_option maxRecDepth 20000
namespace Sh
theorem flatMap_get {α β : Type} (f : α → List β) (R : Nat) (X : List α) (hf : ∀ x ∈ X, (f x).length = R) (j q : Nat) (hq : q < R) (x : α) (hx : X[j]? = some x) : (X.flatMap f)[j * R + q]? = (f x)[q]? := by
  induction X generalizing j with
  | nil => simp at hx
  | cons a X ih =>
    rw [List.flatMap_cons]
    have ha := hf a (by simp)
    cases j with
    | zero =>
      simp at hx
      subst hx
      rw [Nat.zero_mul, Nat.zero_add, List.getElem?_append_left (by omega)]
    | succ j =>
      simp at hx
      have e : (j + 1) * R + q = R + (j * R + q) := by rw [Nat.add_mul, Nat.one_mul]; omega
      rw [e, List.getElem?_append_right (by omega), ha, Nat.add_sub_cancel_left]
      exact ih (fun y hy => hf y (by simp [hy])) j hx
/-- a row of the data at a place -/
theorem env_row {R size : Nat} {X : List (List Int)} {j q p : Nat} {x : List Int} (hx : X[j]? = some x) (hq : q < R) (hp : p < size) : env0 (rowsD R size X) p (j * R + q) = x.getD (q * size + p) 0 := by
  have h := flatMap_get (fun x : List Int => (List.range R).map fun q => (x.drop (q * size)).take size) R X (by intro y _; simp) j q hq x hx
  simp only [List.getElem?_map, List.getElem?_range hq, Option.map_some] at h
  unfold env0 rowsD
  rw [List.getD_eq_getElem?_getD, List.getD_eq_getElem?_getD, h, Option.getD_some, List.getElem?_take, if_pos hp, List.getElem?_drop, List.getD_eq_getElem?_getD]
/-- the sum of the data at a place -/
def sumAt (X : List (List Int)) (i : Nat) : Nat → Int
  | 0 => 0
  | j + 1 => bx (sumAt X i j) ((X.getD j []).getD i 0)
theorem sumAt_byte (X : List (List Int)) (i j : Nat) : Byte (sumAt X i j) := by
  cases j with
  | zero => exact byte0
  | succ j => exact bx_byte _ _
theorem xs_block {s : Int} {env : Nat → Int} {R q : Nat} (hq : q < R) (j : Nat) (h : ∀ r, r < R → bit s (j * R + r) = decide (r = q)) : xs s env (j * R + R) = bx (xs s env (j * R)) (env (j * R + q)) := by
  have key : ∀ r, r ≤ R → xs s env (j * R + r) = if q < r then bx (xs s env (j * R)) (env (j * R + q)) else xs s env (j * R) := by
    intro r hr
    induction r with
    | zero => simp
    | succ r ih =>
      have ih := ih (by omega)
      have hb := h r (by omega)
      by_cases c : r = q
      · subst c
        have hb : bit s (j * R + r) = true := by simpa using hb
        rw [← Nat.add_assoc, xs_t hb, ih, if_neg (by omega), if_pos (by omega)]
      · have hb : ¬ bit s (j * R + r) = true := by simp [hb, c]
        rw [← Nat.add_assoc, xs_f hb, ih]
        by_cases c2 : q < r
        · rw [if_pos c2, if_pos (by omega)]
        · rw [if_neg c2, if_neg (by omega)]
  rw [key R (Nat.le_refl _), if_pos hq]
def Straight (kind : Int) (K M : Nat) (N gd : Int) : Prop := ∀ q, q < R kind N → ∀ j, j < K → ∀ r, r < R kind N → bit ((parity kind K M N gd).getD q 0) (j * R kind N + r) = decide (r = q)
theorem straight_pb {kind : Int} {K M : Nat} {N gd : Int} (hS : Straight kind K M N gd) (size : Nat) (X : List (List Int)) (hX : X.length = K) (q p : Nat) (hq : q < R kind N) (hp : p < size) : pb kind K M N gd size X q p = sumAt X (q * size + p) K := by
  unfold pb
  have key : ∀ j, j ≤ K → xs ((parity kind K M N gd).getD q 0) (env0 (rowsD (R kind N) size X) p) (j * R kind N) = sumAt X (q * size + p) j := by
    intro j hj
    induction j with
    | zero => simp [xs, sumAt]
    | succ j ih =>
      have ih := ih (by omega)
      obtain ⟨x, hx⟩ : ∃ x, X[j]? = some x := ⟨_, List.getElem?_eq_getElem (by omega)⟩
      rw [Nat.add_mul, Nat.one_mul, xs_block hq j (fun r hr => hS q hq j (by omega) r hr), ih, env_row hx hq hp]
      show _ = bx _ _
      rw [List.getD_eq_getElem?_getD (l := X), hx, Option.getD_some]
  exact key K (Nat.le_refl _)
/-- the codes that Straight speaks of -/
def good1 (t : Int × Nat × Nat × Int × Int) : Int := if t.1 = 0 ∧ t.2.2.2.2 = 0 then 1 else t.2.2.2.2
def straightB (kind : Int) (K M : Nat) (N gd : Int) : Bool := (List.range (R kind N)).all fun q => (List.range K).all fun j => (List.range (R kind N)).all fun r => bit ((parity kind K M N gd).getD q 0) (j * R kind N + r) == decide (r = q)
set_option maxRecDepth 100000 in
theorem cds_straightB : ∀ t ∈ cds, straightB t.1 t.2.1 t.2.2.1 t.2.2.2.1 (good1 t) = true := by decide +kernel
theorem cds_straight : ∀ t ∈ cds, Straight t.1 t.2.1 t.2.2.1 t.2.2.2.1 (good1 t) := by
  intro t ht q hq j hj r hr
  have h := cds_straightB t ht
  simp only [straightB, List.all_eq_true, List.mem_range, beq_iff_eq] at h
  exact h q hq j hj r hr
set_option maxRecDepth 100000 in
theorem cds_good : ∀ t ∈ cds, pbk t.1 t.2.1 t.2.2.1 t.2.2.2.1 1 = true := by decide +kernel
theorem ok_good {kind : Int} {K M : Nat} {N : Int} (h : Ok kind K M N 0) (h0 : kind = 0) (hb : pbk kind K M N 1 = true) : Ok kind K M N 1 := by
  refine Ok.of ?_ hb
  rcases h.base with ⟨d, h⟩ | ⟨n1, h⟩
  · obtain ⟨a1, a2, a3, a4, a5, a6, a7, a8, a9⟩ := h
    exact Or.inl ⟨d, a1, a2, a3, a4, a5, a6, a7, a8, Or.inr rfl⟩
  · have := h.2.2.2.2
    omega
end Sh
end Go.Proofs.Ythhbpofcemoflab
namespace Go.Proofs.Ythhbpofcemoflab
open Go.RowKit
set_option maxRecDepth 20000
namespace Sh
theorem parG_eq (R n m size : Nat) (sums : List Int) (X : List (List Int)) (hX : Bytes X) (hl : sums.length = m * R) :
    parG R n m size sums X = (List.range m).map fun k => (List.range R).flatMap fun q => (List.range size).map fun i => xs (sums.getD (k * R + q) 0) (env0 (rowsD R size X) i) (n * R) := by
  unfold parG
  apply List.map_congr_left
  intro k hk
  have hk : k < m := by simpa using hk
  unfold shB
  have key : ∀ q ∈ List.range R, (regsG R n m size sums X).getD (k * R + q) [] = (List.range size).map fun i => xs (sums.getD (k * R + q) 0) (env0 (rowsD R size X) i) (n * R) := by
    intro q hq
    have hq : q < R := by simpa using hq
    have hj : k * R + q < m * R := by
      have : (k + 1) * R ≤ m * R := Nat.mul_le_mul_right _ hk
      rw [Nat.add_mul, Nat.one_mul] at this
      omega
    rw [List.getD_eq_getElem?_getD]
    simp only [regsG, List.getElem?_map, List.getElem?_range hj, Option.map_some, Option.getD_some]
    simp only [regAt]
    apply List.map_congr_left
    intro i hi
    have hi : i < size := by simpa using hi
    rw [if_pos hi]
    exact ev_plain _ _ _ (fun r _ => env0_byte (rowsD_bytes hX) i r) _ (by rw [hl]; exact hj)
  rw [List.flatMap_def, List.flatMap_def, List.map_congr_left key]
/-- a shard, made of its rows -/
theorem shard_rows {R size : Nat} {z : List Int} (hz : z.length = R * size) (f : Nat → Nat → Int) (hf : ∀ q i, q < R → i < size → f q i = z.getD (q * size + i) 0) : ((List.range R).flatMap fun q => (List.range size).map fun i => f q i) = z := by
  apply List.ext_getElem?
  intro j
  have hfl : ((List.range R).flatMap fun q => (List.range size).map fun i => f q i).length = R * size := flat_len _ size R (by intro q _; simp)
  by_cases c : j < R * size
  · have hs0 : 0 < size := by
      rcases Nat.eq_zero_or_pos size with h | h
      · subst h; omega
      · exact h
    have hq : j / size < R := Nat.div_lt_of_lt_mul (by rw [Nat.mul_comm]; exact c)
    have hi := Nat.mod_lt j hs0
    have e : j = j / size * size + j % size := by rw [Nat.mul_comm]; exact (Nat.div_add_mod j size).symm
    generalize j / size = a at *
    generalize j % size = b at *
    subst e
    rw [flat_get _ size R (by intro q _; simp) a b hq hi, List.getElem?_map, List.getElem?_range hi, Option.map_some, hf a b hq hi, List.getD_eq_getElem?_getD, List.getElem?_eq_getElem (by omega)]
    rfl
  · rw [List.getElem?_eq_none (by omega), List.getElem?_eq_none (by omega)]
/-- all rows, as sums of rows of the data -/
def every (kind : Int) (K M : Nat) (N gd : Int) : List Nat := (List.range (K * R kind N)).map (2 ^ ·) ++ (parity kind K M N gd).map Int.toNat
def row (kind : Int) (K M : Nat) (N gd : Int) (i : Nat) : Nat := (every kind K M N gd).getD i 0
/-- the parity's numbers are in bounds -/
def Pb (kind : Int) (K M : Nat) (N gd : Int) : Prop := ∀ s ∈ parity kind K M N gd, 0 ≤ s ∧ s < 2 ^ 48
theorem row_data {kind : Int} {K M : Nat} {N gd : Int} {i : Nat} (h : i < K * R kind N) : row kind K M N gd i = 2 ^ i := by
  unfold row every
  rw [List.getD_eq_getElem?_getD, List.getElem?_append_left (by simpa using h), List.getElem?_map, List.getElem?_range h]
  rfl
theorem row_par {kind : Int} {K M : Nat} {N gd : Int} {j : Nat} (h : j < (parity kind K M N gd).length) : row kind K M N gd (K * R kind N + j) = ((parity kind K M N gd).getD j 0).toNat := by
  unfold row every
  rw [List.getD_eq_getElem?_getD, List.getElem?_append_right (by simp), List.getD_eq_getElem?_getD]
  simp [h]
theorem row_lt {kind : Int} {K M : Nat} {N gd : Int} (hP : Pb kind K M N gd) (hK : K * R kind N ≤ 48) (i : Nat) : row kind K M N gd i < 2 ^ 48 := by
  unfold row
  rw [List.getD_eq_getElem?_getD]
  cases h : (every kind K M N gd)[i]? with
  | none => exact Nat.two_pow_pos 48
  | some x =>
    rw [Option.getD_some]
    have hm := List.mem_of_getElem? h
    unfold every at hm
    rw [List.mem_append, List.mem_map, List.mem_map] at hm
    rcases hm with ⟨a, ha, rfl⟩ | ⟨s, hs, rfl⟩
    · rw [List.mem_range] at ha
      exact Nat.pow_lt_pow_right (by decide) (by omega)
    · have := hP s hs
      omega
theorem every_len {kind : Int} {K M : Nat} {N gd : Int} (h : (parity kind K M N gd).length = M * R kind N) : (every kind K M N gd).length = (K + M) * R kind N := by
  unfold every
  simp [h, Nat.add_mul]
/-- what a row holds -/
theorem row_holds {kind : Int} {K M : Nat} {N gd : Int} (hOk : Ok kind K M N gd) (hP : Pb kind K M N gd) {size : Nat} {X : List (List Int)} (hX : X.length = K) (bX : Bytes X) {t b i : Nat} (ht : t < K + M) (hb : b < R kind N) (hi : i < size) {z : List Int} (hz : (X ++ parB kind K M N gd size X)[t]? = some z) :
    ((xn (row kind K M N gd (t * R kind N + b)) (nat8 (env0 (rowsD (R kind N) size X) i)) (K * R kind N) : Nat) : Int) = z.getD (b * size + i) 0 := by
  obtain ⟨hK, hM, h10, hR1, hR2, hKR, hMR, hPL⟩ := hOk.bounds
  have hby : ∀ r, Byte (env0 (rowsD (R kind N) size X) i r) := fun r => env0_byte (rowsD_bytes bX) i r
  by_cases c : t < K
  · rw [List.getElem?_append_left (by omega)] at hz
    have hlt : t * R kind N + b < K * R kind N := by
      have : (t + 1) * R kind N ≤ K * R kind N := Nat.mul_le_mul_right _ c
      rw [Nat.add_mul, Nat.one_mul] at this
      omega
    rw [row_data hlt, xn_pow, if_pos hlt, nat8_cast hby, env_row hz hb hi]
  · rw [List.getElem?_append_right (by omega), hX] at hz
    have hjl : (t - K) * R kind N + b < (parity kind K M N gd).length := by
      rw [hPL]
      have : (t - K + 1) * R kind N ≤ M * R kind N := Nat.mul_le_mul_right _ (by omega)
      rw [Nat.add_mul, Nat.one_mul] at this
      omega
    have e : t * R kind N + b = K * R kind N + ((t - K) * R kind N + b) := by
      rw [← Nat.add_assoc, ← Nat.add_mul, show K + (t - K) = t by omega]
    have hs := hP _ (List.getElem_mem hjl)
    have hg : (parity kind K M N gd).getD ((t - K) * R kind N + b) 0 = (parity kind K M N gd)[(t - K) * R kind N + b] := by rw [List.getD_eq_getElem?_getD, List.getElem?_eq_getElem hjl]; rfl
    rw [e, row_par hjl, ← xs_xn (by rw [hg]; omega) hby, hg, Int.toNat_of_nonneg hs.1, ← hg, List.getD_eq_getElem?_getD (l := z), (parB_each hz).2 b i hb hi]
    rfl
/-- the sums of what is lost -/
def lost (kind : Int) (K M : Nat) (N gd : Int) (q : Nat) : List Nat := ls (row kind K M N gd) (R kind N) q (kn (row kind K M N gd) (gi (R kind N) q (K * R kind N) ((K + M) * R kind N))) ((K + M) * R kind N)
def pick' (Z : List (List Int)) (l : List Nat) : List (List Int) := l.map fun t => Z.getD t []
theorem lost_len (kind : Int) (K M : Nat) (N gd : Int) (q : Nat) : (lost kind K M N gd q).length = (lo q (K + M)).length * R kind N := by
  unfold lost
  rw [ls_lo]
  generalize lo q (K + M) = l
  induction l with
  | nil => simp
  | cons a l ih => rw [List.flatMap_cons, List.length_append, ih, List.length_cons, Nat.add_one_mul]; simp [rws]; omega
/-- WHAT IS LOST COMES BACK -/
theorem lost_back {kind : Int} {K M : Nat} {N gd : Int} (hOk : Ok kind K M N gd) (hP : Pb kind K M N gd) (hD : dfs (shs (row kind K M N gd) (R kind N) (K + M)) [] K M [] = true) {size : Nat} {X : List (List Int)} (hX : X.length = K) (bX : Bytes X) (lX : ∀ x ∈ X, x.length = R kind N * size) (q : Nat) (hq : (lo q (K + M)).length ≤ M) :
    parG (R kind N) K (lo q (K + M)).length size ((lost kind K M N gd q).map Int.ofNat) (pick' (X ++ parB kind K M N gd size X) (lf q K (K + M))) = pick' (X ++ parB kind K M N gd size X) (lo q (K + M)) := by
  obtain ⟨hK, hM, h10, hR1, hR2, hKR, hMR, hPL⟩ := hOk.bounds
  have hZl : (X ++ parB kind K M N gd size X).length = K + M := by rw [List.length_append, hX, parB_len]
  have hZb : Bytes (X ++ parB kind K M N gd size X) := fun x hx => (List.mem_append.1 hx).elim (fun h => bX x h) (fun h => parB_bytes kind K M N gd size X x h)
  have hZe : ∀ (t : Nat) (z : List Int), (X ++ parB kind K M N gd size X)[t]? = some z → z.length = R kind N * size := by
    intro t z hz
    rw [List.getElem?_append] at hz
    split at hz
    · exact lX z (List.mem_of_getElem? hz)
    · exact (parB_each hz).1
  have hLb : Bytes (pick' (X ++ parB kind K M N gd size X) (lf q K (K + M))) := by
    intro x hx
    unfold pick' at hx
    rw [List.mem_map] at hx
    obtain ⟨t, ht, rfl⟩ := hx
    have := lf_lt t ht
    rw [List.getD_eq_getElem?_getD, List.getElem?_eq_getElem (by omega)]
    exact hZb _ (List.getElem_mem _)
  have hgi : gi (R kind N) q (K * R kind N) ((K + M) * R kind N) = (lf q K (K + M)).flatMap (rws (R kind N)) := gi_lf _ _ _ _
  have hfl := lf_len q K (K + M)
  have hlf : (lf q K (K + M)).length = K := by omega
  rw [parG_eq _ _ _ _ _ _ hLb (by rw [List.length_map, lost_len])]
  unfold pick'
  apply List.ext_getElem?
  intro k
  rw [List.getElem?_map, List.getElem?_map]
  by_cases hk : k < (lo q (K + M)).length
  · rw [List.getElem?_range hk, List.getElem?_eq_getElem hk, Option.map_some, Option.map_some]
    congr 1
    obtain ⟨t, ht⟩ : ∃ t, (lo q (K + M))[k] = t := ⟨_, rfl⟩
    have ht' : (lo q (K + M))[k]? = some t := by rw [List.getElem?_eq_getElem hk, ht]
    rw [ht]
    obtain ⟨htl, htq⟩ := lo_lt t (List.mem_of_getElem? ht')
    obtain ⟨z, hz⟩ : ∃ z, (X ++ parB kind K M N gd size X)[t]? = some z := ⟨_, List.getElem?_eq_getElem (by omega)⟩
    rw [List.getD_eq_getElem?_getD (l := X ++ _), hz, Option.getD_some]
    refine shard_rows (hZe t z hz) _ ?_
    intro b i hb hi
    have hsum : ((lost kind K M N gd q).map Int.ofNat).getD (k * R kind N + b) 0 = (((red (kn (row kind K M N gd) ((lf q K (K + M)).flatMap (rws (R kind N)))) (row kind K M N gd (t * R kind N + b), 0)).2 : Nat) : Int) := by
      rw [List.getD_eq_getElem?_getD, List.getElem?_map]
      unfold lost
      rw [ls_lo, hgi, flatMap_get _ (R kind N) (lo q (K + M)) (by intro x _; simp [rws]) k b hb t ht']
      simp [rws, hb]
    rw [hsum]
    have hbyL : ∀ r, Byte (env0 (rowsD (R kind N) size (pick' (X ++ parB kind K M N gd size X) (lf q K (K + M)))) i r) := fun r => env0_byte (rowsD_bytes hLb) i r
    have hks : ∀ k ∈ kn (row kind K M N gd) ((lf q K (K + M)).flatMap (rws (R kind N))), k.1 < 2 ^ 48 ∧ k.2 < 2 ^ 48 := kn_lt (row_lt hP hKR) _ (by rw [rws_len, hlf]; exact hKR)
    have hlt := (red_lt hks (e := (row kind K M N gd (t * R kind N + b), 0)) ⟨row_lt hP hKR _, Nat.two_pow_pos 48⟩).2
    have hmem : t * R kind N + b ∈ (lo q (K + M)).flatMap (rws (R kind N)) := List.mem_flatMap.2 ⟨t, List.mem_of_getElem? ht', List.mem_map.2 ⟨b, List.mem_range.2 hb, rfl⟩⟩
    show xs _ (env0 (rowsD (R kind N) size (pick' (X ++ parB kind K M N gd size X) (lf q K (K + M)))) i) (K * R kind N) = _
    rw [xs_xn (Nat.lt_trans hlt (by decide)) hbyL]
    rw [red_tells (E := nat8 (env0 (rowsD (R kind N) size X) i)) (n := K * R kind N) _ (by rw [rws_len, hlf]; exact Nat.le_refl _) ?_ _ (dfs_all (row kind K M N gd) (R kind N) (K + M) K M q hq hD _ hmem)]
    · exact row_holds hOk hP hX bX htl hb hi hz
    · intro g r hg
      have hgl : g < K * R kind N := by
        have := (List.getElem?_eq_some_iff.1 hg).1
        rw [rws_len, hlf] at this
        exact this
      have ha : g / R kind N < K := Nat.div_lt_of_lt_mul (by rw [Nat.mul_comm]; exact hgl)
      have hc := Nat.mod_lt g (show 0 < R kind N by omega)
      have e : g = g / R kind N * R kind N + g % R kind N := by rw [Nat.mul_comm]; exact (Nat.div_add_mod g _).symm
      generalize g / R kind N = a at *
      generalize g % R kind N = c at *
      subst e
      obtain ⟨u, hu⟩ : ∃ u, (lf q K (K + M))[a]? = some u := ⟨_, List.getElem?_eq_getElem (by omega)⟩
      rw [flatMap_get _ (R kind N) (lf q K (K + M)) (by intro x _; simp [rws]) a c hc u hu] at hg
      simp only [rws, List.getElem?_map, List.getElem?_range hc, Option.map_some, Option.some.injEq] at hg
      subst hg
      have hul := lf_lt u (List.mem_of_getElem? hu)
      obtain ⟨y, hy⟩ : ∃ y, (X ++ parB kind K M N gd size X)[u]? = some y := ⟨_, List.getElem?_eq_getElem (by omega)⟩
      have hy' : (pick' (X ++ parB kind K M N gd size X) (lf q K (K + M)))[a]? = some y := by
        unfold pick'
        rw [List.getElem?_map, hu, Option.map_some, List.getD_eq_getElem?_getD, hy]
        rfl
      have h1 := row_holds hOk hP hX bX hul hc hi hy
      have h2 := nat8_cast hbyL (a * R kind N + c)
      rw [env_row hy' hc hi, ← h1] at h2
      exact Int.ofNat_inj.1 h2
  · rw [List.getElem?_eq_none (by simpa using hk), List.getElem?_eq_none (by simpa using hk)]
    rfl
end Sh
end Go.Proofs.Ythhbpofcemoflab
namespace Go.Proofs.Ythhbpofcemoflab
open Go.RowKit
set_option maxRecDepth 20000
namespace Sh
def pbB (kind : Int) (K M : Nat) (N gd : Int) : Bool := (parity kind K M N gd).all fun s => decide (0 ≤ s) && decide (s < 281474976710656)
set_option maxRecDepth 100000 in
theorem cds_pbB : ∀ t ∈ cds, pbB t.1 t.2.1 t.2.2.1 t.2.2.2.1 t.2.2.2.2 = true := by decide +kernel
theorem cds_pb : ∀ t ∈ cds, Pb t.1 t.2.1 t.2.2.1 t.2.2.2.1 t.2.2.2.2 := by
  intro t ht s hs
  have h := cds_pbB t ht
  simp only [pbB, List.all_eq_true, Bool.and_eq_true, decide_eq_true_eq] at h
  have := h s hs
  exact ⟨this.1, by omega⟩
end Sh
end Go.Proofs.Ythhbpofcemoflab
namespace Go.Proofs.Ythhbpofcemoflab
open Go.RowKit
set_option maxRecDepth 20000
namespace Sh
/-- the cells of equations -/
def eqCells (l : List (Nat × Nat)) : List Value := l.flatMap fun k => [.int .u64 (k.1 : Int), .int .u64 (k.2 : Int)]
theorem eqCells_len (l : List (Nat × Nat)) : (eqCells l).length = l.length * 2 := by
  induction l with
  | nil => rfl
  | cons x l ih => simp only [eqCells, List.flatMap_cons, List.length_append, List.length_cons, List.length_nil] at *; omega
theorem eqCells_snoc (l : List (Nat × Nat)) (a b : Nat) : eqCells (l ++ [(a, b)]) = eqCells l ++ [.int .u64 (a : Int), .int .u64 (b : Int)] := by simp [eqCells]
theorem eqCells_get {l : List (Nat × Nat)} {k : Nat} {o : Nat × Nat} (h : l[k]? = some o) : (eqCells l)[k * 2]? = some (.int .u64 (o.1 : Int)) ∧ (eqCells l)[k * 2 + 1]? = some (.int .u64 (o.2 : Int)) := by
  induction l generalizing k with
  | nil => simp at h
  | cons a l ih =>
    have e : eqCells (a :: l) = [.int .u64 (a.1 : Int), .int .u64 (a.2 : Int)] ++ eqCells l := by simp [eqCells]
    cases k with
    | zero => simp at h; subst h; simp [eqCells]
    | succ k =>
      simp at h
      have := ih h
      rw [e, show (k + 1) * 2 = k * 2 + 2 by omega, show k * 2 + 2 + 1 = (k * 2 + 1) + 2 by omega]
      rw [List.getElem?_append_right (by simp), List.getElem?_append_right (by simp)]
      simpa using this
theorem low_val (k : Nat) (h : k < 2 ^ 48) : bits .and .u64 (k : Int) (IntKind.u64.wrap (-(k : Int))) = ((low k : Nat) : Int) := by
  rcases Nat.eq_zero_or_pos k with rfl | hp
  · decide +kernel
  · have e : IntKind.u64.wrap (-(k : Int)) = ((18446744073709551616 - k : Nat) : Int) := by rw [IntKind.wrap_u64]; omega
    rw [e]
    exact bits_andu _ _ (by omega) (by omega)
theorem low_lt48 (k : Nat) (h : k < 2 ^ 48) : low k < 2 ^ 48 := Nat.lt_of_le_of_lt Nat.and_le_left h
theorem red_snoc (ks : List (Nat × Nat)) (k e : Nat × Nat) : red (ks ++ [k]) e = stepR (red ks e) k := by simp [red]
end Sh
end Go.Proofs.Ythhbpofcemoflab
