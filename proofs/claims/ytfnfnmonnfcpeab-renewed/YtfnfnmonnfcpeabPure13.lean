import Derived.Test.YtfnfnmonnfcpeabL1
namespace Go.Proofs.Ytfnfnmonnfcpeab
open Go.RowKit
set_option maxRecDepth 20000
namespace Sh
theorem flatMap_get {α β : Type} (f : α → List β) (R : Nat) (X : List α) (hf : ∀ x ∈ X, (f x).length = R) (j q : Nat) (hq : q < R) (x : α) (hx : X[j]? = some x) : (X.flatMap f)[j * R + q]? = (f x)[q]? := by
  induction X generalizing j with
  | nil => simp at hx
  | cons a X ih =>
    rw [List.flatMap_cons]
    have ha := hf a (by simp)
    cases j with
    | zero =>
      simp at hx
      subst hx
      rw [Nat.zero_mul, Nat.zero_add, List.getElem?_append_left (by omega)]
    | succ j =>
      simp at hx
      have e : (j + 1) * R + q = R + (j * R + q) := by rw [Nat.add_mul, Nat.one_mul]; omega
      rw [e, List.getElem?_append_right (by omega), ha, Nat.add_sub_cancel_left]
      exact ih (fun y hy => hf y (by simp [hy])) j hx
/-- a row of the data at a place -/
theorem env_row {R size : Nat} {X : List (List Int)} {j q p : Nat} {x : List Int} (hx : X[j]? = some x) (hq : q < R) (hp : p < size) : env0 (rowsD R size X) p (j * R + q) = x.getD (q * size + p) 0 := by
  have h := flatMap_get (fun x : List Int => (List.range R).map fun q => (x.drop (q * size)).take size) R X (by intro y _; simp) j q hq x hx
  simp only [List.getElem?_map, List.getElem?_range hq, Option.map_some] at h
  unfold env0 rowsD
  rw [List.getD_eq_getElem?_getD, List.getD_eq_getElem?_getD, h, Option.getD_some, List.getElem?_take, if_pos hp, List.getElem?_drop, List.getD_eq_getElem?_getD]
/-- the sum of the data at a place -/
def sumAt (X : List (List Int)) (i : Nat) : Nat → Int
  | 0 => 0
  | j + 1 => bx (sumAt X i j) ((X.getD j []).getD i 0)
theorem sumAt_byte (X : List (List Int)) (i j : Nat) : Byte (sumAt X i j) := by
  cases j with
  | zero => exact byte0
  | succ j => exact bx_byte _ _
theorem xs_block {s : Int} {env : Nat → Int} {R q : Nat} (hq : q < R) (j : Nat) (h : ∀ r, r < R → bit s (j * R + r) = decide (r = q)) : xs s env (j * R + R) = bx (xs s env (j * R)) (env (j * R + q)) := by
  have key : ∀ r, r ≤ R → xs s env (j * R + r) = if q < r then bx (xs s env (j * R)) (env (j * R + q)) else xs s env (j * R) := by
    intro r hr
    induction r with
    | zero => simp
    | succ r ih =>
      have ih := ih (by omega)
      have hb := h r (by omega)
      by_cases c : r = q
      · subst c
        have hb : bit s (j * R + r) = true := by simpa using hb
        rw [← Nat.add_assoc, xs_t hb, ih, if_neg (by omega), if_pos (by omega)]
      · have hb : ¬ bit s (j * R + r) = true := by simp [hb, c]
        rw [← Nat.add_assoc, xs_f hb, ih]
        by_cases c2 : q < r
        · rw [if_pos c2, if_pos (by omega)]
        · rw [if_neg c2, if_neg (by omega)]
  rw [key R (Nat.le_refl _), if_pos hq]
def Straight (kind : Int) (K M : Nat) (N gd : Int) : Prop := ∀ q, q < R kind N → ∀ j, j < K → ∀ r, r < R kind N → bit ((parity kind K M N gd).getD q 0) (j * R kind N + r) = decide (r = q)
theorem straight_pb {kind : Int} {K M : Nat} {N gd : Int} (hS : Straight kind K M N gd) (size : Nat) (X : List (List Int)) (hX : X.length = K) (q p : Nat) (hq : q < R kind N) (hp : p < size) : pb kind K M N gd size X q p = sumAt X (q * size + p) K := by
  unfold pb
  have key : ∀ j, j ≤ K → xs ((parity kind K M N gd).getD q 0) (env0 (rowsD (R kind N) size X) p) (j * R kind N) = sumAt X (q * size + p) j := by
    intro j hj
    induction j with
    | zero => simp [xs, sumAt]
    | succ j ih =>
      have ih := ih (by omega)
      obtain ⟨x, hx⟩ : ∃ x, X[j]? = some x := ⟨_, List.getElem?_eq_getElem (by omega)⟩
      rw [Nat.add_mul, Nat.one_mul, xs_block hq j (fun r hr => hS q hq j (by omega) r hr), ih, env_row hx hq hp]
      show _ = bx _ _
      rw [List.getD_eq_getElem?_getD (l := X), hx, Option.getD_some]
  exact key K (Nat.le_refl _)
/-- the codes that Straight speaks of -/
def good1 (t : Int × Nat × Nat × Int × Int) : Int := if t.1 = 0 ∧ t.2.2.2.2 = 0 then 1 else t.2.2.2.2
def straightB (kind : Int) (K M : Nat) (N gd : Int) : Bool := (List.range (R kind N)).all fun q => (List.range K).all fun j => (List.range (R kind N)).all fun r => bit ((parity kind K M N gd).getD q 0) (j * R kind N + r) == decide (r = q)
set_option maxRecDepth 100000 in
theorem cds_straightB : ∀ t ∈ cds, straightB t.1 t.2.1 t.2.2.1 t.2.2.2.1 (good1 t) = true := by decide +kernel
theorem cds_straight : ∀ t ∈ cds, Straight t.1 t.2.1 t.2.2.1 t.2.2.2.1 (good1 t) := by
  intro t ht q hq j hj r hr
  have h := cds_straightB t ht
  simp only [straightB, List.all_eq_true, List.mem_range, beq_iff_eq] at h
  exact h q hq j hj r hr
theorem ok_good {kind : Int} {K M : Nat} {N : Int} (h : Ok kind K M N 0) (h0 : kind = 0) : Ok kind K M N 1 := by
  rcases h with ⟨d, h⟩ | ⟨n1, h⟩
  · obtain ⟨a1, a2, a3, a4, a5, a6, a7, a8, a9⟩ := h
    exact Or.inl ⟨d, a1, a2, a3, a4, a5, a6, a7, a8, Or.inr rfl⟩
  · have := h.2.2.2.2
    omega
end Sh
end Go.Proofs.Ytfnfnmonnfcpeab
