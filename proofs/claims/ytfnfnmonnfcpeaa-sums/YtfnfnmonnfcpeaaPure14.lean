import Derived.Test.YtfnfnmonnfcpeaaM1
namespace Go.Proofs.Ytfnfnmonnfcpeaa
open Go.RowKit
set_option maxRecDepth 20000
namespace Sh
theorem xs_sum (s : Int) (e1 e2 : Nat → Int) (h1 : ∀ r, Byte (e1 r)) (h2 : ∀ r, Byte (e2 r)) (k : Nat) : xs s (fun r => bx (e1 r) (e2 r)) k = bx (xs s e1 k) (xs s e2 k) := by
  induction k with
  | zero => exact (bx_zero byte0).symm
  | succ k ih =>
    by_cases c : bit s k = true
    · rw [xs_t c, xs_t c, xs_t c, ih, bx_swap (xs_byte _ _ _) (xs_byte _ _ _) (h1 _) (h2 _)]
    · rw [xs_f c, xs_f c, xs_f c, ih]
theorem zip_getD {x y : List Int} {n : Nat} (hx : x.length = n) (hy : y.length = n) (i : Nat) : (List.zipWith bx x y).getD i 0 = bx (x.getD i 0) (y.getD i 0) := by
  rw [List.getD_eq_getElem?_getD, List.getD_eq_getElem?_getD, List.getD_eq_getElem?_getD]
  by_cases c : i < n
  · rw [List.getElem?_zipWith, List.getElem?_eq_getElem (by omega), List.getElem?_eq_getElem (by omega)]
    rfl
  · rw [List.getElem?_zipWith, List.getElem?_eq_none (by omega), List.getElem?_eq_none (by omega)]
    exact (bx_zero byte0).symm
theorem env_sum {R size K : Nat} {X Y : List (List Int)} (hX : X.length = K) (hY : Y.length = K) (hx : ∀ x ∈ X, x.length = R * size) (hy : ∀ y ∈ Y, y.length = R * size) (p : Nat) (hp : p < size) (r : Nat) (hr : r < K * R) :
    env0 (rowsD R size (mixB X Y)) p r = bx (env0 (rowsD R size X) p r) (env0 (rowsD R size Y) p r) := by
  have hR : 0 < R := by
    rcases Nat.eq_zero_or_pos R with h | h
    · subst h; omega
    · exact h
  have hd := Nat.div_add_mod r R
  have hm := Nat.mod_lt r hR
  have hj : r / R < K := Nat.div_lt_of_lt_mul (by rw [Nat.mul_comm]; exact hr)
  have e : r = r / R * R + r % R := by rw [Nat.mul_comm]; exact hd.symm
  obtain ⟨x, hx1⟩ : ∃ x, X[r / R]? = some x := ⟨_, List.getElem?_eq_getElem (by omega)⟩
  obtain ⟨y, hy1⟩ : ∃ y, Y[r / R]? = some y := ⟨_, List.getElem?_eq_getElem (by omega)⟩
  have hz : (mixB X Y)[r / R]? = some (List.zipWith bx x y) := by
    simp only [mixB]
    rw [List.getElem?_zipWith_eq_some]
    exact ⟨x, y, hx1, hy1, rfl⟩
  generalize r / R = j at *
  generalize r % R = q at *
  subst e
  rw [env_row hz hm hp, env_row hx1 hm hp, env_row hy1 hm hp]
  exact zip_getD (hx x (List.mem_of_getElem? hx1)) (hy y (List.mem_of_getElem? hy1)) _
theorem pb_sum {kind : Int} {K M : Nat} {N gd : Int} {size : Nat} {X Y : List (List Int)} (hX : X.length = K) (hY : Y.length = K) (hx : ∀ x ∈ X, x.length = R kind N * size) (hy : ∀ y ∈ Y, y.length = R kind N * size) (bX : Bytes X) (bY : Bytes Y) (j p : Nat) (hp : p < size) :
    pb kind K M N gd size (mixB X Y) j p = bx (pb kind K M N gd size X j p) (pb kind K M N gd size Y j p) := by
  unfold pb
  rw [xs_congr _ _ _ _ (fun r hr => env_sum hX hY hx hy p hp r hr)]
  exact xs_sum _ _ _ (fun r => env0_byte (rowsD_bytes bX) p r) (fun r => env0_byte (rowsD_bytes bY) p r) _
theorem zip_flat (f g : Nat → List Int) (l : List Nat) (h : ∀ q ∈ l, (f q).length = (g q).length) : List.zipWith bx (l.flatMap f) (l.flatMap g) = l.flatMap fun q => List.zipWith bx (f q) (g q) := by
  induction l with
  | nil => rfl
  | cons a l ih =>
    rw [List.flatMap_cons, List.flatMap_cons, List.flatMap_cons, List.zipWith_append (h a (by simp)), ih (fun q hq => h q (by simp [hq]))]
theorem zip_map {α : Type} (f g : α → Int) (l : List α) : List.zipWith bx (l.map f) (l.map g) = l.map fun i => bx (f i) (g i) := by
  induction l with
  | nil => rfl
  | cons a l ih => rw [List.map_cons, List.map_cons, List.map_cons, List.zipWith_cons_cons, ih]
theorem zip_map2 {α : Type} (f g : α → List Int) (l : List α) : List.zipWith (List.zipWith bx) (l.map f) (l.map g) = l.map fun i => List.zipWith bx (f i) (g i) := by
  induction l with
  | nil => rfl
  | cons a l ih => rw [List.map_cons, List.map_cons, List.map_cons, List.zipWith_cons_cons, ih]
theorem parB_sum {kind : Int} {K M : Nat} {N gd : Int} {size : Nat} {X Y : List (List Int)} (hX : X.length = K) (hY : Y.length = K) (hx : ∀ x ∈ X, x.length = R kind N * size) (hy : ∀ y ∈ Y, y.length = R kind N * size) (bX : Bytes X) (bY : Bytes Y) :
    parB kind K M N gd size (mixB X Y) = mixB (parB kind K M N gd size X) (parB kind K M N gd size Y) := by
  unfold parB
  show _ = List.zipWith (List.zipWith bx) _ _
  rw [zip_map2]
  apply List.map_congr_left
  intro k _
  rw [zip_flat _ _ _ (by intro q _; simp), List.flatMap_def, List.flatMap_def]
  congr 1
  apply List.map_congr_left
  intro q _
  rw [zip_map]
  apply List.map_congr_left
  intro i hi
  exact pb_sum hX hY hx hy bX bY _ _ (by simpa using hi)
theorem Dat.len_each {w : World} {base : Nat} {tS : TypeId} {v : Value} {n : Nat} {ps : List (Nat × Nat × Nat)} {X : List (List Int)} (h : Dat w base tS v n ps X) : ∀ x ∈ X, x.length = n := by
  intro x hx
  obtain ⟨j, hj⟩ := List.getElem?_of_mem hx
  obtain ⟨p, hp⟩ : ∃ p, ps[j]? = some p := ⟨_, List.getElem?_eq_getElem (by rw [← h.lens]; exact (List.getElem?_eq_some_iff.1 hj).1)⟩
  exact (h.each j p x hp hj).1
end Sh
end Go.Proofs.Ytfnfnmonnfcpeaa
