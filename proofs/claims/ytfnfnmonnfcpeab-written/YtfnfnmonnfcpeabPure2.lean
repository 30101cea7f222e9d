import Derived.Test.YtfnfnmonnfcpeabPure
namespace Go.Proofs.Ytfnfnmonnfcpeab
open Go.RowKit
set_option maxRecDepth 20000
theorem own_empty {W : World} {n base : Nat} {e : TypeId} (hs : W.heap.size = n) (hb : base ≤ n) : (W.alloc (.cells #[] e)).ownsRow base e 1 (.slice (some ⟨n, 0, none⟩) 0 0) 0 [] := by
  subst hs
  exact World.ownsRow_made W #[] 0 hb (Nat.zero_le _) (by simp)
namespace Sh
theorem div_len (d m v : Int) (xs : List Int) : (div d m v xs).length = xs.length := by simp [div]
theorem take_snoc (xs : List Int) (k : Nat) (h : k < xs.length) : xs.take (k + 1) = xs.take k ++ [xs[k]] := by
  rw [List.take_succ_eq_append_getElem h]
theorem div_snoc (d m v : Int) (xs : List Int) (k : Nat) (h : k < xs.length) : div d m v (xs.take (k + 1)) = div d m v (xs.take k) ++ [over d m xs[k] v] := by
  rw [take_snoc xs k h]; simp only [div, List.map_append, List.map_cons, List.map_nil]
theorem sum_snoc (d m : Int) (xs : List Int) (k : Nat) (h : k < xs.length) : sumOnes d m (xs.take (k + 1)) = sumOnes d m (xs.take k) + ones d m xs[k] := by
  rw [take_snoc xs k h]; simp only [sumOnes, List.map_append, List.map_cons, List.map_nil, List.sum_append, List.sum_cons, List.sum_nil, Int.add_zero]
theorem sum_le {d : Nat} (h1 : 1 ≤ d) (h4 : d ≤ 4) (xs : List Int) (hx : ∀ x ∈ xs, In d x) : 0 ≤ sumOnes d (mod d) xs ∧ sumOnes d (mod d) xs ≤ 16 * xs.length := by
  induction xs with
  | nil => exact ⟨Int.le_refl _, Int.le_refl _⟩
  | cons x xs ih =>
    have a := ones_le h1 h4 (hx x (by simp))
    have b := ih (fun y hy => hx y (by simp [hy]))
    simp only [sumOnes, List.map_cons, List.sum_cons, List.length_cons] at *
    omega
theorem in_div {d : Nat} (v : Int) (xs : List Int) : ∀ x ∈ div d (mod d) v xs, In d x := by
  intro x hx
  simp only [div, List.mem_map] at hx
  obtain ⟨y, _, rfl⟩ := hx
  exact in_over y v
theorem in_ces {d : Nat} (M i : Int) (K : Nat) : ∀ x ∈ ces d (mod d) M i K, In d x := by
  intro x hx
  simp only [ces, List.mem_map] at hx
  obtain ⟨y, _, rfl⟩ := hx
  exact in_over _ _
/-- lightest -/
def light (d m : Int) (row : List Int) : List Int → List Int × Int → List Int × Int
  | [], b => b
  | v :: vs, b => light d m row vs (if sumOnes d m (div d m v row) < b.2 then (div d m v row, sumOnes d m (div d m v row)) else b)
def lightest (d m : Int) (row : List Int) : List Int := (light d m row row (div d m 1 row, sumOnes d m (div d m 1 row))).1
theorem light_append (d m : Int) (row a b : List Int) (s : List Int × Int) : light d m row (a ++ b) s = light d m row b (light d m row a s) := by
  induction a generalizing s with
  | nil => rfl
  | cons x a ih => exact ih _
/-- good elements -/
def goodRow (d m M i : Int) (K : Nat) : List Int := (List.range K).map fun (j : Nat) => times d m (over d m 1 (bits .xor .i64 i (M + (j : Int)))) (M + (j : Int))
def good (d m M i : Int) (K : Nat) : List Int := if (i == 0) = true then goodRow d m M i K else lightest d m (goodRow d m M i K)
theorem goodRow_succ (d m M i : Int) (k : Nat) : goodRow d m M i (k + 1) = goodRow d m M i k ++ [times d m (over d m 1 (bits .xor .i64 i (M + (k : Int)))) (M + (k : Int))] := by simp [goodRow, List.range_succ]
theorem goodRow_len (d m M i : Int) (k : Nat) : (goodRow d m M i k).length = k := by simp [goodRow]
/-- the state of lightest behind k divisors -/
def lightS (d m : Int) (xs : List Int) (k : Nat) : List Int × Int := light d m xs (xs.take k) (div d m 1 xs, sumOnes d m (div d m 1 xs))
theorem lightS_t {d m : Int} {xs : List Int} {k : Nat} (h : k < xs.length) (hl : sumOnes d m (div d m xs[k] xs) < (lightS d m xs k).2) : lightS d m xs (k + 1) = (div d m xs[k] xs, sumOnes d m (div d m xs[k] xs)) := by
  unfold lightS at hl ⊢
  rw [take_snoc xs k h, light_append]
  simp only [light]
  rw [if_pos hl]
theorem lightS_f {d m : Int} {xs : List Int} {k : Nat} (h : k < xs.length) (hl : ¬ sumOnes d m (div d m xs[k] xs) < (lightS d m xs k).2) : lightS d m xs (k + 1) = lightS d m xs k := by
  unfold lightS at hl ⊢
  rw [take_snoc xs k h, light_append]
  simp only [light]
  rw [if_neg hl]
theorem lightS_end (d m : Int) (xs : List Int) : (lightS d m xs xs.length).1 = lightest d m xs := by
  unfold lightS lightest
  rw [List.take_length]
theorem lightest_is (d m : Int) (xs : List Int) : ∃ y, lightest d m xs = div d m y xs := by
  have key : ∀ (vs : List Int) (b : List Int × Int), (∃ y, b.1 = div d m y xs) → ∃ y, (light d m xs vs b).1 = div d m y xs := by
    intro vs
    induction vs with
    | nil => intro b h; exact h
    | cons v vs ih =>
      intro b h
      simp only [light]
      apply ih
      split
      · exact ⟨v, rfl⟩
      · exact h
  exact key xs _ ⟨1, rfl⟩
def brI (d m e : Int) (j n r : Nat) (s : Int) : Nat → Int
  | 0 => s
  | c + 1 => if (bits .and .i64 (times d m e (wrap64 (2 ^ c)) / 2 ^ r) 1 == 1) = true then bits .or .u64 (brI d m e j n r s c) (IntKind.u64.wrap (2 ^ (j * n + c))) else brI d m e j n r s c
theorem brI_t {d m e : Int} {j n r c : Nat} {s : Int} (h : (bits .and .i64 (times d m e (wrap64 (2 ^ c)) / 2 ^ r) 1 == 1) = true) : brI d m e j n r s (c + 1) = bits .or .u64 (brI d m e j n r s c) (IntKind.u64.wrap (2 ^ (j * n + c))) := if_pos h
theorem brI_f {d m e : Int} {j n r c : Nat} {s : Int} (h : (bits .and .i64 (times d m e (wrap64 (2 ^ c)) / 2 ^ r) 1 == 1) = false) : brI d m e j n r s (c + 1) = brI d m e j n r s c := if_neg (by simp [h])
def br (d m : Int) (n r : Nat) (xs : List Int) : Nat → Int
  | 0 => 0
  | k + 1 => brI d m (xs.getD k 0) k n r (br d m n r xs k) n
def bitRow (d m : Int) (n r : Nat) (xs : List Int) : Int := br d m n r xs xs.length
end Sh
end Go.Proofs.Ytfnfnmonnfcpeab
