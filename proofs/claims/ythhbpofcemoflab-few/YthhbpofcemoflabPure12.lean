import Derived.Test.YthhbpofcemoflabW21
import Derived.Test.YthhbpofcemoflabGc
namespace Go.Proofs.Ythhbpofcemoflab
open Go.RowKit
set_option maxRecDepth 20000
namespace Sh
/-- the byte of parity at row j and place i -/
def pb (kind : Int) (K M : Nat) (N gd : Int) (size : Nat) (X : List (List Int)) (j i : Nat) : Int := xs ((parity kind K M N gd).getD j 0) (env0 (rowsD (R kind N) size X) i) (K * R kind N)
def parB (kind : Int) (K M : Nat) (N gd : Int) (size : Nat) (X : List (List Int)) : List (List Int) := (List.range M).map fun k => (List.range (R kind N)).flatMap fun q => (List.range size).map fun i => pb kind K M N gd size X (k * R kind N + q) i
theorem par_eq {kind : Int} {K M : Nat} {N gd : Int} (hOk : Ok kind K M N gd) (size : Nat) (X : List (List Int)) (hX : Bytes X) : par kind K M N gd size X = parB kind K M N gd size X := by
  obtain ⟨hK, hM, h10, hR1, hR2, hKR, hMR, hPL⟩ := hOk.bounds
  unfold par parB
  apply List.map_congr_left
  intro k hk
  have hk : k < M := by simpa using hk
  unfold shB
  have key : ∀ q ∈ List.range (R kind N), (regs kind K M N gd size X).getD (k * R kind N + q) [] = (List.range size).map fun i => pb kind K M N gd size X (k * R kind N + q) i := by
    intro q hq
    have hq : q < R kind N := by simpa using hq
    have hj : k * R kind N + q < M * R kind N := by
      have : (k + 1) * R kind N ≤ M * R kind N := Nat.mul_le_mul_right _ hk
      rw [Nat.add_mul, Nat.one_mul] at this
      omega
    rw [List.getD_eq_getElem?_getD]
    simp only [regs, List.getElem?_map, List.getElem?_range hj, Option.map_some, Option.getD_some]
    simp only [regAt]
    apply List.map_congr_left
    intro i hi
    have hi : i < size := by simpa using hi
    rw [if_pos hi]
    exact ev_plain _ _ _ (fun r _ => env0_byte (rowsD_bytes hX) i r) _ (by rw [hPL]; exact hj)
  rw [List.flatMap_def, List.flatMap_def, List.map_congr_left key]
theorem pb_byte (kind : Int) (K M : Nat) (N gd : Int) (size : Nat) (X : List (List Int)) (j i : Nat) : Byte (pb kind K M N gd size X j i) := xs_byte _ _ _
theorem parB_bytes (kind : Int) (K M : Nat) (N gd : Int) (size : Nat) (X : List (List Int)) : Bytes (parB kind K M N gd size X) := by
  intro x hx b hb
  simp only [parB, List.mem_map] at hx
  obtain ⟨k, _, rfl⟩ := hx
  simp only [List.mem_flatMap, List.mem_map] at hb
  obtain ⟨q, _, i, _, rfl⟩ := hb
  exact pb_byte _ _ _ _ _ _ _ _ _
theorem flat_get {α : Type} (f : Nat → List α) (n : Nat) (R : Nat) (hf : ∀ q, q < R → (f q).length = n) (q i : Nat) (hq : q < R) (hi : i < n) : ((List.range R).flatMap f)[q * n + i]? = (f q)[i]? := by
  induction R with
  | zero => omega
  | succ R ih =>
    rw [List.range_succ, List.flatMap_append, List.flatMap_cons, List.flatMap_nil, List.append_nil]
    have hl : ((List.range R).flatMap f).length = R * n := by
      clear ih hq
      induction R with
      | zero => simp
      | succ R ih =>
        rw [List.range_succ, List.flatMap_append, List.flatMap_cons, List.flatMap_nil, List.append_nil, List.length_append, ih (fun q hq => hf q (by omega)), hf R (by omega), Nat.add_mul, Nat.one_mul]
    by_cases c : q < R
    · have : q * n + i < R * n := by
        have : (q + 1) * n ≤ R * n := Nat.mul_le_mul_right _ c
        rw [Nat.add_mul, Nat.one_mul] at this
        omega
      rw [List.getElem?_append_left (by omega)]
      exact ih (fun q hq => hf q (by omega)) c
    · have : q = R := by omega
      subst this
      rw [List.getElem?_append_right (by omega), hl, Nat.add_sub_cancel_left]
theorem parB_len (kind : Int) (K M : Nat) (N gd : Int) (size : Nat) (X : List (List Int)) : (parB kind K M N gd size X).length = M := by simp [parB]
theorem flat_len {α : Type} (f : Nat → List α) (n R : Nat) (hf : ∀ q, q < R → (f q).length = n) : ((List.range R).flatMap f).length = R * n := by
  induction R with
  | zero => simp
  | succ R ih =>
    rw [List.range_succ, List.flatMap_append, List.flatMap_cons, List.flatMap_nil, List.append_nil, List.length_append, ih (fun q hq => hf q (by omega)), hf R (by omega), Nat.add_mul, Nat.one_mul]
theorem parB_each {kind : Int} {K M : Nat} {N gd : Int} {size : Nat} {X : List (List Int)} {k : Nat} {x : List Int} (h : (parB kind K M N gd size X)[k]? = some x) : x.length = R kind N * size ∧ ∀ q i, q < R kind N → i < size → x[q * size + i]? = some (pb kind K M N gd size X (k * R kind N + q) i) := by
  have hk : k < M := by
    have := (List.getElem?_eq_some_iff.1 h).1
    simpa [parB] using this
  simp only [parB, List.getElem?_map, List.getElem?_range hk, Option.map_some, Option.some.injEq] at h
  subst h
  refine ⟨flat_len _ size _ (by intro q _; simp), ?_⟩
  intro q i hq hi
  rw [flat_get _ size (R kind N) (by intro q _; simp) q i hq hi]
  simp [List.getElem?_range hi]
end Sh
end Go.Proofs.Ythhbpofcemoflab
