import Derived.Test.YthhbpofcemoflaaGw
namespace Go.Proofs.Ythhbpofcemoflaa
open Go.RowKit
set_option maxRecDepth 20000
namespace Sh
def onesAt (R size c : Nat) (X : List (List Int)) : List (List Int) := X.map fun x => (List.range R).map fun k => x.getD (k * size + c) 0
theorem getD_byte {x : List Int} (h : ∀ b ∈ x, Byte b) (i : Nat) : Byte (x.getD i 0) := by
  rw [List.getD_eq_getElem?_getD]
  cases hx : x[i]? with
  | none => exact byte0
  | some b => exact h b (List.mem_of_getElem? hx)
theorem onesAt_bytes {R size c : Nat} {X : List (List Int)} (h : Bytes X) : Bytes (onesAt R size c X) := by
  intro x hx b hb
  simp only [onesAt, List.mem_map] at hx
  obtain ⟨y, hy, rfl⟩ := hx
  simp only [List.mem_map] at hb
  obtain ⟨k, _, rfl⟩ := hb
  exact getD_byte (h y hy) _
theorem env_place {R size K : Nat} {X : List (List Int)} (hX : X.length = K) (c : Nat) (hc : c < size) (r : Nat) (hr : r < K * R) : env0 (rowsD R 1 (onesAt R size c X)) 0 r = env0 (rowsD R size X) c r := by
  have hR : 0 < R := by
    rcases Nat.eq_zero_or_pos R with h | h
    · subst h; omega
    · exact h
  have hd := Nat.div_add_mod r R
  have hm := Nat.mod_lt r hR
  have hj : r / R < K := Nat.div_lt_of_lt_mul (by rw [Nat.mul_comm]; exact hr)
  have e : r = r / R * R + r % R := by rw [Nat.mul_comm]; exact hd.symm
  obtain ⟨x, hx1⟩ : ∃ x, X[r / R]? = some x := ⟨_, List.getElem?_eq_getElem (by omega)⟩
  have hz : (onesAt R size c X)[r / R]? = some ((List.range R).map fun k => x.getD (k * size + c) 0) := by
    simp only [onesAt]
    rw [List.getElem?_map, hx1]
    rfl
  generalize r / R = j at *
  generalize r % R = q at *
  subst e
  rw [env_row hz hm (by decide), env_row hx1 hm hc, List.getD_eq_getElem?_getD, List.getElem?_map, Nat.mul_one, Nat.add_zero, List.getElem?_range hm]
  rfl
theorem pb_place {kind : Int} {K M : Nat} {N gd : Int} {size : Nat} {X : List (List Int)} (hX : X.length = K) (c : Nat) (hc : c < size) (j : Nat) : pb kind K M N gd 1 (onesAt (R kind N) size c X) j 0 = pb kind K M N gd size X j c := by
  unfold pb
  exact xs_congr _ _ _ _ (fun r hr => env_place hX c hc r hr)
end Sh
end Go.Proofs.Ythhbpofcemoflaa
