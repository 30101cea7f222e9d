import Derived.Test.YthhbpofcemoflabK2
import Derived.Test.YthhbpofcemoflabPure12
namespace Go.Proofs.Ythhbpofcemoflab
open Go.RowKit
set_option maxRecDepth 20000
namespace Sh
def seven (l : List (Int × Nat × Nat × Int × Int × List UInt8 × List UInt8)) : List Value := l.flatMap fun t => [.int .i64 t.1, .int .i64 t.2.1, .int .i64 t.2.2.1, .int .i64 t.2.2.2.1, .int .i64 t.2.2.2.2.1, .string ⟨t.2.2.2.2.2.1.toArray⟩, .string ⟨t.2.2.2.2.2.2.toArray⟩]
theorem seven_get {l : List (Int × Nat × Nat × Int × Int × List UInt8 × List UInt8)} {k : Nat} {t : Int × Nat × Nat × Int × Int × List UInt8 × List UInt8} (h : l[k]? = some t) :
    ∀ i, i < 7 → (seven l)[k * 7 + i]? = [Value.int .i64 t.1, .int .i64 t.2.1, .int .i64 t.2.2.1, .int .i64 t.2.2.2.1, .int .i64 t.2.2.2.2.1, .string ⟨t.2.2.2.2.2.1.toArray⟩, .string ⟨t.2.2.2.2.2.2.toArray⟩][i]? := by
  intro i hi
  induction l generalizing k with
  | nil => simp at h
  | cons a l ih =>
    have e : seven (a :: l) = [Value.int .i64 a.1, .int .i64 a.2.1, .int .i64 a.2.2.1, .int .i64 a.2.2.2.1, .int .i64 a.2.2.2.2.1, .string ⟨a.2.2.2.2.2.1.toArray⟩, .string ⟨a.2.2.2.2.2.2.toArray⟩] ++ seven l := by simp [seven]
    cases k with
    | zero =>
      simp at h
      subst h
      rw [e, Nat.zero_mul, Nat.zero_add, List.getElem?_append_left (by simpa using hi)]
    | succ k =>
      simp at h
      rw [e, show (k + 1) * 7 + i = 7 + (k * 7 + i) by omega, List.getElem?_append_right (by simp)]
      simpa using ih h
def chunk (R : Nat) (d : List UInt8) (j : Nat) : List Int := ((d.drop (j * R)).take R).map fun b => (b.toNat : Int)
def chunks (R : Nat) (d : List UInt8) (K : Nat) : List (List Int) := (List.range K).map (chunk R d)
theorem chunks_bytes (R : Nat) (d : List UInt8) (K : Nat) : Bytes (chunks R d K) := by
  intro x hx b hb
  simp only [chunks, List.mem_map] at hx
  obtain ⟨j, _, rfl⟩ := hx
  simp only [chunk, List.mem_map] at hb
  obtain ⟨c, _, rfl⟩ := hb
  have := c.toNat_lt
  exact ⟨by omega, by omega⟩
/-- an example stands -/
def GOk (t : Int × Nat × Nat × Int × Int × List UInt8 × List UInt8) : Prop :=
  Ok t.1 t.2.1 t.2.2.1 t.2.2.2.1 t.2.2.2.2.1 ∧ t.2.2.2.2.2.1.length = t.2.1 * R t.1 t.2.2.2.1 ∧ (parB t.1 t.2.1 t.2.2.1 t.2.2.2.1 t.2.2.2.2.1 1 (chunks (R t.1 t.2.2.2.1) t.2.2.2.2.2.1 t.2.1)).flatten = t.2.2.2.2.2.2.map fun b => (b.toNat : Int)
set_option maxRecDepth 100000 in
theorem gl_nums : ∀ t ∈ gl, t.2.2.2.2.2.1.length = t.2.1 * R t.1 t.2.2.2.1 ∧ (parB t.1 t.2.1 t.2.2.1 t.2.2.2.1 t.2.2.2.2.1 1 (chunks (R t.1 t.2.2.2.1) t.2.2.2.2.2.1 t.2.1)).flatten = t.2.2.2.2.2.2.map fun b => (b.toNat : Int) := by
  decide +kernel
end Sh
end Go.Proofs.Ythhbpofcemoflab
