import Derived.Test.YtfnfnmonnfcpeabPure2
namespace Go.Proofs.Ytfnfnmonnfcpeab
open Go.RowKit
set_option maxRecDepth 20000
namespace Sh
theorem in_goodRow {d : Nat} (h1 : 1 ≤ d) (h4 : d ≤ 4) (M i : Int) (K : Nat) (hM : 0 ≤ M) (hMK : M + K ≤ 2 ^ d) : ∀ x ∈ goodRow d (mod d) M i K, In d x := by
  intro x hx
  simp only [goodRow, List.mem_map, List.mem_range] at hx
  obtain ⟨y, hy, rfl⟩ := hx
  exact in_times h1 h4 (in_over _ _) ⟨by omega, by simp only [Int.toNat_natCast]; omega⟩
theorem in_good {d : Nat} (h1 : 1 ≤ d) (h4 : d ≤ 4) (M i : Int) (K : Nat) (hM : 0 ≤ M) (hMK : M + K ≤ 2 ^ d) : ∀ x ∈ good d (mod d) M i K, In d x := by
  unfold good
  split
  · exact in_goodRow h1 h4 M i K hM hMK
  · obtain ⟨y, hy⟩ := lightest_is d (mod d) (goodRow d (mod d) M i K)
    rw [hy]
    exact in_div _ _
theorem good_len (d m M i : Int) (K : Nat) : (good d m M i K).length = K := by
  unfold good
  split
  · exact goodRow_len _ _ _ _ _
  · obtain ⟨y, hy⟩ := lightest_is d m (goodRow d m M i K)
    rw [hy, div_len, goodRow_len]
def els (d m M i : Int) (K : Nat) (g : Int) : List Int := if (g == 1) = true then good d m M i K else ces d m M i K
theorem els_len (d m M i : Int) (K : Nat) (g : Int) : (els d m M i K g).length = K := by
  unfold els; split
  · exact good_len _ _ _ _ _
  · exact ces_len _ _ _ _ _
theorem in_els {d : Nat} (h1 : 1 ≤ d) (h4 : d ≤ 4) (M i : Int) (K : Nat) (g : Int) (hM : 0 ≤ M) (hMK : M + K ≤ 2 ^ d) : ∀ x ∈ els d (mod d) M i K g, In d x := by
  unfold els; split
  · exact in_good h1 h4 M i K hM hMK
  · exact in_ces M i K
def cpRow (d : Nat) (m M i : Int) (K : Nat) (g : Int) (r : Nat) : List Int := (List.range r).map fun q => bitRow d m d q (els d m M i K g)
def cpar (d : Nat) (m M : Int) (K : Nat) (g : Int) : Nat → List Int
  | 0 => []
  | k + 1 => cpar d m M K g k ++ cpRow d m M k K g d
theorem cpRow_succ (d : Nat) (m M i : Int) (K : Nat) (g : Int) (r : Nat) : cpRow d m M i K g (r + 1) = cpRow d m M i K g r ++ [bitRow d m d r (els d m M i K g)] := by simp [cpRow, List.range_succ]
theorem cpRow_len (d : Nat) (m M i : Int) (K : Nat) (g : Int) (r : Nat) : (cpRow d m M i K g r).length = r := by simp [cpRow]
theorem cpar_len (d : Nat) (m M : Int) (K : Nat) (g : Int) (k : Nat) : (cpar d m M K g k).length = k * d := by
  induction k with
  | zero => simp [cpar]
  | succ k ih => simp [cpar, ih, cpRow_len, Nat.add_mul]
end Sh
/-- where the row lies behind an append: where it lay, or in a new block -/
theorem append_where {P : Program} (w : World) (base : Nat) (t ty e : TypeId) (i : TypeInfo) (z : Value) (size bytes : Nat) (ht : P.underlying t = some (.slice e)) (hi : P.info? e = some i) (hz : i.zero = some z)
    (hsize : i.size = size) (hby : i.bytes = bytes)
    (v : Value) (n : Nat) (xs : List Value) (hown : w.ownsRow base e size v n xs)
    (a : Addr) (m c : Nat) (news : List Value) (hl : news.length = m * size) (hnews : ∀ j u, news[j]? = some u → w.cell? (a.add j) = some u) (h1 : ∀ u ∈ news, u.oneCell' = true)
    (hm : 1 ≤ m) (h63 : n + m ≤ maxLen) (hbytes : (n + m) * bytes ≤ 140737488355328) {v' : Value} {w' : World}
    (hr : (Builtin.append_ #[t, t] ty #[v, .slice (some a) m c]).run P w = .ok v' w') : ∀ q, v'.ownBlock = some q → v.ownBlock = some q ∨ w.heap.size ≤ q := by
  subst hsize
  subst hby
  have hsmall : n + m ≤ 9223372036854775807 := by simp only [maxLen] at h63; omega
  intro q hq
  rcases hown.2 with ⟨rfl, rfl⟩ | ⟨g, cap, cur, rfl, hbg, hg, hnc, hcm, hcs, htake⟩
  · have h2 := run_append_nil (P := P) w t ty e i z ht hi hz a m c news hl hnews (by omega) (by omega) (by simp only [Nat.zero_add] at hbytes; omega)
    rw [hr] at h2
    injection h2 with h3 h4
    rw [h3] at hq
    simp [Value.ownBlock] at hq
    exact Or.inr (by omega)
  · by_cases hroom : n + m ≤ cap
    · have hfit : n * i.size + news.length ≤ cur.size := by rw [hl, hcs, ← Nat.add_mul]; exact Nat.mul_le_mul_right _ hroom
      have h2 := run_append_room (P := P) w t ty e i ht hi g n cap cur hg a m c news hl hnews h1 hroom hfit
      rw [hr] at h2
      injection h2 with h3 h4
      rw [h3] at hq
      exact Or.inl hq
    · have h2 := run_append_grow (P := P) w t ty e i z ht hi hz ⟨g, 0, none⟩ n cap xs hown.1 (hown.cells (g := g) rfl) a m c news hl hnews (by omega) (by omega) (growslice_fits (by omega) hbytes)
      rw [hr] at h2
      injection h2 with h3 h4
      rw [h3] at hq
      simp [Value.ownBlock] at hq
      exact Or.inr (by omega)
/-- 'append(v, news...)' onto a row of the call's own: what is owned, what has turned, where it lies -/
theorem appendX {P : Program} {ops : Array Oper} {rest : List Oper} {o : Oper} {a : Act} {Q : Exit → Act → World → Prop} (w : World) (hgd : o.guard = Option.none) (s x : Operand) (t : TypeId)
    (ho : o.op = .call { callee := .builtin .append, args := #[s, x], argTypes := #[t, t] })
    (base : Nat) (e : TypeId) (i : TypeInfo) (z : Value) (size bytes : Nat) (ht : P.underlying t = some (.slice e)) (hi : P.info? e = some i) (hz : i.zero = some z)
    (hsize : i.size = size) (hby : i.bytes = bytes) (hzs : z.cells.size = size) (hsz : 0 < size)
    (v : Value) (n : Nat) (xs : List Value) (hs : a.eval s = v) (hown : w.ownsRow base e size v n xs)
    (ad : Addr) (m c : Nat) (news : List Value) (hx : a.eval x = .slice (some ad) m c) (hl : news.length = m * size) (hnews : ∀ j u, news[j]? = some u → w.cell? (ad.add j) = some u) (h1 : ∀ u ∈ news, u.oneCell' = true)
    (hm : 1 ≤ m) (h63 : n + m ≤ maxLen) (hbytes : (n + m) * bytes ≤ 140737488355328) (hbase : base ≤ w.heap.size)
    (h : ∀ v' w', w'.ownsRow base e size v' (n + m) (xs ++ news) → Below base w w' → w.grownBy w' v.ownBlock → (∀ q, v'.ownBlock = some q → v.ownBlock = some q ∨ w.heap.size ≤ q) → wpList P ops Q rest (a.put o.dst v') w') : wpList P ops Q (o :: rest) a w := by
  obtain ⟨v', w', hr, h2, h3, _⟩ := run_append_own (P := P) w base t o.type e i z size bytes ht hi hz hsize hby hzs hsz v n xs hown ad m c news hl hnews h1 h63 hbytes hbase
  have h4 := append_where (P := P) w base t o.type e i z size bytes ht hi hz hsize hby v n xs hown ad m c news hl hnews h1 hm h63 hbytes hr
  have h5 : Below base w w' := (Below.refl base w).grown h3 hbase (fun k hk => (hown.lt k hk).1)
  refine wpList_plain hgd fun _ hK => ?_
  unfold Oper.wp execOp
  simp only [ho, resolve, invoke, builtin, Sem.run_bind, Sem.run_pure, Result.andThen_ok, List.map_toArray, List.map_cons, List.map_nil, hs, hx, hr]
  exact hK _ _ (h v' w' h2 h5 h3 h4)
/-- 'append(v, u)' of one element of 'size' cells -/
theorem append1x {P : Program} {ops : Array Oper} {rest : List Oper} {o : Oper} {a : Act} {Q : Exit → Act → World → Prop} (w0 : World) (hgd : o.guard = Option.none) (s x : Operand) (t : TypeId)
    (ho : o.op = .call { callee := .builtin .append, args := #[s, x], argTypes := #[t, t] })
    (base : Nat) (e : TypeId) (i : TypeInfo) (z : Value) (size bytes : Nat) (ht : P.underlying t = some (.slice e)) (hi : P.info? e = some i) (hz : i.zero = some z)
    (hsize : i.size = size) (hby : i.bytes = bytes) (hzs : z.cells.size = size) (hsz : 0 < size) (hb64 : bytes ≤ 64)
    (v : Value) (n : Nat) (xs : List Value) (us : Array Value) (hs : a.eval s = v) (hown : w0.ownsRow base e size v n xs)
    (hx : a.eval x = .slice (some ⟨w0.heap.size, 0, Option.none⟩) 1 1) (hus : us.size = size) (h1 : ∀ u ∈ us.toList, u.oneCell' = true)
    (hn : n + 1 ≤ 1000000000) (hbase : base ≤ w0.heap.size)
    (h : ∀ v' w', w'.ownsRow base e size v' (n + 1) (xs ++ us.toList) → Below base w0 w' → w0.grownBy w' v.ownBlock → (∀ q, v'.ownBlock = some q → v.ownBlock = some q ∨ w0.heap.size ≤ q) → wpList P ops Q rest (a.put o.dst v') w') : wpList P ops Q (o :: rest) a (w0.alloc (.cells us e)) := by
  refine appendX (w0.alloc (.cells us e)) hgd s x t ho base e i z size bytes ht hi hz hsize hby hzs hsz v n xs hs (hown.alloc _) ⟨w0.heap.size, 0, Option.none⟩ 1 1 us.toList hx (by simp [hus]) ?_ h1 (Nat.le_refl _) ?_ ?_ ?_ ?_
  · intro j u hu
    have hadd : (⟨w0.heap.size, 0, Option.none⟩ : Addr).add j = ⟨w0.heap.size, j, Option.none⟩ := by unfold Addr.add; split <;> simp_all
    rw [hadd, cell_of_row _ _ j us e (0, 0) (heap_alloc_new w0 _)]
    simpa using hu
  · unfold maxLen; omega
  · have : (n + 1) * bytes ≤ 1000000000 * 64 := Nat.mul_le_mul hn hb64
    omega
  · simp; omega
  · intro v' w' ho' hb' hg' hw'
    refine h v' w' ho' (((Below.refl base w0).alloc hbase _).trans hb') ?_ ?_
    · exact ⟨hg'.os, hg'.tape, hg'.output, by have := hg'.size; simp at this; omega, fun k hk hne => (hg'.block k (by simp; omega) hne).trans (Below.heap_alloc _ _ _ hk)⟩
    · intro q hq
      rcases hw' q hq with h | h
      · exact Or.inl h
      · exact Or.inr (by simp at h; omega)
theorem own_ne {w : World} {b1 b2 : Nat} {e1 e2 : TypeId} {s1 s2 : Nat} {v1 v2 : Value} {n1 n2 : Nat} {x1 x2 : List Value} (h1 : w.ownsRow b1 e1 s1 v1 n1 x1) (h2 : w.ownsRow b2 e2 s2 v2 n2 x2) (he : e1 ≠ e2) : v1.ownBlock = none ∨ v1.ownBlock ≠ v2.ownBlock := by
  rcases h1.2 with ⟨rfl, _⟩ | ⟨g, cap, cur, rfl, _, hg, _⟩
  · exact Or.inl rfl
  · right
    rcases h2.2 with ⟨rfl, _⟩ | ⟨g', cap', cur', rfl, _, hg', _⟩
    · simp [Value.ownBlock]
    · intro h
      simp [Value.ownBlock] at h
      subst h
      rw [hg] at hg'
      injection hg' with h
      injection h with _ h _
      exact he h
end Go.Proofs.Ytfnfnmonnfcpeab
