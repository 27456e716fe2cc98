/-
  Laws on copy, append and clear at elements of several cells, over rows that the call owns. Plain facts.
-/
import Derived.Test.YtcjfhfalffngjaaCSearch
import Derived.Test.YtcjfhfalffngjaaDLaws
import Derived.Shelf.Spec.SlicesInsert
import Derived.Lib.AppendZerosOnto
import Derived.Lib.Overlaps
import Derived.Laws.Externs
import Derived.Lib.SliceRun
import Derived.Shelf.RegionOpenPlain
import Derived.Deep.RegionLaw
namespace Go.Proofs.Ytcjfhfalffngjaa
open Go.RowKit Go.Lib
set_option maxRecDepth 100000

theorem run_copy_rowK {P : Program} (w : World) (dT sT ty elem : TypeId) (g o dLen dCap : Nat) (a : Addr) (sLen sCap : Nat) (cur : Array Value) (t : TypeId) (cs : List Value) (k m : Nat)
    (hu : P.underlying dT = some (.slice elem)) (hs : ∀ w, (Go.sizeOf elem).run P w = .ok k w)
    (hg : w.heap[g]? = some (.cells cur t (0, 0))) (hm : Nat.min sLen dLen = m) (hn : cs.length = m * k)
    (hsrc : ∀ j v, cs[j]? = some v → w.cell? (a.add j) = some v) (hfit : o + cs.length ≤ cur.size) (h1 : ∀ v ∈ cs, v.oneCell' = true) :
    (Builtin.copy_ #[dT, sT] ty #[.slice (some ⟨g, o, none⟩) dLen dCap, .slice (some a) sLen sCap]).run P w =
      .ok (goInt m) (w.setRow g (cur.toList.take o ++ cs ++ cur.toList.drop (o + cs.length)).toArray) := by
  have hl := run_firstCells_some (P := P) w k m a sLen sCap cs hn hsrc
  have hst := run_storeCells_at P g o t cs 0 cur w hg (by simpa using hfit) h1
  simp [Builtin.copy_, run_underlying hu, Builtin.lenOf, hs, hm, hl, hst]

theorem run_clear_rowK {P : Program} (w : World) (t e ty : TypeId) (z : Value) (ht : P.underlying t = some (.slice e)) (hv : ∀ w, (zeroValue e).run P w = .ok z w) (g o n c : Nat) (cur : Array Value) (te : TypeId) (cs : List Value) (hcs : (Builtin.zeroCells z.cells n).toList = cs) (hn : 0 < n)
    (hg : w.heap[g]? = some (.cells cur te (0, 0))) (hfit : o + cs.length ≤ cur.size) (h1 : ∀ v ∈ cs, v.oneCell' = true) :
    (Builtin.clear_ #[t] ty #[.slice (some ⟨g, o, none⟩) n c]).run P w = .ok (.tuple #[]) (w.setRow g (cur.toList.take o ++ cs ++ cur.toList.drop (o + cs.length)).toArray) := by
  have hst := run_storeCells_at P g o te cs 0 cur w hg (by simpa using hfit) h1
  obtain ⟨n', rfl⟩ : ∃ n', n = n' + 1 := ⟨n - 1, by omega⟩
  simp [Builtin.clear_, run_underlying ht, hv, hcs, hst]

theorem frozen_setRow {w : World} {g : Nat} {cs : Array Value} (a : Addr) : (w.setRow g cs).frozen? a = w.frozen? a := by
  unfold World.frozen? World.setRow
  simp only [Array.getElem?_modify]
  by_cases h : g = a.block
  · subst h
    simp only [if_true]
    cases hq : w.heap[a.block]? with
    | none => rfl
    | some o => cases o <;> rfl
  · rw [if_neg h]

/-- What a row holds, cell by cell. -/
theorem row_cell {w : World} {g : Nat} {cur : Array Value} {t : TypeId} (hg : w.heap[g]? = some (.cells cur t (0, 0))) {xs : List Value} {n : Nat} (hx : cur.toList.take n = xs) {j : Nat} {u : Value} (h : xs[j]? = some u) : w.cell? ⟨g, j, none⟩ = some u := by
  rw [cell_of_row w g j cur t (0, 0) hg]
  rw [← hx, List.getElem?_take] at h
  split at h
  · simpa using h
  · cases h

/-- A row grows by one in its own block. -/
def shift1 (cur xs : List Value) (a b : Nat) : List Value := cur.take b ++ xs.drop a ++ cur.drop (b + (xs.drop a).length)
def shift2 (r news : List Value) (a : Nat) : List Value := r.take a ++ news ++ r.drop (a + news.length)
theorem shift_row (cur xs news : List Value) (a N k : Nat) (hx : cur.take N = xs) (ha : a ≤ N) (hl : news.length = k) (hc : N + k ≤ cur.length) :
    (shift1 cur xs a (a + k)).length = cur.length ∧ (shift2 (shift1 cur xs a (a + k)) news a).length = cur.length ∧ (shift2 (shift1 cur xs a (a + k)) news a).take (N + k) = xs.take a ++ news ++ xs.drop a := by
  have hxl : xs.length = N := by rw [← hx, List.length_take]; omega
  have hd : (xs.drop a).length = N - a := by rw [List.length_drop, hxl]
  have l1 : (shift1 cur xs a (a + k)).length = cur.length := by
    unfold shift1
    simp only [List.length_append, List.length_take, List.length_drop, hxl]
    omega
  have l2 : (shift2 (shift1 cur xs a (a + k)) news a).length = cur.length := by
    unfold shift2
    simp only [List.length_append, List.length_take, List.length_drop, l1, hl]
    omega
  refine ⟨l1, l2, ?_⟩
  have e1 : (shift1 cur xs a (a + k)).take a = xs.take a := by
    unfold shift1
    rw [List.append_assoc, List.take_append_of_le_length (by rw [List.length_take]; omega), List.take_take, ← hx, List.take_take]
    congr 1
    omega
  have e2 : (shift1 cur xs a (a + k)).drop (a + k) = xs.drop a ++ cur.drop (N + k) := by
    unfold shift1
    rw [List.append_assoc, List.drop_append_of_le_length (by rw [List.length_take]; omega), List.drop_eq_nil_of_le (by rw [List.length_take]; omega), List.nil_append, hd]
    congr 2
    omega
  unfold shift2
  rw [e1, hl, e2, ← List.append_assoc, List.take_append_of_le_length (by simp only [List.length_append, List.length_take, hd, hl, hxl]; omega), List.take_of_length_le (by simp only [List.length_append, List.length_take, hd, hl, hxl]; omega)]

/-- A row grows by one in a new block. -/
theorem grow_row (R xs news tail : List Value) (a N k : Nat) (hxl : xs.length = N) (ha : a ≤ N) (hl : news.length = k) (hR : R.length = N + k - a + tail.length) :
    (shift2 (xs.take a ++ R) news a).length = N + k + tail.length ∧ (shift1 (shift2 (xs.take a ++ R) news a) xs a (a + k)).length = N + k + tail.length ∧
      (shift1 (shift2 (xs.take a ++ R) news a) xs a (a + k)).take (N + k) = xs.take a ++ news ++ xs.drop a := by
  have h0 : (xs.take a).length = a := by rw [List.length_take]; omega
  have hd : (xs.drop a).length = N - a := by rw [List.length_drop, hxl]
  have e0 : (xs.take a ++ R).take a = xs.take a := by
    rw [List.take_append_of_le_length (by omega), List.take_take]
    congr 1
    omega
  have l1 : (shift2 (xs.take a ++ R) news a).length = N + k + tail.length := by
    unfold shift2
    simp only [List.length_append, List.length_take, List.length_drop, hl, hR, hxl]
    omega
  have e1 : (shift2 (xs.take a ++ R) news a).take (a + k) = xs.take a ++ news := by
    unfold shift2
    rw [e0, List.take_append_of_le_length (by rw [List.length_append, h0, hl]; omega), List.take_of_length_le (by rw [List.length_append, h0, hl]; omega)]
  refine ⟨l1, ?_, ?_⟩
  · unfold shift1
    simp only [List.length_append, List.length_take, List.length_drop, l1, hxl]
    omega
  · unfold shift1
    rw [e1, List.take_append_of_le_length (by simp only [List.length_append, h0, hd, hl]; omega), List.take_of_length_le (by simp only [List.length_append, h0, hd, hl]; omega)]

theorem mixedB : Try.prog.follows Departure.mixedOrders = true := by kernel_rfl
theorem info54 : (Try.prog.info? 54).map (fun i => (i.zero, i.size, i.bytes)) = some (some (.agg #[.string ⟨#[]⟩, .string ⟨#[]⟩, .bool false]), 3, 40) := by kernel_rfl

/-- How a call ends that hands back a row: the row, its block; only the old row's block was written. -/
def GrowEnd (base : Nat) (e : TypeId) (k : Nat) (v : Value) (n : Nat) (ys : List Value) (w : World) (en : Ending) (w' : World) : Prop :=
  ∃ v', en = .returned v' ∧ w'.ownsRow base e k v' n ys ∧ w.grownBy w' v.ownBlock ∧ (v'.ownBlock = v.ownBlock ∨ ∃ x, v'.ownBlock = some x ∧ w.heap.size ≤ x)

/-- How a call ends that hands back a new row. -/
def CloneEnd (base : Nat) (e : TypeId) (k n : Nat) (ys : List Value) (w : World) (en : Ending) (w' : World) : Prop :=
  ∃ v', en = .returned v' ∧ w'.ownsRow base e k v' n ys ∧ (∃ x, v'.ownBlock = some x ∧ w.heap.size ≤ x) ∧ Below w.heap.size w w'
theorem ownsRow_base {w : World} {base base' : Nat} {e : TypeId} {k : Nat} {v : Value} {n : Nat} {xs : List Value} (h : w.ownsRow base e k v n xs) (hb : base' ≤ base) : w.ownsRow base' e k v n xs := by
  refine ⟨h.1, ?_⟩
  rcases h.2 with h2 | ⟨g, cap, cur, hv, hg, r⟩
  · exact .inl h2
  · exact .inr ⟨g, cap, cur, hv, Nat.le_trans hb hg, r⟩
#print axioms shift_row
end Go.Proofs.Ytcjfhfalffngjaa
