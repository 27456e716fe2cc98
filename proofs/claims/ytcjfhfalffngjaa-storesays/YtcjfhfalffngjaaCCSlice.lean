/-
  The contracts of strings.Compare, slices.BinarySearchFunc at entries, node.find, node.leaf and node.over, over the seat's program. Laws on copy, append and clear at elements of several cells, over rows that the call owns. Plain facts.
-/
import Derived.Test.YtcjfhfalffngjaaCCPure
import Derived.Test.YtcjfhfalffngjaaCDSmall
import Derived.Shelf.Small.Strs
import Derived.WalkKit
import Derived.WalkLawsBesides
import Derived.WalkSpells
import Derived.Deep.LoopGhost
import Derived.BigCall
import Derived.Outline
import Derived.Test.YtcjfhfalffngjaaCDLaws
import Derived.Shelf.Spec.SlicesInsert
import Derived.Lib.AppendZerosOnto
import Derived.Lib.Overlaps
import Derived.Laws.Externs
import Derived.Lib.SliceRun
import Derived.Shelf.RegionOpenPlain
import Derived.Deep.RegionLaw
namespace Go.Proofs.Ytcjfhfalffngjaa
open Go.RowKit Go.Shelf
set_option linter.unusedVariables false
set_option maxRecDepth 100000


def cmpRen : Go.Shelf.Ren := ⟨fun | 106 => 65 | 213 => 76 | 265 => 95 | n => n, fun | 9 => 9 | 3 => 3 | n => n, fun | n => n⟩
theorem cmpLays : Go.Proofs.Lays.n106 Try.prog cmpRen := {
  mixed := by kernel_rfl
  f106 := Try.func65.trans (congrArg some (by kernel_rfl))
  f213 := Try.func76.trans (congrArg some (by kernel_rfl))
  f265 := Try.func95.trans (congrArg some (by kernel_rfl))
  t3 := Try.underlying3
  a3 := Try.isAgg3
  z3 := Try.sizeOf3
  v3 := Try.zeroValue3
  t9 := Try.underlying9
  a9 := Try.isAgg9
  z9 := Try.sizeOf9
  v9 := Try.zeroValue9 }
theorem compare_calls (a b : ByteArray) (w : World) :
    Calls Try.prog 65 #[.string a, .string b] w fun e w' => e = .returned (.int .i64 (cmpB a b)) ∧ w' = w := Any.strings_Compare cmpLays a b w

/-- An entry as a value. -/
def itemV (it : ChD) : Value := .agg #[.string it.key, .string it.val, .bool it.gone]

theorem closure_calls (k n : ByteArray) (x : Bool) (key : ByteArray) (w : World) :
    Calls Try.prog 64 #[.agg #[.string k, .string n, .bool x], .string key] w fun e w' => e = .returned (.int .i64 (cmpB k key)) ∧ w' = w.alloc (.cells #[.string k, .string n, .bool x] 54) := by
  have h1 := fun wx => compare_calls k key wx
  go_enter Try.func64, Try.ntmps64
  go_wp2_with (go_at_call 65; refine (h1 _).mono ?_; rintro e wx ⟨rfl, rfl⟩)
  go_ret
  exact ⟨rfl, rfl⟩

theorem beq_nat (n m : Nat) : ((n : Int) == (m : Int)) = decide (n = m) := by
  by_cases h : n = m
  · simp [h]
  · rw [beq_eq_false_iff_ne.2 (by omega)]; simp [h]
/-- Where a key stands among entries, or would. -/
def Found (its : List ChD) (key : ByteArray) (at' : Nat) (is' : Bool) : Prop :=
  at' ≤ its.length ∧ (∀ x ∈ its.take at', kLt x.key key) ∧ ((is' = true ∧ ∃ x, its[at']? = some x ∧ x.key = key) ∨ (is' = false ∧ ∀ x ∈ its.drop at', kLt key x.key))

/-- How a search ends. -/
def FindEnd (its : List ChD) (key : ByteArray) (w : World) (e : Ending) (w' : World) : Prop := ∃ (at' : Nat) (is' : Bool), e = .returned (.tuple #[.int .i64 at', .bool is']) ∧ Found its key at' is' ∧ Below w.heap.size w w'

set_option maxRecDepth 100000 in
theorem search_calls (base : Nat) (v : Value) (its : List ChD) (key : ByteArray) (w : World) (ho : w.ownsRow base 54 3 v its.length (flat its)) (hs : Sorted its) (hn : its.length ≤ 100) :
    Calls Try.prog 63 #[v, .string key, .func (.func 64) #[] #[]] w fun e w' => FindEnd its key w e w' := by
  obtain ⟨N, hN⟩ : ∃ N, its.length = N := ⟨_, rfl⟩
  rw [hN] at hn ho
  rcases ho.2 with ⟨rfl, rfl⟩ | ⟨g, cap, cur, rfl, hr⟩
  · have HN := hide hN
    clear ho hN
    have HS := hide hs
    clear hs
    go_enter Try.func63, Try.ntmps63
    go_wp2_with fail
    go_loopg [9, 10] 1 (fun k i j wr => i = .int .i64 0 ∧ j = .int .i64 0 ∧ wr = w)
    case atStart => exact ⟨rfl, rfl, rfl⟩
    case round =>
      obtain ⟨rfl, rfl, rfl⟩ := hrel
      go_wp2_with fail
      go_ret2
      exact ⟨0, false, rfl, ⟨by omega, by simp, .inr ⟨rfl, by have := unhide HN; rw [List.length_eq_zero_iff.1 this]; simp⟩⟩, Below.refl _ _⟩
  · have hc : ∀ j, j < N → ∃ k n x, its[j]? = some ⟨k, n, x⟩ ∧ w.cell? ⟨g, j * 3, none⟩ = some (.string k) ∧ w.cell? ⟨g, j * 3 + 1, none⟩ = some (.string n) ∧ w.cell? ⟨g, j * 3 + 2, none⟩ = some (.bool x) := by
      intro j hj
      have h1 := flat_get its j (by omega)
      refine ⟨(its[j]'(by omega)).key, (its[j]'(by omega)).val, (its[j]'(by omega)).gone, List.getElem?_eq_getElem (by omega), ?_, ?_, ?_⟩
      · rw [ho.cellAt (j * 3) (by omega)]; exact h1.1
      · rw [ho.cellAt (j * 3 + 1) (by omega)]; exact h1.2.1
      · rw [ho.cellAt (j * 3 + 2) (by omega)]; exact h1.2.2
    have hg : g < w.heap.size := (Array.getElem?_eq_some_iff.1 hr.2.1).1
    have HN := hide hN
    have HC := hide hc
    have HS := hide hs
    have HO := hide ho
    clear ho hN hs hc hr
    go_enter Try.func63, Try.ntmps63
    go_wp2_with fail
    go_loopg [9, 10] (N + 1) (fun k vi vj wr => ∃ i j : Nat, j - i ≤ k ∧ i ≤ j ∧ j ≤ N ∧ vi = .int .i64 i ∧ vj = .int .i64 j ∧ Hid ((∀ t x, t < i → its[t]? = some x → kLt x.key key) ∧ (∀ t x, j ≤ t → its[t]? = some x → ¬ kLt x.key key)) ∧ Hid (Below w.heap.size w wr))
    case atStart => exact ⟨0, N, by omega, by omega, by omega, rfl, rfl, ⟨fun t x ht => by omega, fun t x ht hx => by have := unhide HN; have := (List.getElem?_eq_some_iff.1 hx).1; omega⟩, Below.refl _ _⟩
    case round =>
      obtain ⟨i, j, hk, hij, hjN, rfl, rfl, HF, HB⟩ := hrel
      by_cases hlt : i < j
      · have hltz : (i : Int) < (j : Int) := by omega
        obtain ⟨c, hc⟩ : ∃ c, c = (i + j) / 2 := ⟨_, rfl⟩
        have hc1 : i ≤ c := by omega
        have hc2 : c < j := by omega
        have zc : ((i : Int) + (j : Int)) / 2 = (c : Int) := by omega
        have hcN : (c : Int) < (N : Int) := by omega
        obtain ⟨kk, nn, xx, hx, q1, q2, q3⟩ := unhide HC c (by omega)
        have bw := unhide HB
        have c1 := (bw.cell (p := ⟨g, c * 3, none⟩) hg).trans q1
        have c2 := (bw.cell (p := ⟨g, c * 3 + 1, none⟩) hg).trans q2
        have c3 := (bw.cell (p := ⟨g, c * 3 + 2, none⟩) hg).trans q3
        have hcl := fun wx => closure_calls kk nn xx key wx
        have Hx := hide hx
        clear hx hc q1 q2 q3 bw
        have Hd : Hid (∀ z, z = cmpB kk key → (z < 0 → kLt kk key) ∧ (¬ z < 0 → ¬ kLt kk key)) := by rintro z rfl; exact ⟨fun h => h, fun h => h⟩
        obtain ⟨z, hz⟩ : ∃ z, z = cmpB kk key := ⟨_, rfl⟩
        rw [← hz] at hcl
        have Hz := hide hz
        clear hz
        by_cases hc0 : z < 0
        · have hd0 : decide (z < 0) = true := decide_eq_true hc0
          go_wp2_with (go_at_call 64; refine (hcl _).mono ?_; rintro e wx ⟨rfl, rfl⟩)
          go_roundg (j - (c + 1))
          case measure => omega
          case rel => exact ⟨c + 1, j, by omega, by omega, by omega, by simp, rfl, ⟨fun t x ht hx => by
              have hF := unhide HF
              have hS := unhide HS
              have h1 : kLt kk key := (unhide Hd z (unhide Hz)).1 hc0
              rcases Nat.lt_or_ge t c with h2 | h2
              · have hc' := unhide Hx
                obtain ⟨ht1, rfl⟩ := List.getElem?_eq_some_iff.1 hx
                obtain ⟨hc1', hc2'⟩ := List.getElem?_eq_some_iff.1 hc'
                have := List.pairwise_iff_getElem.1 hS t c ht1 hc1' h2
                rw [hc2'] at this
                exact kLt_trans this h1
              · obtain rfl : t = c := by omega
                rw [unhide Hx] at hx
                simp at hx
                subst hx
                exact h1, (unhide HF).2⟩, (unhide HB).alloc (unhide HB).size _⟩
        · have hd0 : decide (z < 0) = false := decide_eq_false hc0
          go_wp2_with (go_at_call 64; refine (hcl _).mono ?_; rintro e wx ⟨rfl, rfl⟩)
          go_roundg (c - i)
          case measure => omega
          case rel => exact ⟨i, c, by omega, by omega, by omega, rfl, rfl, ⟨(unhide HF).1, fun t x ht hx hlt' => by
              have hS := unhide HS
              have h1 : ¬ kLt kk key := (unhide Hd z (unhide Hz)).2 hc0
              rcases Nat.lt_or_ge c t with h2 | h2
              · have hc' := unhide Hx
                obtain ⟨ht1, rfl⟩ := List.getElem?_eq_some_iff.1 hx
                obtain ⟨hc1', hc2'⟩ := List.getElem?_eq_some_iff.1 hc'
                have := List.pairwise_iff_getElem.1 hS c t hc1' ht1 h2
                rw [hc2'] at this
                exact h1 (kLt_trans this hlt')
              · obtain rfl : t = c := by omega
                rw [unhide Hx] at hx
                simp at hx
                subst hx
                exact h1 hlt'⟩, (unhide HB).alloc (unhide HB).size _⟩
      · have hltz : ¬ (i : Int) < (j : Int) := by omega
        obtain rfl : i = j := by omega
        have hfound : ∀ is', (is' = true ∧ ∃ x, its[i]? = some x ∧ x.key = key) ∨ (is' = false ∧ ∀ x, its[i]? = some x → x.key ≠ key) → Found its key i is' := by
          intro is' h
          refine ⟨by have := unhide HN; omega, fun x hx => ?_, ?_⟩
          · obtain ⟨t, ht, rfl⟩ := List.mem_iff_getElem.1 hx
            rw [List.length_take] at ht
            exact (unhide HF).1 t _ (by omega) (by rw [List.getElem?_eq_getElem (by omega), List.getElem_take])
          · rcases h with h | ⟨h1, h2⟩
            · exact .inl h
            · refine .inr ⟨h1, fun x hx => ?_⟩
              obtain ⟨t, ht, rfl⟩ := List.mem_iff_getElem.1 hx
              rw [List.length_drop] at ht
              rw [List.getElem_drop]
              have h3 := (unhide HF).2 (i + t) _ (by omega) (List.getElem?_eq_getElem (by omega))
              rcases kLt_tri (its[i + t]'(by omega)).key key with h4 | h4 | h4
              · exact absurd h4 h3
              · exfalso
                rcases Nat.eq_zero_or_pos t with h5 | h5
                · subst h5
                  exact h2 _ (List.getElem?_eq_getElem (by omega)) h4
                · have h6 := List.pairwise_iff_getElem.1 (unhide HS) i (i + t) (by omega) (by omega) (by omega)
                  rw [h4] at h6
                  exact (unhide HF).2 i _ (by omega) (List.getElem?_eq_getElem (by omega)) h6
              · exact h4
        have HFo := hide hfound
        clear hfound
        by_cases hiN : i < N
        · have hiz : (i : Int) < (N : Int) := by omega
          obtain ⟨kk, nn, xx, hx, q1, q2, q3⟩ := unhide HC i (by omega)
          have bw := unhide HB
          have c1 := (bw.cell (p := ⟨g, i * 3, none⟩) hg).trans q1
          have c2 := (bw.cell (p := ⟨g, i * 3 + 1, none⟩) hg).trans q2
          have c3 := (bw.cell (p := ⟨g, i * 3 + 2, none⟩) hg).trans q3
          have hcl := fun wx => closure_calls kk nn xx key wx
          have Hx := hide hx
          clear hx q1 q2 q3 bw
          obtain ⟨z, hz⟩ : ∃ z, z = cmpB kk key := ⟨_, rfl⟩
          rw [← hz] at hcl
          have Hz := hide hz
          clear hz
          go_wp2_with (go_at_call 64; refine (hcl _).mono ?_; rintro e wx ⟨rfl, rfl⟩)
          go_ret2
          refine ⟨i, z == 0, rfl, unhide HFo _ ?_, (unhide HB).alloc (unhide HB).size _⟩
          have hz := unhide Hz
          by_cases hz0 : z = 0
          · left
            refine ⟨by simp [hz0], _, unhide Hx, ?_⟩
            exact (cmpB_zero _ _).1 (by rw [← hz, hz0])
          · right
            refine ⟨by simp [hz0], fun x hx' he => ?_⟩
            rw [unhide Hx] at hx'
            simp at hx'
            subst hx'
            exact hz0 (by rw [hz]; exact (cmpB_zero _ _).2 he)
        · have hiz : ¬ (i : Int) < (N : Int) := by omega
          go_wp2_with fail
          go_ret2
          refine ⟨i, false, rfl, unhide HFo _ (.inr ⟨rfl, fun x hx' => ?_⟩), unhide HB⟩
          have := (List.getElem?_eq_some_iff.1 hx').1
          have := unhide HN
          omega

#print axioms search_calls
end Go.Proofs.Ytcjfhfalffngjaa
namespace Go.Proofs.Ytcjfhfalffngjaa
open Go.RowKit Go.Lib
set_option maxRecDepth 100000

theorem run_copy_rowK {P : Program} (w : World) (dT sT ty elem : TypeId) (g o dLen dCap : Nat) (a : Addr) (sLen sCap : Nat) (cur : Array Value) (t : TypeId) (cs : List Value) (k m : Nat)
    (hu : P.underlying dT = some (.slice elem)) (hs : ∀ w, (Go.sizeOf elem).run P w = .ok k w)
    (hg : w.heap[g]? = some (.cells cur t (0, 0))) (hm : Nat.min sLen dLen = m) (hn : cs.length = m * k)
    (hsrc : ∀ j v, cs[j]? = some v → w.cell? (a.add j) = some v) (hfit : o + cs.length ≤ cur.size) (h1 : ∀ v ∈ cs, v.oneCell' = true) :
    (Builtin.copy_ #[dT, sT] ty #[.slice (some ⟨g, o, none⟩) dLen dCap, .slice (some a) sLen sCap]).run P w =
      .ok (goInt m) (w.setRow g (cur.toList.take o ++ cs ++ cur.toList.drop (o + cs.length)).toArray) := by
  have hl := run_firstCells_some (P := P) w k m a sLen sCap cs hn hsrc
  have hst := run_storeCells_at P g o t cs 0 cur w hg (by simpa using hfit) h1
  simp [Builtin.copy_, run_underlying hu, Builtin.lenOf, hs, hm, hl, hst]

theorem run_clear_rowK {P : Program} (w : World) (t e ty : TypeId) (z : Value) (ht : P.underlying t = some (.slice e)) (hv : ∀ w, (zeroValue e).run P w = .ok z w) (g o n c : Nat) (cur : Array Value) (te : TypeId) (cs : List Value) (hcs : (Builtin.zeroCells z.cells n).toList = cs) (hn : 0 < n)
    (hg : w.heap[g]? = some (.cells cur te (0, 0))) (hfit : o + cs.length ≤ cur.size) (h1 : ∀ v ∈ cs, v.oneCell' = true) :
    (Builtin.clear_ #[t] ty #[.slice (some ⟨g, o, none⟩) n c]).run P w = .ok (.tuple #[]) (w.setRow g (cur.toList.take o ++ cs ++ cur.toList.drop (o + cs.length)).toArray) := by
  have hst := run_storeCells_at P g o te cs 0 cur w hg (by simpa using hfit) h1
  obtain ⟨n', rfl⟩ : ∃ n', n = n' + 1 := ⟨n - 1, by omega⟩
  simp [Builtin.clear_, run_underlying ht, hv, hcs, hst]

theorem frozen_setRow {w : World} {g : Nat} {cs : Array Value} (a : Addr) : (w.setRow g cs).frozen? a = w.frozen? a := by
  unfold World.frozen? World.setRow
  simp only [Array.getElem?_modify]
  by_cases h : g = a.block
  · subst h
    simp only [if_true]
    cases hq : w.heap[a.block]? with
    | none => rfl
    | some o => cases o <;> rfl
  · rw [if_neg h]

/-- What a row holds, cell by cell. -/
theorem row_cell {w : World} {g : Nat} {cur : Array Value} {t : TypeId} (hg : w.heap[g]? = some (.cells cur t (0, 0))) {xs : List Value} {n : Nat} (hx : cur.toList.take n = xs) {j : Nat} {u : Value} (h : xs[j]? = some u) : w.cell? ⟨g, j, none⟩ = some u := by
  rw [cell_of_row w g j cur t (0, 0) hg]
  rw [← hx, List.getElem?_take] at h
  split at h
  · simpa using h
  · cases h

/-- A row grows by one in its own block. -/
def shift1 (cur xs : List Value) (a b : Nat) : List Value := cur.take b ++ xs.drop a ++ cur.drop (b + (xs.drop a).length)
def shift2 (r news : List Value) (a : Nat) : List Value := r.take a ++ news ++ r.drop (a + news.length)
theorem shift_row (cur xs news : List Value) (a N k : Nat) (hx : cur.take N = xs) (ha : a ≤ N) (hl : news.length = k) (hc : N + k ≤ cur.length) :
    (shift1 cur xs a (a + k)).length = cur.length ∧ (shift2 (shift1 cur xs a (a + k)) news a).length = cur.length ∧ (shift2 (shift1 cur xs a (a + k)) news a).take (N + k) = xs.take a ++ news ++ xs.drop a := by
  have hxl : xs.length = N := by rw [← hx, List.length_take]; omega
  have hd : (xs.drop a).length = N - a := by rw [List.length_drop, hxl]
  have l1 : (shift1 cur xs a (a + k)).length = cur.length := by
    unfold shift1
    simp only [List.length_append, List.length_take, List.length_drop, hxl]
    omega
  have l2 : (shift2 (shift1 cur xs a (a + k)) news a).length = cur.length := by
    unfold shift2
    simp only [List.length_append, List.length_take, List.length_drop, l1, hl]
    omega
  refine ⟨l1, l2, ?_⟩
  have e1 : (shift1 cur xs a (a + k)).take a = xs.take a := by
    unfold shift1
    rw [List.append_assoc, List.take_append_of_le_length (by rw [List.length_take]; omega), List.take_take, ← hx, List.take_take]
    congr 1
    omega
  have e2 : (shift1 cur xs a (a + k)).drop (a + k) = xs.drop a ++ cur.drop (N + k) := by
    unfold shift1
    rw [List.append_assoc, List.drop_append_of_le_length (by rw [List.length_take]; omega), List.drop_eq_nil_of_le (by rw [List.length_take]; omega), List.nil_append, hd]
    congr 2
    omega
  unfold shift2
  rw [e1, hl, e2, ← List.append_assoc, List.take_append_of_le_length (by simp only [List.length_append, List.length_take, hd, hl, hxl]; omega), List.take_of_length_le (by simp only [List.length_append, List.length_take, hd, hl, hxl]; omega)]

/-- A row grows by one in a new block. -/
theorem grow_row (R xs news tail : List Value) (a N k : Nat) (hxl : xs.length = N) (ha : a ≤ N) (hl : news.length = k) (hR : R.length = N + k - a + tail.length) :
    (shift2 (xs.take a ++ R) news a).length = N + k + tail.length ∧ (shift1 (shift2 (xs.take a ++ R) news a) xs a (a + k)).length = N + k + tail.length ∧
      (shift1 (shift2 (xs.take a ++ R) news a) xs a (a + k)).take (N + k) = xs.take a ++ news ++ xs.drop a := by
  have h0 : (xs.take a).length = a := by rw [List.length_take]; omega
  have hd : (xs.drop a).length = N - a := by rw [List.length_drop, hxl]
  have e0 : (xs.take a ++ R).take a = xs.take a := by
    rw [List.take_append_of_le_length (by omega), List.take_take]
    congr 1
    omega
  have l1 : (shift2 (xs.take a ++ R) news a).length = N + k + tail.length := by
    unfold shift2
    simp only [List.length_append, List.length_take, List.length_drop, hl, hR, hxl]
    omega
  have e1 : (shift2 (xs.take a ++ R) news a).take (a + k) = xs.take a ++ news := by
    unfold shift2
    rw [e0, List.take_append_of_le_length (by rw [List.length_append, h0, hl]; omega), List.take_of_length_le (by rw [List.length_append, h0, hl]; omega)]
  refine ⟨l1, ?_, ?_⟩
  · unfold shift1
    simp only [List.length_append, List.length_take, List.length_drop, l1, hxl]
    omega
  · unfold shift1
    rw [e1, List.take_append_of_le_length (by simp only [List.length_append, h0, hd, hl]; omega), List.take_of_length_le (by simp only [List.length_append, h0, hd, hl]; omega)]

theorem mixedB : Try.prog.follows Departure.mixedOrders = true := by kernel_rfl
theorem info54 : (Try.prog.info? 54).map (fun i => (i.zero, i.size, i.bytes)) = some (some (.agg #[.string ⟨#[]⟩, .string ⟨#[]⟩, .bool false]), 3, 40) := by kernel_rfl

/-- How a call ends that hands back a row: the row, its block; only the old row's block was written. -/
def GrowEnd (base : Nat) (e : TypeId) (k : Nat) (v : Value) (n : Nat) (ys : List Value) (w : World) (en : Ending) (w' : World) : Prop :=
  ∃ v', en = .returned v' ∧ w'.ownsRow base e k v' n ys ∧ w.grownBy w' v.ownBlock ∧ (v'.ownBlock = v.ownBlock ∨ ∃ x, v'.ownBlock = some x ∧ w.heap.size ≤ x)

/-- How a call ends that hands back a new row. -/
def CloneEnd (base : Nat) (e : TypeId) (k n : Nat) (ys : List Value) (w : World) (en : Ending) (w' : World) : Prop :=
  ∃ v', en = .returned v' ∧ w'.ownsRow base e k v' n ys ∧ (∃ x, v'.ownBlock = some x ∧ w.heap.size ≤ x) ∧ Below w.heap.size w w'
theorem ownsRow_base {w : World} {base base' : Nat} {e : TypeId} {k : Nat} {v : Value} {n : Nat} {xs : List Value} (h : w.ownsRow base e k v n xs) (hb : base' ≤ base) : w.ownsRow base' e k v n xs := by
  refine ⟨h.1, ?_⟩
  rcases h.2 with h2 | ⟨g, cap, cur, hv, hg, r⟩
  · exact .inl h2
  · exact .inr ⟨g, cap, cur, hv, Nat.le_trans hb hg, r⟩
#print axioms shift_row
end Go.Proofs.Ytcjfhfalffngjaa
