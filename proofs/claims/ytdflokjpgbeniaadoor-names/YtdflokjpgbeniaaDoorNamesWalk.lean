/-
  The walk of Names: it answers true, and writes nothing that was there.
-/
import Derived.Test.YtdflokjpgbeniaaDoorProg
import Derived.WalkKit
import Derived.WalkLawsBesides
import Derived.WalkSpells
import Derived.Deep.LoopGhost
import Derived.Laws.Rows
import Derived.Below
import Derived.Outline
import Derived.BigQuiet
namespace Go.Proofs.YtdflokjpgbeniaaDoor
open Go.RowKit

set_option maxRecDepth 100000 in
theorem small10_calls (w : World) :
    Calls Tryd.prog 72 #[.int .i64 10] w fun e w' => e = .returned (.string ⟨#[49, 48]⟩) ∧ w' = w := by
  go_enter Tryd.func72, Tryd.ntmps72
  go_wp2
  go_ret
  refine ⟨?_, rfl⟩
  kernel_rfl

set_option maxRecDepth 100000 in
theorem error10_calls (w : World) :
    Calls Tryd.prog 13 #[.int .i64 10] w fun e w' => e = .returned (.string ⟨#[106, 111, 98, 99, 97, 115, 101, 58, 32, 101, 114, 114, 111, 114, 32, 49, 48]⟩) ∧ w' = w := by
  go_enter Tryd.func13, Tryd.ntmps13
  go_wp2_with (first | (go_at_call 72; refine (small10_calls _).mono ?_; rintro e wx ⟨rfl, hwx⟩; have hwx := hwx.symm; subst hwx) | go_in)
  go_ret
  refine ⟨?_, rfl⟩
  kernel_rfl

set_option maxRecDepth 100000 in
theorem same_calls (n : Int) (hn : 0 < n) (w : World) :
    Calls Tryd.prog 11 #[.iface 23 (.int .i64 n), .int .i64 n] w fun e w' => e = .returned (.bool true) ∧ w' = w := by
  have ht : (Instr.typeAssert (.iface 23 (.int .i64 n)) 27 23 true).run Tryd.prog w = .ok (.tuple #[.int .i64 n, .bool true]) w := by kernel_rfl
  go_enter Tryd.func11, Tryd.ntmps11
  go_wp2
  go_ret
  exact ⟨rfl, rfl⟩

set_option maxRecDepth 100000 in
theorem sameNumbers_calls (zs : List Int) (b1 b2 : Nat) (w : World) (h1 : ∀ i, i < 18 → w.cell? ⟨b1, i, none⟩ = some (.int .i64 (zs.getD i 0))) (h2 : ∀ i, i < 18 → w.cell? ⟨b2, i, none⟩ = some (.int .i64 (zs.getD i 0))) :
    Calls Tryd.prog 12 #[.slice (some ⟨b1, 0, none⟩) 18 18, .slice (some ⟨b2, 0, none⟩) 18 18] w fun e w' => e = .returned (.bool true) ∧ Below w.heap.size w w' := by
  go_enter Tryd.func12, Tryd.ntmps12
  go_wp2
  go_loopg [5] 19 (fun k i wr => ∃ j : Nat, j ≤ 18 ∧ k = 19 - j ∧ i = .int .i64 j ∧ Below w.heap.size w wr ∧ (∀ i, i < 18 → wr.cell? ⟨b1, i, none⟩ = some (.int .i64 (zs.getD i 0))) ∧ (∀ i, i < 18 → wr.cell? ⟨b2, i, none⟩ = some (.int .i64 (zs.getD i 0))))
  case atStart => exact ⟨0, by omega, rfl, rfl, Below.refl _ _, h1, h2⟩
  case round =>
    obtain ⟨j, hj, hk, rfl, hB, k1, k2⟩ := hrel
    have K1 : Hid (∀ i, i < 18 → wr.cell? ⟨b1, i, none⟩ = some (.int .i64 (zs.getD i 0))) := k1
    have K2 : Hid (∀ i, i < 18 → wr.cell? ⟨b2, i, none⟩ = some (.int .i64 (zs.getD i 0))) := k2
    clear k1 k2 h1 h2
    by_cases hj18 : j < 18
    · have c1 := K1.out j hj18
      have c2 := K2.out j hj18
      generalize zs.getD j 0 = z at c1 c2
      go_wp2_with fail
      go_quiet (fail)
      go_wp2
      go_roundg (18 - j)
      case measure => omega
      case rel => exact ⟨j + 1, by omega, by omega, by simp, below_drewN hB _, fun i hi => K1.out i hi, fun i hi => K2.out i hi⟩
    · go_wp2
      go_ret
      exact ⟨rfl, hB⟩

/-- The bounds that the document names, in the law's order. -/
def bounds : List Int := [24, 12, 20, 16, 999, 6, 80, 48, 44, 12, 64, 140, 130, 80, 80, 1, 2, 1]

/-- The cells of the errors' list. -/
def errCells : List Value := [1, 2, 3, 4, 5, 6, 7, 8, 9, 10].map fun n => Value.iface 23 (.int .i64 n)

theorem three_cells (w : World) (A B C : Array Value) (t u v : TypeId) (i : Nat) :
    (((w.alloc (.cells A t)).alloc (.cells B u)).alloc (.cells C v)).cell? ⟨w.heap.size, i, none⟩ = A[i]? ∧
    (((w.alloc (.cells A t)).alloc (.cells B u)).alloc (.cells C v)).cell? ⟨w.heap.size + 1, i, none⟩ = B[i]? ∧
    (((w.alloc (.cells A t)).alloc (.cells B u)).alloc (.cells C v)).cell? ⟨w.heap.size + 1 + 1, i, none⟩ = C[i]? := by
  have s1 : (w.alloc (.cells A t)).heap.size = w.heap.size + 1 := by simp
  have s2 : ((w.alloc (.cells A t)).alloc (.cells B u)).heap.size = w.heap.size + 1 + 1 := by simp
  have e0 : (((w.alloc (.cells A t)).alloc (.cells B u)).alloc (.cells C v)).heap[w.heap.size]? = some (.cells A t) := by
    rw [Below.heap_alloc _ _ _ (by omega), Below.heap_alloc _ _ _ (by omega)]
    exact Go.heap_alloc_new _ _
  have e1 : (((w.alloc (.cells A t)).alloc (.cells B u)).alloc (.cells C v)).heap[w.heap.size + 1]? = some (.cells B u) := by
    rw [Below.heap_alloc _ _ _ (by omega), ← s1]
    exact Go.heap_alloc_new _ _
  have e2 : (((w.alloc (.cells A t)).alloc (.cells B u)).alloc (.cells C v)).heap[w.heap.size + 1 + 1]? = some (.cells C v) := by
    rw [← s2]
    exact Go.heap_alloc_new _ _
  exact ⟨cell_of_row _ _ _ _ _ _ e0, cell_of_row _ _ _ _ _ _ e1, cell_of_row _ _ _ _ _ _ e2⟩

theorem bounds_at (i : Nat) (hi : i < 18) : (bounds.map (Value.int .i64)).toArray[i]? = some (.int .i64 (bounds.getD i 0)) := by
  have h : i < bounds.length := hi
  simp [List.getD, List.getElem?_eq_getElem h]
theorem errs_at (i : Nat) (hi : i < 10) : errCells.toArray[i]? = some (.iface 23 (.int .i64 ((i : Int) + 1))) := by
  have h : i = 0 ∨ i = 1 ∨ i = 2 ∨ i = 3 ∨ i = 4 ∨ i = 5 ∨ i = 6 ∨ i = 7 ∨ i = 8 ∨ i = 9 := by omega
  rcases h with rfl | rfl | rfl | rfl | rfl | rfl | rfl | rfl | rfl | rfl
  all_goals rfl

set_option maxRecDepth 100000 in
theorem names_walk (w : World) : Calls Tryd.prog 3 #[] w fun e w' => e = .returned (.bool true) ∧ Below w.heap.size w w' := by
  go_enter Tryd.func3, Tryd.ntmps3
  go_wp2
  go_loopg [4] 11 (fun k i wr => ∃ j : Nat, j ≤ 10 ∧ k = 11 - j ∧ i = .int .i64 j ∧ Below w.heap.size w wr ∧ (∀ i, i < 18 → wr.cell? ⟨w.heap.size, i, none⟩ = some (.int .i64 (bounds.getD i 0))) ∧ (∀ i, i < 18 → wr.cell? ⟨w.heap.size + 1, i, none⟩ = some (.int .i64 (bounds.getD i 0))) ∧ (∀ i, i < 10 → wr.cell? ⟨w.heap.size + 1 + 1, i, none⟩ = some (.iface 23 (.int .i64 ((i : Int) + 1)))))
  case atStart =>
    have h3 := three_cells w (bounds.map (Value.int .i64)).toArray (bounds.map (Value.int .i64)).toArray errCells.toArray 3 3 27
    exact ⟨0, by omega, rfl, rfl, (((Below.refl _ _).alloc (Nat.le_refl _) _).alloc (by simp) _).alloc (by simp; omega) _, fun i hi => (h3 i).1.trans (bounds_at i hi), fun i hi => (h3 i).2.1.trans (bounds_at i hi), fun i hi => (h3 i).2.2.trans (errs_at i hi)⟩
  case round =>
    obtain ⟨j, hj, hk, rfl, hB, k1, k2, k3⟩ := hrel
    have K1 : Hid (∀ i, i < 18 → wr.cell? ⟨w.heap.size, i, none⟩ = some (.int .i64 (bounds.getD i 0))) := k1
    have K2 : Hid (∀ i, i < 18 → wr.cell? ⟨w.heap.size + 1, i, none⟩ = some (.int .i64 (bounds.getD i 0))) := k2
    have K3 : Hid (∀ i, i < 10 → wr.cell? ⟨w.heap.size + 1 + 1, i, none⟩ = some (.iface 23 (.int .i64 ((i : Int) + 1)))) := k3
    clear k1 k2 k3
    by_cases hj10 : j < 10
    · have c3 := K3.out j hj10
      go_wp2_with (go_at_call 11; refine (same_calls _ (by omega) _).mono ?_; rintro e wx ⟨rfl, hwx⟩; have hwx := hwx.symm; subst hwx)
      go_roundg (10 - j)
      case measure => omega
      case rel => exact ⟨j + 1, by omega, by omega, by simp, hB, fun i hi => K1.out i hi, fun i hi => K2.out i hi, fun i hi => K3.out i hi⟩
    · have hS := sameNumbers_calls bounds w.heap.size (w.heap.size + 1) wr K1.out K2.out
      go_wp2_with (first | (go_at_call 12; refine hS.mono ?_; rintro e w1 ⟨rfl, hb1⟩) | (go_at_call 13; refine (error10_calls _).mono ?_; rintro e wx ⟨rfl, hwx⟩; have hwx := hwx.symm; subst hwx))
      go_ret
      exact ⟨rfl, hB.trans (hb1.mono hB.size)⟩
end Go.Proofs.YtdflokjpgbeniaaDoor
