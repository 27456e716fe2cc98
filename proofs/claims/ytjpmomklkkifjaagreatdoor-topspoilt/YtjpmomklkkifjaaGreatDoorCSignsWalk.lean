import Derived.Test.YtjpmomklkkifjaaGreatDoorCSort
import Derived.Deep.LoopGhost
import Derived.Laws.Rows
import Derived.Below
import Derived.Outline
set_option maxRecDepth 100000
set_option linter.unusedVariables false
set_option linter.unusedSimpArgs false
namespace Go.Proofs.YtjpmomklkkifjaaGreatDoor
open Go.RowKit
def tab : List (Int × Int × Int) := [(192, 65, 768), (200, 69, 768), (204, 73, 768), (210, 79, 768), (217, 85, 768), (224, 97, 768), (232, 101, 768), (236, 105, 768), (242, 111, 768), (249, 117, 768), (193, 65, 769), (201, 69, 769), (205, 73, 769), (211, 79, 769), (218, 85, 769), (221, 89, 769), (225, 97, 769), (233, 101, 769), (237, 105, 769), (243, 111, 769), (250, 117, 769), (253, 121, 769), (196, 65, 776), (203, 69, 776), (207, 73, 776), (214, 79, 776), (220, 85, 776), (228, 97, 776), (235, 101, 776), (239, 105, 776), (246, 111, 776), (252, 117, 776), (199, 67, 807), (231, 99, 807)]
def tabRow (i : Nat) : Int × Int × Int := tab.getD i (0, 0, 0)
def tabCells : Array Value := (tab.flatMap fun x => [Value.int .i32 x.1, Value.int .i32 x.2.1, Value.int .i32 x.2.2]).toArray
def HasTab (w : World) : Prop := ∃ t fr, w.heap[3]? = some (.cells tabCells t fr)
theorem idx0 (w : World) : (Instr.index 223 (.agg tabCells) (.int .i64 ((0 : Nat) : Int))).run Tryz.prog w = .ok (.agg #[.int .i32 (tabRow 0).1, .int .i32 (tabRow 0).2.1, .int .i32 (tabRow 0).2.2]) w := by kernel_rfl
theorem idx1 (w : World) : (Instr.index 223 (.agg tabCells) (.int .i64 ((1 : Nat) : Int))).run Tryz.prog w = .ok (.agg #[.int .i32 (tabRow 1).1, .int .i32 (tabRow 1).2.1, .int .i32 (tabRow 1).2.2]) w := by kernel_rfl
theorem idx2 (w : World) : (Instr.index 223 (.agg tabCells) (.int .i64 ((2 : Nat) : Int))).run Tryz.prog w = .ok (.agg #[.int .i32 (tabRow 2).1, .int .i32 (tabRow 2).2.1, .int .i32 (tabRow 2).2.2]) w := by kernel_rfl
theorem idx3 (w : World) : (Instr.index 223 (.agg tabCells) (.int .i64 ((3 : Nat) : Int))).run Tryz.prog w = .ok (.agg #[.int .i32 (tabRow 3).1, .int .i32 (tabRow 3).2.1, .int .i32 (tabRow 3).2.2]) w := by kernel_rfl
theorem idx4 (w : World) : (Instr.index 223 (.agg tabCells) (.int .i64 ((4 : Nat) : Int))).run Tryz.prog w = .ok (.agg #[.int .i32 (tabRow 4).1, .int .i32 (tabRow 4).2.1, .int .i32 (tabRow 4).2.2]) w := by kernel_rfl
theorem idx5 (w : World) : (Instr.index 223 (.agg tabCells) (.int .i64 ((5 : Nat) : Int))).run Tryz.prog w = .ok (.agg #[.int .i32 (tabRow 5).1, .int .i32 (tabRow 5).2.1, .int .i32 (tabRow 5).2.2]) w := by kernel_rfl
theorem idx6 (w : World) : (Instr.index 223 (.agg tabCells) (.int .i64 ((6 : Nat) : Int))).run Tryz.prog w = .ok (.agg #[.int .i32 (tabRow 6).1, .int .i32 (tabRow 6).2.1, .int .i32 (tabRow 6).2.2]) w := by kernel_rfl
theorem idx7 (w : World) : (Instr.index 223 (.agg tabCells) (.int .i64 ((7 : Nat) : Int))).run Tryz.prog w = .ok (.agg #[.int .i32 (tabRow 7).1, .int .i32 (tabRow 7).2.1, .int .i32 (tabRow 7).2.2]) w := by kernel_rfl
theorem idx8 (w : World) : (Instr.index 223 (.agg tabCells) (.int .i64 ((8 : Nat) : Int))).run Tryz.prog w = .ok (.agg #[.int .i32 (tabRow 8).1, .int .i32 (tabRow 8).2.1, .int .i32 (tabRow 8).2.2]) w := by kernel_rfl
theorem idx9 (w : World) : (Instr.index 223 (.agg tabCells) (.int .i64 ((9 : Nat) : Int))).run Tryz.prog w = .ok (.agg #[.int .i32 (tabRow 9).1, .int .i32 (tabRow 9).2.1, .int .i32 (tabRow 9).2.2]) w := by kernel_rfl
theorem idx10 (w : World) : (Instr.index 223 (.agg tabCells) (.int .i64 ((10 : Nat) : Int))).run Tryz.prog w = .ok (.agg #[.int .i32 (tabRow 10).1, .int .i32 (tabRow 10).2.1, .int .i32 (tabRow 10).2.2]) w := by kernel_rfl
theorem idx11 (w : World) : (Instr.index 223 (.agg tabCells) (.int .i64 ((11 : Nat) : Int))).run Tryz.prog w = .ok (.agg #[.int .i32 (tabRow 11).1, .int .i32 (tabRow 11).2.1, .int .i32 (tabRow 11).2.2]) w := by kernel_rfl
theorem idx12 (w : World) : (Instr.index 223 (.agg tabCells) (.int .i64 ((12 : Nat) : Int))).run Tryz.prog w = .ok (.agg #[.int .i32 (tabRow 12).1, .int .i32 (tabRow 12).2.1, .int .i32 (tabRow 12).2.2]) w := by kernel_rfl
theorem idx13 (w : World) : (Instr.index 223 (.agg tabCells) (.int .i64 ((13 : Nat) : Int))).run Tryz.prog w = .ok (.agg #[.int .i32 (tabRow 13).1, .int .i32 (tabRow 13).2.1, .int .i32 (tabRow 13).2.2]) w := by kernel_rfl
theorem idx14 (w : World) : (Instr.index 223 (.agg tabCells) (.int .i64 ((14 : Nat) : Int))).run Tryz.prog w = .ok (.agg #[.int .i32 (tabRow 14).1, .int .i32 (tabRow 14).2.1, .int .i32 (tabRow 14).2.2]) w := by kernel_rfl
theorem idx15 (w : World) : (Instr.index 223 (.agg tabCells) (.int .i64 ((15 : Nat) : Int))).run Tryz.prog w = .ok (.agg #[.int .i32 (tabRow 15).1, .int .i32 (tabRow 15).2.1, .int .i32 (tabRow 15).2.2]) w := by kernel_rfl
theorem idx16 (w : World) : (Instr.index 223 (.agg tabCells) (.int .i64 ((16 : Nat) : Int))).run Tryz.prog w = .ok (.agg #[.int .i32 (tabRow 16).1, .int .i32 (tabRow 16).2.1, .int .i32 (tabRow 16).2.2]) w := by kernel_rfl
theorem idx17 (w : World) : (Instr.index 223 (.agg tabCells) (.int .i64 ((17 : Nat) : Int))).run Tryz.prog w = .ok (.agg #[.int .i32 (tabRow 17).1, .int .i32 (tabRow 17).2.1, .int .i32 (tabRow 17).2.2]) w := by kernel_rfl
theorem idx18 (w : World) : (Instr.index 223 (.agg tabCells) (.int .i64 ((18 : Nat) : Int))).run Tryz.prog w = .ok (.agg #[.int .i32 (tabRow 18).1, .int .i32 (tabRow 18).2.1, .int .i32 (tabRow 18).2.2]) w := by kernel_rfl
theorem idx19 (w : World) : (Instr.index 223 (.agg tabCells) (.int .i64 ((19 : Nat) : Int))).run Tryz.prog w = .ok (.agg #[.int .i32 (tabRow 19).1, .int .i32 (tabRow 19).2.1, .int .i32 (tabRow 19).2.2]) w := by kernel_rfl
theorem idx20 (w : World) : (Instr.index 223 (.agg tabCells) (.int .i64 ((20 : Nat) : Int))).run Tryz.prog w = .ok (.agg #[.int .i32 (tabRow 20).1, .int .i32 (tabRow 20).2.1, .int .i32 (tabRow 20).2.2]) w := by kernel_rfl
theorem idx21 (w : World) : (Instr.index 223 (.agg tabCells) (.int .i64 ((21 : Nat) : Int))).run Tryz.prog w = .ok (.agg #[.int .i32 (tabRow 21).1, .int .i32 (tabRow 21).2.1, .int .i32 (tabRow 21).2.2]) w := by kernel_rfl
theorem idx22 (w : World) : (Instr.index 223 (.agg tabCells) (.int .i64 ((22 : Nat) : Int))).run Tryz.prog w = .ok (.agg #[.int .i32 (tabRow 22).1, .int .i32 (tabRow 22).2.1, .int .i32 (tabRow 22).2.2]) w := by kernel_rfl
theorem idx23 (w : World) : (Instr.index 223 (.agg tabCells) (.int .i64 ((23 : Nat) : Int))).run Tryz.prog w = .ok (.agg #[.int .i32 (tabRow 23).1, .int .i32 (tabRow 23).2.1, .int .i32 (tabRow 23).2.2]) w := by kernel_rfl
theorem idx24 (w : World) : (Instr.index 223 (.agg tabCells) (.int .i64 ((24 : Nat) : Int))).run Tryz.prog w = .ok (.agg #[.int .i32 (tabRow 24).1, .int .i32 (tabRow 24).2.1, .int .i32 (tabRow 24).2.2]) w := by kernel_rfl
theorem idx25 (w : World) : (Instr.index 223 (.agg tabCells) (.int .i64 ((25 : Nat) : Int))).run Tryz.prog w = .ok (.agg #[.int .i32 (tabRow 25).1, .int .i32 (tabRow 25).2.1, .int .i32 (tabRow 25).2.2]) w := by kernel_rfl
theorem idx26 (w : World) : (Instr.index 223 (.agg tabCells) (.int .i64 ((26 : Nat) : Int))).run Tryz.prog w = .ok (.agg #[.int .i32 (tabRow 26).1, .int .i32 (tabRow 26).2.1, .int .i32 (tabRow 26).2.2]) w := by kernel_rfl
theorem idx27 (w : World) : (Instr.index 223 (.agg tabCells) (.int .i64 ((27 : Nat) : Int))).run Tryz.prog w = .ok (.agg #[.int .i32 (tabRow 27).1, .int .i32 (tabRow 27).2.1, .int .i32 (tabRow 27).2.2]) w := by kernel_rfl
theorem idx28 (w : World) : (Instr.index 223 (.agg tabCells) (.int .i64 ((28 : Nat) : Int))).run Tryz.prog w = .ok (.agg #[.int .i32 (tabRow 28).1, .int .i32 (tabRow 28).2.1, .int .i32 (tabRow 28).2.2]) w := by kernel_rfl
theorem idx29 (w : World) : (Instr.index 223 (.agg tabCells) (.int .i64 ((29 : Nat) : Int))).run Tryz.prog w = .ok (.agg #[.int .i32 (tabRow 29).1, .int .i32 (tabRow 29).2.1, .int .i32 (tabRow 29).2.2]) w := by kernel_rfl
theorem idx30 (w : World) : (Instr.index 223 (.agg tabCells) (.int .i64 ((30 : Nat) : Int))).run Tryz.prog w = .ok (.agg #[.int .i32 (tabRow 30).1, .int .i32 (tabRow 30).2.1, .int .i32 (tabRow 30).2.2]) w := by kernel_rfl
theorem idx31 (w : World) : (Instr.index 223 (.agg tabCells) (.int .i64 ((31 : Nat) : Int))).run Tryz.prog w = .ok (.agg #[.int .i32 (tabRow 31).1, .int .i32 (tabRow 31).2.1, .int .i32 (tabRow 31).2.2]) w := by kernel_rfl
theorem idx32 (w : World) : (Instr.index 223 (.agg tabCells) (.int .i64 ((32 : Nat) : Int))).run Tryz.prog w = .ok (.agg #[.int .i32 (tabRow 32).1, .int .i32 (tabRow 32).2.1, .int .i32 (tabRow 32).2.2]) w := by kernel_rfl
theorem idx33 (w : World) : (Instr.index 223 (.agg tabCells) (.int .i64 ((33 : Nat) : Int))).run Tryz.prog w = .ok (.agg #[.int .i32 (tabRow 33).1, .int .i32 (tabRow 33).2.1, .int .i32 (tabRow 33).2.2]) w := by kernel_rfl
theorem idx_run (i : Nat) (hi : i < 34) (w : World) : (Instr.index 223 (.agg tabCells) (.int .i64 i)).run Tryz.prog w = .ok (.agg #[.int .i32 (tabRow i).1, .int .i32 (tabRow i).2.1, .int .i32 (tabRow i).2.2]) w := by
  have h : i = 0 ∨ i = 1 ∨ i = 2 ∨ i = 3 ∨ i = 4 ∨ i = 5 ∨ i = 6 ∨ i = 7 ∨ i = 8 ∨ i = 9 ∨ i = 10 ∨ i = 11 ∨ i = 12 ∨ i = 13 ∨ i = 14 ∨ i = 15 ∨ i = 16 ∨ i = 17 ∨ i = 18 ∨ i = 19 ∨ i = 20 ∨ i = 21 ∨ i = 22 ∨ i = 23 ∨ i = 24 ∨ i = 25 ∨ i = 26 ∨ i = 27 ∨ i = 28 ∨ i = 29 ∨ i = 30 ∨ i = 31 ∨ i = 32 ∨ i = 33 := by omega
  rcases h with rfl | rfl | rfl | rfl | rfl | rfl | rfl | rfl | rfl | rfl | rfl | rfl | rfl | rfl | rfl | rfl | rfl | rfl | rfl | rfl | rfl | rfl | rfl | rfl | rfl | rfl | rfl | rfl | rfl | rfl | rfl | rfl | rfl | rfl
  · exact idx0 w
  · exact idx1 w
  · exact idx2 w
  · exact idx3 w
  · exact idx4 w
  · exact idx5 w
  · exact idx6 w
  · exact idx7 w
  · exact idx8 w
  · exact idx9 w
  · exact idx10 w
  · exact idx11 w
  · exact idx12 w
  · exact idx13 w
  · exact idx14 w
  · exact idx15 w
  · exact idx16 w
  · exact idx17 w
  · exact idx18 w
  · exact idx19 w
  · exact idx20 w
  · exact idx21 w
  · exact idx22 w
  · exact idx23 w
  · exact idx24 w
  · exact idx25 w
  · exact idx26 w
  · exact idx27 w
  · exact idx28 w
  · exact idx29 w
  · exact idx30 w
  · exact idx31 w
  · exact idx32 w
  · exact idx33 w
def wholeX (r : Int) : Int × Int × Int := (tab.find? (fun x => x.1 == r)).getD (0, 0, 0)
def wholeB (r : Int) : Bool := (tab.find? (fun x => x.1 == r)).isSome
theorem find_hit (r : Int) : ∀ (l : List (Int × Int × Int)) (j : Nat), j < l.length → (∀ m, m < j → (l.getD m (0, 0, 0)).1 ≠ r) → (l.getD j (0, 0, 0)).1 = r → l.find? (fun x => x.1 == r) = some (l.getD j (0, 0, 0))
  | [], j, hj, _, _ => by simp at hj
  | x :: l, 0, _, _, e => by
    have : (x.1 == r) = true := by simpa using e
    simp [List.find?, this]
  | x :: l, j + 1, hj, h, e => by
    have h0 : (x.1 == r) = false := by simpa using h 0 (by omega)
    have := find_hit r l j (by simpa using hj) (fun m hm => by simpa using h (m + 1) (by omega)) (by simpa using e)
    simp only [List.find?, h0]
    simpa using this
theorem find_miss (r : Int) : ∀ (l : List (Int × Int × Int)), (∀ m, m < l.length → (l.getD m (0, 0, 0)).1 ≠ r) → l.find? (fun x => x.1 == r) = none
  | [], _ => rfl
  | x :: l, h => by
    have h0 : (x.1 == r) = false := by simpa using h 0 (by simp)
    have := find_miss r l (fun m hm => by simpa using h (m + 1) (by simpa using hm))
    simp only [List.find?, h0]
    exact this
theorem whole_hit (r : Int) (j : Nat) (hj : j < 34) (h : ∀ m, m < j → (tabRow m).1 ≠ r) (e : (tabRow j).1 = r) : wholeX r = tabRow j ∧ wholeB r = true := by
  have := find_hit r tab j (by simpa [tab] using hj) h e
  unfold wholeX wholeB
  rw [this]
  exact ⟨rfl, rfl⟩
theorem whole_miss (r : Int) (h : ∀ m, m < 34 → (tabRow m).1 ≠ r) : wholeX r = (0, 0, 0) ∧ wholeB r = false := by
  have := find_miss r tab (fun m hm => h m (by simpa [tab] using hm))
  unfold wholeX wholeB
  rw [this]
  exact ⟨rfl, rfl⟩
set_option maxRecDepth 100000 in
theorem wholeOf_calls (r : Int) (w : World) (hT : HasTab w) :
    Calls Tryz.prog 133 #[.int .i32 r] w fun e w' => e = .returned (.tuple #[.agg #[.int .i32 (wholeX r).1, .int .i32 (wholeX r).2.1, .int .i32 (wholeX r).2.2], .bool (wholeB r)]) ∧ Below w.heap.size w w' := by
  obtain ⟨t, fr, hT⟩ := hT
  have hlt : 3 < w.heap.size := by
    rcases Nat.lt_or_ge 3 w.heap.size with h | h
    · exact h
    · rw [Array.getElem?_eq_none h] at hT; cases hT
  have hT1 : ∀ o, (w.alloc o).heap[3]? = some (.cells tabCells t fr) := fun o => by
    show (w.heap.push o)[3]? = _
    rw [Array.getElem?_push, if_neg (by omega), hT]
  go_enter Tryz.func133, Tryz.ntmps133
  go_wp2_with (refine wpList_load_row rfl 223 _ rfl 3 rfl t _ fr _ (hT1 _) Tryz.underlying223 rfl (by kernel_rfl) ?_)
  clear hT1
  go_loopg [7] 35 (fun k i wr => ∃ j : Nat, j ≤ 34 ∧ k = 35 - j ∧ i = .int .i64 j ∧ Hid (∀ m, m < j → (tabRow m).1 ≠ r) ∧ Below w.heap.size w wr ∧ w.heap.size < wr.heap.size ∧ wr.heap[w.heap.size]? = some (.cells #[.int .i32 0, .int .i32 0, .int .i32 0] 192))
  case atStart => exact ⟨0, by omega, rfl, rfl, (fun m hm => absurd hm (Nat.not_lt_zero m)), Below.alloc (Below.refl _ _) (Nat.le_refl _) _, by simp, heap_alloc_new _ _⟩
  case round =>
    obtain ⟨j, hj, hk, rfl, H, hB, hsz, hres⟩ := hrel
    have c0 : wr.cell? ⟨w.heap.size, 0, none⟩ = some (.int .i32 0) := by rw [cell_of_row _ _ _ _ _ _ hres]; rfl
    have c1 : wr.cell? ⟨w.heap.size, 1, none⟩ = some (.int .i32 0) := by rw [cell_of_row _ _ _ _ _ _ hres]; rfl
    have c2 : wr.cell? ⟨w.heap.size, 2, none⟩ = some (.int .i32 0) := by rw [cell_of_row _ _ _ _ _ _ hres]; rfl
    have f0 : wr.frozen? ⟨w.heap.size, 0, none⟩ = false := frozen_of_row _ _ _ _ _ hres
    have f1 : wr.frozen? ⟨w.heap.size, 1, none⟩ = false := frozen_of_row _ _ _ _ _ hres
    have f2 : wr.frozen? ⟨w.heap.size, 2, none⟩ = false := frozen_of_row _ _ _ _ _ hres
    have Hres : Hid (wr.heap[w.heap.size]? = some (.cells #[.int .i32 0, .int .i32 0, .int .i32 0] 192)) := hres
    clear hres
    by_cases hj34 : j < 34
    · have hidx := fun wx => idx_run j hj34 wx
      obtain ⟨row, Hrow⟩ : ∃ row, Hid (tabRow j = row) := ⟨_, rfl⟩
      rw [Hrow.out] at hidx
      obtain ⟨sg, le, ma⟩ := row
      by_cases he : sg = r
      · have he' : (sg == r) = true := by simp [he]
        have fin : wholeX r = (sg, le, ma) ∧ wholeB r = true := by
          have h1 := whole_hit r j hj34 H.out (by rw [Hrow.out]; exact he)
          rw [Hrow.out] at h1
          exact h1
        have Hfin : Hid (wholeX r = (sg, le, ma) ∧ wholeB r = true) := fin
        clear fin
        go_wp2
        refine bodyPost_ret (v := .tuple #[.agg #[.int .i32 r, .int .i32 le, .int .i32 ma], .bool true]) (by simp [results, Tryz.results133, go_sem, c0, c1, c2, hsz]) rfl ?_
        rw [Hfin.out.1, Hfin.out.2]
        exact ⟨by rw [he], (((hB.setCell (Nat.le_refl _) _).setCell (Nat.le_refl _) _).setCell (Nat.le_refl _) _).alloc (by simp; omega) _⟩
      · have he' : (sg == r) = false := by simp [he]
        go_wp2
        go_roundg (34 - j)
        case measure => omega
        case rel =>
          refine ⟨j + 1, by omega, by omega, by simp, ?_, hB.alloc (by omega) _, by simp; omega, ?_⟩
          · intro m hm
            rcases Nat.lt_or_ge m j with h | h
            · exact H.out m h
            · obtain rfl : m = j := by omega
              rw [Hrow.out]
              exact he
          · rw [Below.heap_alloc _ _ _ hsz]
            exact Hres.out
    · have Hfin : Hid (wholeX r = (0, 0, 0) ∧ wholeB r = false) := whole_miss r fun m hm => H.out m (by omega)
      go_wp2
      refine bodyPost_ret (v := .tuple #[.agg #[.int .i32 0, .int .i32 0, .int .i32 0], .bool false]) (by simp [results, Tryz.results133, go_sem, c0, c1, c2]) rfl ?_
      rw [Hfin.out.1, Hfin.out.2]
      exact ⟨rfl, ((hB.setCell (Nat.le_refl _) _).setCell (Nat.le_refl _) _).setCell (Nat.le_refl _) _⟩
end Go.Proofs.YtjpmomklkkifjaaGreatDoor
namespace Go.Proofs.YtjpmomklkkifjaaGreatDoor
open Go.RowKit
theorem HasTab.later {w w' : World} (h : HasTab w) {B : Nat} (hb : Below B w w') (hB : 4 ≤ B) : HasTab w' := by
  obtain ⟨t, fr, h⟩ := h
  exact ⟨t, fr, (hb.block 3 (by omega)).trans h⟩
theorem HasTab.size {w : World} (h : HasTab w) : 4 ≤ w.heap.size := by
  obtain ⟨t, fr, hT⟩ := h
  rcases Nat.lt_or_ge 3 w.heap.size with h | h
  · exact h
  · rw [Array.getElem?_eq_none h] at hT; cases hT
def splitZ (r : Int) : List Int := if wholeB r then [(wholeX r).2.1, (wholeX r).2.2] else [r]
set_option maxRecDepth 100000 in
theorem split_calls (r : Int) (w : World) (hT : HasTab w) :
    Calls Tryz.prog 92 #[.int .i32 r] w fun e w' => ∃ b, e = .returned (.slice (some ⟨b, 0, none⟩) (splitZ r).length (splitZ r).length) ∧ Below w.heap.size w w' ∧ w.heap.size ≤ b ∧ b < w'.heap.size ∧ w'.heap[b]? = some (.cells ((splitZ r).map (Value.int .i32)).toArray 21) := by
  have hw := wholeOf_calls r w hT
  unfold splitZ
  generalize wholeX r = x at hw ⊢
  obtain ⟨sg, le, ma⟩ := x
  generalize wholeB r = bb at hw ⊢
  cases bb
  · go_enter Tryz.func92, Tryz.ntmps92
    go_wp2_with (go_at_call 133; refine hw.mono ?_; rintro e w1 ⟨rfl, hb1⟩)
    go_ret
    have hs := hb1.size
    exact ⟨w1.heap.size + 1, rfl, (hb1.alloc hs _).alloc (by simp; omega) _, by omega, by simp, heap_alloc2_new _ _ _⟩
  · go_enter Tryz.func92, Tryz.ntmps92
    go_wp2_with (go_at_call 133; refine hw.mono ?_; rintro e w1 ⟨rfl, hb1⟩)
    go_ret
    have hs := hb1.size
    exact ⟨w1.heap.size + 1, rfl, (hb1.alloc hs _).alloc (by simp; omega) _, by omega, by simp, heap_alloc2_new _ _ _⟩
def isZ (r : Int) : Bool := wholeB r || baseZ r || classZ r != 0
set_option maxRecDepth 100000 in
theorem is_calls (r : Int) (w : World) (hT : HasTab w) :
    Calls Tryz.prog 89 #[.int .i32 r] w fun e w' => e = .returned (.bool (isZ r)) ∧ Below w.heap.size w w' := by
  have hw := wholeOf_calls r w hT
  have hb := fun wx => base_calls r wx
  have hc := fun wx => class_calls r wx
  unfold isZ
  generalize wholeX r = x at hw ⊢
  obtain ⟨sg, le, ma⟩ := x
  generalize wholeB r = bb at hw ⊢
  generalize baseZ r = bz at hb ⊢
  generalize classZ r = cz at hc ⊢
  cases bb
  · cases bz
    · go_enter Tryz.func89, Tryz.ntmps89
      go_wp2_with (first | (go_at_call 133; refine hw.mono ?_; rintro e w1 ⟨rfl, hb1⟩) | (go_at_call 134; refine (hb _).mono ?_; rintro e w2 ⟨rfl, rfl⟩) | (go_at_call 91; refine (hc _).mono ?_; rintro e w3 ⟨rfl, rfl⟩))
      all_goals go_ret
      all_goals exact ⟨by simp, hb1.alloc hb1.size _⟩
    · go_enter Tryz.func89, Tryz.ntmps89
      go_wp2_with (first | (go_at_call 133; refine hw.mono ?_; rintro e w1 ⟨rfl, hb1⟩) | (go_at_call 134; refine (hb _).mono ?_; rintro e w2 ⟨rfl, rfl⟩) | (go_at_call 91; refine (hc _).mono ?_; rintro e w3 ⟨rfl, rfl⟩))
      all_goals go_ret
      all_goals exact ⟨by simp, hb1.alloc hb1.size _⟩
  · go_enter Tryz.func89, Tryz.ntmps89
    go_wp2_with (first | (go_at_call 133; refine hw.mono ?_; rintro e w1 ⟨rfl, hb1⟩) | (go_at_call 134; refine (hb _).mono ?_; rintro e w2 ⟨rfl, rfl⟩) | (go_at_call 91; refine (hc _).mono ?_; rintro e w3 ⟨rfl, rfl⟩))
    all_goals go_ret
    all_goals exact ⟨by simp, hb1.alloc hb1.size _⟩
end Go.Proofs.YtjpmomklkkifjaaGreatDoor
namespace Go.Proofs.YtjpmomklkkifjaaGreatDoor
open Go.RowKit
theorem tab_facts : ∀ x ∈ tab, baseZ x.1 = false ∧ classZ x.1 = 0 ∧ baseZ x.2.1 = true ∧ 0 < classZ x.2.2 ∧ foldZ x.1 = x.1 ∧ (-2147483648 ≤ x.2.1 ∧ x.2.1 ≤ 2147483647) ∧ (-2147483648 ≤ x.2.2 ∧ x.2.2 ≤ 2147483647) := by decide +kernel
theorem whole_mem (r : Int) (h : wholeB r = true) : wholeX r ∈ tab ∧ (wholeX r).1 = r := by
  unfold wholeB at h
  unfold wholeX
  obtain ⟨x, hx⟩ := Option.isSome_iff_exists.1 h
  rw [hx]
  exact ⟨List.mem_of_find?_eq_some hx, by simpa using List.find?_some hx⟩
theorem base_class (r : Int) (h : baseZ r = true) : classZ r = 0 := by
  unfold baseZ at h
  have h := of_decide_eq_true h
  unfold classZ
  rw [if_neg (by omega), if_neg (by omega)]
theorem fold_range (r : Int) (h0 : -2147483648 ≤ r) (h1 : r ≤ 2147483647) : -2147483648 ≤ foldZ r ∧ foldZ r ≤ 2147483647 := by
  unfold foldZ
  split
  · omega
  · split <;> omega
theorem class_vals (r : Int) : classZ r = 0 ∨ classZ r = 202 ∨ classZ r = 230 := by
  unfold classZ
  split
  · omega
  · split <;> omega
end Go.Proofs.YtjpmomklkkifjaaGreatDoor
