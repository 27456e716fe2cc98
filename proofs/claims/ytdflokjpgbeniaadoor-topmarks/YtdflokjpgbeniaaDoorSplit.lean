/-
  The contracts of sign.Split and sign.Is, over the seat's program.
-/
import Derived.Test.YtdflokjpgbeniaaDoorWhole
namespace Go.Proofs.YtdflokjpgbeniaaDoor
open Go.RowKit

/-- The table stands in every later world. -/
theorem HasTab.later {w w' : World} (h : HasTab w) {B : Nat} (hb : Below B w w') (hB : 3 ≤ B) : HasTab w' := by
  obtain ⟨t, fr, h⟩ := h
  exact ⟨t, fr, (hb.block 2 (by omega)).trans h⟩
theorem HasTab.size {w : World} (h : HasTab w) : 3 ≤ w.heap.size := by
  obtain ⟨t, fr, hT⟩ := h
  rcases Nat.lt_or_ge 2 w.heap.size with h | h
  · exact h
  · rw [Array.getElem?_eq_none h] at hT; cases hT

/-- What sign.Split answers. -/
def splitZ (r : Int) : List Int := if wholeB r then [(wholeX r).2.1, (wholeX r).2.2] else [r]

set_option maxRecDepth 100000 in
theorem split_calls (r : Int) (w : World) (hT : HasTab w) :
    Calls Tryd.prog 16 #[.int .i32 r] w fun e w' => ∃ b, e = .returned (.slice (some ⟨b, 0, none⟩) (splitZ r).length (splitZ r).length) ∧ Below w.heap.size w w' ∧ w.heap.size ≤ b ∧ b < w'.heap.size ∧ w'.heap[b]? = some (.cells ((splitZ r).map (Value.int .i32)).toArray 21) := by
  have hw := wholeOf_calls r w hT
  unfold splitZ
  generalize wholeX r = x at hw ⊢
  obtain ⟨sg, le, ma⟩ := x
  generalize wholeB r = bb at hw ⊢
  cases bb
  · go_enter Tryd.func16, Tryd.ntmps16
    go_wp2_with (go_at_call 31; refine hw.mono ?_; rintro e w1 ⟨rfl, hb1⟩)
    go_ret
    have hs := hb1.size
    exact ⟨w1.heap.size + 1, rfl, (hb1.alloc hs _).alloc (by simp; omega) _, by omega, by simp, heap_alloc2_new _ _ _⟩
  · go_enter Tryd.func16, Tryd.ntmps16
    go_wp2_with (go_at_call 31; refine hw.mono ?_; rintro e w1 ⟨rfl, hb1⟩)
    go_ret
    have hs := hb1.size
    exact ⟨w1.heap.size + 1, rfl, (hb1.alloc hs _).alloc (by simp; omega) _, by omega, by simp, heap_alloc2_new _ _ _⟩

/-- What sign.Is answers. -/
def isZ (r : Int) : Bool := wholeB r || baseZ r || classZ r != 0

set_option maxRecDepth 100000 in
theorem is_calls (r : Int) (w : World) (hT : HasTab w) :
    Calls Tryd.prog 17 #[.int .i32 r] w fun e w' => e = .returned (.bool (isZ r)) ∧ Below w.heap.size w w' := by
  have hw := wholeOf_calls r w hT
  have hb := fun wx => base_calls r wx
  have hc := fun wx => class_calls r wx
  unfold isZ
  generalize wholeX r = x at hw ⊢
  obtain ⟨sg, le, ma⟩ := x
  generalize wholeB r = bb at hw ⊢
  generalize baseZ r = bz at hb ⊢
  generalize classZ r = cz at hc ⊢
  cases bb
  · cases bz
    · go_enter Tryd.func17, Tryd.ntmps17
      go_wp2_with (first | (go_at_call 31; refine hw.mono ?_; rintro e w1 ⟨rfl, hb1⟩) | (go_at_call 14; refine (hb _).mono ?_; rintro e w2 ⟨rfl, rfl⟩) | (go_at_call 15; refine (hc _).mono ?_; rintro e w3 ⟨rfl, rfl⟩))
      all_goals go_ret
      all_goals exact ⟨by simp, hb1.alloc hb1.size _⟩
    · go_enter Tryd.func17, Tryd.ntmps17
      go_wp2_with (first | (go_at_call 31; refine hw.mono ?_; rintro e w1 ⟨rfl, hb1⟩) | (go_at_call 14; refine (hb _).mono ?_; rintro e w2 ⟨rfl, rfl⟩) | (go_at_call 15; refine (hc _).mono ?_; rintro e w3 ⟨rfl, rfl⟩))
      all_goals go_ret
      all_goals exact ⟨by simp, hb1.alloc hb1.size _⟩
  · go_enter Tryd.func17, Tryd.ntmps17
    go_wp2_with (first | (go_at_call 31; refine hw.mono ?_; rintro e w1 ⟨rfl, hb1⟩) | (go_at_call 14; refine (hb _).mono ?_; rintro e w2 ⟨rfl, rfl⟩) | (go_at_call 15; refine (hc _).mono ?_; rintro e w3 ⟨rfl, rfl⟩))
    all_goals go_ret
    all_goals exact ⟨by simp, hb1.alloc hb1.size _⟩
end Go.Proofs.YtdflokjpgbeniaaDoor
