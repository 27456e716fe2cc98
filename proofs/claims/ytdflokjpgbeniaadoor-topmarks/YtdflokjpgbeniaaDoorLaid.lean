/-
  What the rows' list of variables says: the world is ready; and a world that has what the list says.
-/
import Derived.Test.YtdflokjpgbeniaaDoorTab
import Derived.Test.YtdflokjpgbeniaaDoorFold
import Derived.Test.YtdflokjpgbeniaaDoorValid
import Derived.Lib.LaidU8T
import Derived.MakeChecks
import Derived.LaidLaws
namespace Go.Proofs.YtdflokjpgbeniaaDoor
open Go.ChangeShapes Go.WideShapes Go.ChangeAt Go.RowKit

theorem laidKnob : ownKnob Tryd.prog.godebug = none := by kernel_rfl

def laid3 : List (String × DataW Unit) := [("jobcase/sign.wholes", Rows.laid_jobcase_sign_wholes), ("unicode/utf8.acceptRanges", Rows.laid_unicode_utf8_acceptRanges), ("unicode/utf8.first", Rows.laid_unicode_utf8_first)]

theorem first_same : Rows.laid_unicode_utf8_first = Lib.firstData := by kernel_rfl
theorem accept_same : (Rows.laid_unicode_utf8_acceptRanges : DataW Unit) = Lib.acceptData := by kernel_rfl

theorem u8extra : U8Extra Tryd.prog lays196_ren := { n3 := by kernel_rfl, n4 := by kernel_rfl, y3 := by kernel_rfl, y4 := by kernel_rfl, c5 := by kernel_rfl, c119 := by kernel_rfl, c138 := by kernel_rfl }

theorem ready_of_laid {W : World} (hL : laidMetH Tryd.prog laid3 W) (hsh : W.ShapedOpen Tryd.prog) : Ready W := by
  rw [MakeChecks.laidMetH_plain _ _ _ (by kernel_rfl)] at hL
  have hT : HasTab W := hasTab_of_head hL
  obtain ⟨ps, hLV, _⟩ := hL
  have h4 := Lib.LaidVars_reads hLV "unicode/utf8.acceptRanges" Rows.laid_unicode_utf8_acceptRanges (by simp [laid3])
  have h3 := Lib.LaidVars_reads hLV "unicode/utf8.first" Rows.laid_unicode_utf8_first (by simp [laid3])
  rw [accept_same] at h4
  rw [first_same] at h3
  exact ⟨hT, utf8Tabs_of_readsT (U8Types.of196 lays196) u8extra h3 h4, cell_of_shapedOpen_int (P := Tryd.prog) (g := 3) (t := 3) (zero := #[.int .i64 0]) hsh (of_decide_eq_true (by kernel_rfl)) (by kernel_rfl) rfl (by kernel_rfl) (by kernel_rfl) Tryd.underlying3⟩

/-- The cells of a table, whatever its depth. -/
def flatCells : Nat → DataW Unit → List Value
  | 0, _ => []
  | _ + 1, .lit (.int k n) => [.int k n]
  | f + 1, .agg l => l.flatMap (flatCells f)
  | _ + 1, _ => []
/-- A table laid in its block. -/
def layCells (d : DataW Unit) : Obj → Obj
  | .cells _ t frozen => .cells (flatCells 3 d).toArray t frozen
  | o => o
/-- A world for the witness: the settled one, the three tables holding what their initialisers lay. -/
noncomputable def laidWorld (os : Os) : World :=
  { World.holding Tryd.prog os ⟨#[], #[], []⟩ with heap := (((World.holding Tryd.prog os ⟨#[], #[], []⟩).heap.modify 0 (layCells Rows.laid_unicode_utf8_first)).modify 1 (layCells Rows.laid_unicode_utf8_acceptRanges)).modify 2 (layCells Rows.laid_jobcase_sign_wholes) }
end Go.Proofs.YtdflokjpgbeniaaDoor
