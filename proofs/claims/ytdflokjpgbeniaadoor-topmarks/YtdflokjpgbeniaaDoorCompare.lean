/-
  The contract of key.Compare, over the seat's program.
-/
import Derived.Test.YtdflokjpgbeniaaDoorOrder
namespace Go.Proofs.YtdflokjpgbeniaaDoor
open Go.RowKit

/-- What key.Of needs of a text; a name has it, and texts made of one. -/
structure Keyed (rs : List Int) : Prop where
  small : ∀ r ∈ rs, SmallR r
  short : rs.length ≤ 400
  few : marks (partsL rs) < 20
  elem : ∀ r ∈ repl (foldL rs), Elem r
  ne : (runK (repl (foldL rs))).1 ≠ []
theorem Name.keyed {rs : List Int} (h : Name rs) : Keyed rs := ⟨h.small, by have := h.short; omega, h.marks, h.elem, h.key_ne⟩

/-- The key of a text. -/
def keyOf (rs : List Int) : ByteArray := keyB (repl (foldL rs))
/-- How two compare. -/
def cmpK (a b : List Int) : Int := Lib.compareBytes (keyOf a).data.toList (keyOf b).data.toList

theorem keyOf_calls (rs : List Int) (w : World) (hR : Ready w) (h : Keyed rs) :
    Calls Tryd.prog 23 #[.string (encS rs)] w fun e w' => e = .returned (.string (keyOf rs)) ∧ Below w.heap.size w w' :=
  of_calls rs w hR h.small h.short h.few h.elem h.ne

theorem compare_calls (a b : List Int) (w : World) (hR : Ready w) (ha : Keyed a) (hb : Keyed b) :
    Calls Tryd.prog 26 #[.string (encS a), .string (encS b)] w fun e w' => e = .returned (.int .i64 (cmpK a b)) ∧ Below w.heap.size w w' := by
  have h1 := keyOf_calls a w hR ha
  have h2 := fun wx (hx : Ready wx) => keyOf_calls b wx hx hb
  have h3 := fun wx => Tryd.strings_Compare (keyOf a) (keyOf b) wx
  unfold cmpK
  generalize Lib.compareBytes (keyOf a).data.toList (keyOf b).data.toList = c at *
  generalize keyOf a = ka at *
  generalize keyOf b = kb at *
  go_enter Tryd.func26, Tryd.ntmps26
  go_wp2_with fail
  refine h1.mono ?_
  rintro e w1 ⟨rfl, hb1⟩
  have hR1 := hR.later hb1
  go_wp2_with fail
  refine (h2 w1 hR1).mono ?_
  rintro e w2 ⟨rfl, hb2⟩
  go_wp2_with fail
  refine (h3 w2).mono ?_
  rintro e wx ⟨rfl, hwx⟩
  have hwx := hwx.symm
  subst hwx
  go_wp2
  go_ret
  exact ⟨rfl, hb1.trans (hb2.mono hb1.size)⟩
end Go.Proofs.YtdflokjpgbeniaaDoor
