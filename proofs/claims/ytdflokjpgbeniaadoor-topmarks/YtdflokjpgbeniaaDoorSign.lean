/-
  The contracts of package sign's functions, over the seat's program: within, Class, Base, Fold; no Go text is changed.
-/
import Derived.Test.YtdflokjpgbeniaaDoorProg
import Derived.WalkKit
import Derived.WalkLawsBesides
import Derived.WalkSpells
namespace Go.Proofs.YtdflokjpgbeniaaDoor
open Go.RowKit
set_option linter.unusedVariables false

/-- What sign.Class answers. -/
def classZ (r : Int) : Int := if r = 768 ∨ r = 769 ∨ r = 776 then 230 else if r = 807 then 202 else 0
/-- What sign.Base answers. -/
def baseZ (r : Int) : Bool := decide (r = 32 ∨ r = 45 ∨ r = 46 ∨ r = 95 ∨ r = 963 ∨ r = 962 ∨ r = 931 ∨ (97 ≤ r ∧ r ≤ 122) ∨ (65 ≤ r ∧ r ≤ 90) ∨ (48 ≤ r ∧ r ≤ 57))
/-- What sign.Fold answers. -/
def foldZ (r : Int) : Int := if 65 ≤ r ∧ r ≤ 90 then r + 32 else if r = 962 ∨ r = 931 then 963 else r

theorem within_calls (r a b : Int) (w : World) :
    Calls Tryd.prog 30 #[.int .i32 r, .int .i32 a, .int .i32 b] w fun e w' => e = .returned (.bool (decide (a ≤ r ∧ r ≤ b))) ∧ w' = w := by
  by_cases h1 : a ≤ r
  · by_cases h2 : r ≤ b
    · go_enter Tryd.func30, Tryd.ntmps30
      go_wp2
      go_ret
      refine ⟨?_, rfl⟩
      first | (simp; done) | (simp; omega)
    · go_enter Tryd.func30, Tryd.ntmps30
      go_wp2
      go_ret
      refine ⟨?_, rfl⟩
      first | (simp; done) | (simp; omega)
  · go_enter Tryd.func30, Tryd.ntmps30
    go_wp2
    go_ret
    refine ⟨?_, rfl⟩
    first | (simp; done) | (simp; omega)

theorem class_calls (r : Int) (w : World) :
    Calls Tryd.prog 15 #[.int .i32 r] w fun e w' => e = .returned (.int .i64 (classZ r)) ∧ w' = w := by
  go_enter Tryd.func15, Tryd.ntmps15
  go_wp2
  all_goals go_ret
  all_goals refine ⟨?_, rfl⟩
  all_goals (simp_all [classZ])

theorem base_calls (r : Int) (w : World) :
    Calls Tryd.prog 14 #[.int .i32 r] w fun e w' => e = .returned (.bool (baseZ r)) ∧ w' = w := by
  go_enter Tryd.func14, Tryd.ntmps14
  go_wp2_with (go_at_call 30; refine (within_calls _ _ _ _).mono ?_; rintro e w1 ⟨rfl, rfl⟩)
  all_goals go_ret
  all_goals refine ⟨?_, rfl⟩
  all_goals (simp_all [baseZ, Bool.or_assoc])

theorem fold_calls (r : Int) (w : World) (h0 : -2147483648 ≤ r) (h1 : r ≤ 2147483647) :
    Calls Tryd.prog 18 #[.int .i32 r] w fun e w' => e = .returned (.int .i32 (foldZ r)) ∧ w' = w := by
  go_enter Tryd.func18, Tryd.ntmps18
  go_wp2_with (go_at_call 30; refine (within_calls _ _ _ _).mono ?_; rintro e w1 ⟨rfl, rfl⟩)
  all_goals go_ret
  all_goals refine ⟨?_, rfl⟩
  all_goals (try simp_all [foldZ])
  all_goals omega
end Go.Proofs.YtdflokjpgbeniaaDoor
