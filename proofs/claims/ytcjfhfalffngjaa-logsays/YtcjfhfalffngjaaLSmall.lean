/-
  The small contracts of the log: Room, Next, number, and little.Number.
-/
import Derived.Test.YtcjfhfalffngjaaRowC
import Derived.BigQuiet
namespace Go.Proofs.Ytcjfhfalffngjaa
open Go.RowKit Go.Lib
set_option maxRecDepth 100000
set_option linter.unusedVariables false
set_option linter.unusedSimpArgs false

/-- A log in memory. -/
def logR (lb db : Nat) (from_ many first used : Nat) : Res := .cell lb 119 [.pointer (some ⟨db, 0, none⟩), .int .i64 from_, .int .i64 many, .int .i64 first, .int .i64 used]

theorem room_calls (lb : Nat) (many used : Nat) (w : World) (hu : used ≤ many) (hm : many ≤ 1000000) (q2 : w.cell? ⟨lb, 2, none⟩ = some (.int .i64 many)) (q4 : w.cell? ⟨lb, 4, none⟩ = some (.int .i64 used)) :
    Calls Try.prog 42 #[.pointer (some ⟨lb, 0, none⟩)] w fun e w' => e = .returned (.int .i64 ((many - used : Nat) : Int)) ∧ ∃ n, w' = w.drewN n := by
  have he : ((many - used : Nat) : Int) = (many : Int) - (used : Int) := by omega
  rw [he]
  go_enter Try.func42, Try.ntmps42
  go_wp2_with fail
  go_quiet (fail)
  go_wp2_with fail
  go_ret
  exact ⟨rfl, nq, rfl⟩

theorem next_calls (lb : Nat) (many first : Nat) (w : World) (hf : first ≤ 1000000) (hm : many ≤ 1000000) (q2 : w.cell? ⟨lb, 2, none⟩ = some (.int .i64 many)) (q3 : w.cell? ⟨lb, 3, none⟩ = some (.int .i64 first)) :
    Calls Try.prog 43 #[.pointer (some ⟨lb, 0, none⟩)] w fun e w' => e = .returned (.int .i64 ((first + many : Nat) : Int)) ∧ ∃ n, w' = w.drewN n := by
  have he : ((first + many : Nat) : Int) = (first : Int) + (many : Int) := by omega
  rw [he]
  go_enter Try.func43, Try.ntmps43
  go_wp2_with fail
  go_quiet (fail)
  go_wp2_with fail
  go_ret
  exact ⟨rfl, nq, rfl⟩

theorem number_calls (lb : Nat) (first i : Nat) (w : World) (hf : first ≤ 1000000) (hi : i ≤ 1000000) (q3 : w.cell? ⟨lb, 3, none⟩ = some (.int .i64 first)) :
    Calls Try.prog 80 #[.pointer (some ⟨lb, 0, none⟩), .int .i64 i] w fun e w' => e = .returned (.int .u32 ((first + i : Nat) : Int)) ∧ w' = w := by
  have he : ((first + i : Nat) : Int) = (first : Int) + (i : Int) := by omega
  have hw : IntKind.u32.wrap ((first : Int) + (i : Int)) = (first : Int) + (i : Int) := by rw [IntKind.wrap_u32]; omega
  rw [he]
  go_enter Try.func80, Try.ntmps80
  go_wp2_with fail
  go_ret
  exact ⟨rfl, rfl⟩
#print axioms room_calls
#print axioms next_calls
#print axioms number_calls
end Go.Proofs.Ytcjfhfalffngjaa
