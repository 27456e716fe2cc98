/-
  The contracts of the log's count and tell.
-/
import Derived.Test.YtcjfhfalffngjaaLSmall
import Derived.Test.YtcjfhfalffngjaaRowB
namespace Go.Proofs.Ytcjfhfalffngjaa
open Go.RowKit Go.Lib
set_option maxRecDepth 100000
set_option linter.unusedVariables false
set_option linter.unusedSimpArgs false

theorem count_calls (n : Nat) (hn : n ≤ 1000000) (w : World) :
    Calls Try.prog 81 #[.int .i64 n] w fun e w' => e = .returned (.string ⟨(leB n 4).toArray⟩) ∧ Below w.heap.size w w' := by
  have el := little_calls n 4 (by omega) (by omega) w
  have hw : IntKind.u32.wrap (n : Int) = (n : Int) := by rw [IntKind.wrap_u32]; omega
  have EL := hide el
  clear el
  go_enter Try.func81, Try.ntmps81
  go_wp2_with fail
  refine (unhide EL).mono ?_
  rintro e w1 ⟨rfl, hb⟩
  have HB := hide hb
  clear hb EL
  go_wp2_with fail
  go_ret
  exact ⟨rfl, unhide HB⟩

/-- A sector's bytes. -/
def tellP (kind : ByteArray) (n : Nat) (body : ByteArray) : ByteArray := kind ++ ⟨(leB n 4).toArray⟩ ++ ⟨(leB body.size 2).toArray⟩ ++ body
theorem tell_calls (kind : ByteArray) (hk : kind.size ≤ 1000) (n : Nat) (hn : n < 4294967296) (body : ByteArray) (hb : body.size ≤ 1000000) (w : World) :
    Calls Try.prog 82 #[.string kind, .int .u32 n, .string body] w fun e w' => e = .returned (.string (tellP kind n body)) ∧ Below w.heap.size w w' := by
  have el := little_calls n 4 hn (by omega) w
  have el2 := fun wx => little_calls body.size 2 (by omega) (by omega) wx
  have hw : IntKind.u32.wrap (body.size : Int) = (body.size : Int) := by rw [IntKind.wrap_u32]; omega
  have EL := hide el
  have EL2 := hide el2
  unfold tellP
  obtain ⟨b1, hb1⟩ : ∃ b : ByteArray, ⟨(leB n 4).toArray⟩ = b := ⟨_, rfl⟩
  obtain ⟨b2, hb2⟩ : ∃ b : ByteArray, ⟨(leB body.size 2).toArray⟩ = b := ⟨_, rfl⟩
  have z1 : b1.size = 4 := by rw [← hb1]; show (leB n 4).toArray.size = 4; rw [List.size_toArray, leB_length]
  have z2 : b2.size = 2 := by rw [← hb2]; show (leB body.size 2).toArray.size = 2; rw [List.size_toArray, leB_length]
  have z3 : (kind ++ b1).size = kind.size + 4 := by rw [ByteArray.size_append, z1]
  have z4 : (kind ++ b1 ++ b2).size = kind.size + 6 := by rw [ByteArray.size_append, z3, z2]
  rw [hb1] at EL ⊢
  simp only [hb2] at EL2 ⊢
  clear el el2 hb1 hb2
  go_enter Try.func82, Try.ntmps82
  go_wp2_with fail
  refine (unhide EL).mono ?_
  rintro e w1 ⟨rfl, hb1⟩
  have HB := hide hb1
  clear hb1 EL
  go_wp2_with fail
  refine (unhide EL2 _).mono ?_
  rintro e w2 ⟨rfl, hb2⟩
  have HB2 := hide ((unhide HB).trans (hb2.mono (unhide HB).size))
  clear hb2 EL2 HB
  go_wp2_with fail
  go_ret
  exact ⟨rfl, unhide HB2⟩
#print axioms tell_calls
#print axioms count_calls
end Go.Proofs.Ytcjfhfalffngjaa
