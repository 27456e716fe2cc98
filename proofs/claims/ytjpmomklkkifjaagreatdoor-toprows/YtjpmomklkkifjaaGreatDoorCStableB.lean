/-
  The contract of slices.SortStableFunc at up to a thousand marks, over the seat's program.
-/
import Derived.Test.YtjpmomklkkifjaaGreatDoorCStable
namespace Go.Proofs.YtjpmomklkkifjaaGreatDoor
open Go.RowKit Go.Sort Go.Lib
set_option maxRecDepth 100000
set_option linter.unusedVariables false

inductive Blk (bs : Nat) : List Int → List Int → Prop
  | last (l : List Int) : l.length < bs → Blk bs l (sortM l)
  | more (A B zs : List Int) : A.length = bs → Blk bs B zs → Blk bs (A ++ B) (sortM A ++ zs)
theorem Blk.split {bs : Nat} {R zs : List Int} (h : Blk bs R zs) (hl : bs ≤ R.length) : ∃ A B ys, R = A ++ B ∧ zs = sortM A ++ ys ∧ A.length = bs ∧ Blk bs B ys := by
  cases h with
  | last l h1 => omega
  | more A B ys h1 h2 => exact ⟨A, B, ys, rfl, rfl, h1, h2⟩
theorem Blk.all {bs : Nat} {R zs : List Int} (h : Blk bs R zs) (hb : 0 < bs) (hl : R.length ≤ bs) : zs = sortM R := by
  cases h with
  | last l h1 => rfl
  | more A B ys h1 h2 =>
    have hB : B = [] := List.eq_nil_of_length_eq_zero (by rw [List.length_append] at hl; omega)
    subst hB
    have : ys = [] := by
      generalize hN : ([] : List Int) = N at h2
      cases h2 with
      | last l h3 => rw [← hN]; rfl
      | more A2 B2 ys2 h3 h4 =>
        have := congrArg List.length hN
        rw [List.length_append] at this
        simp at this
        omega
    rw [this]; simp
theorem Blk.length {bs : Nat} {R zs : List Int} (h : Blk bs R zs) : zs.length = R.length := by
  induction h with
  | last l _ => exact sortM_length l
  | more A B zs _ _ ih => rw [List.length_append, List.length_append, sortM_length, ih]

end Go.Proofs.YtjpmomklkkifjaaGreatDoor
