/-
  The contract of jobcaselaw.trees, over the seat's program: true.
-/
import Derived.Test.YtklnonmmamdecabTopTreeW
import Derived.Test.YtklnonmmamdecabCopied
import Derived.Test.YtklnonmmamdecabRefPut
import Derived.Test.YtklnonmmamdecabRefAfter
namespace Go.Proofs.Ytklnonmmamdecab
open Go.RowKit Go.Lib
set_option linter.unusedVariables false
set_option linter.unusedSimpArgs false

def cItem : Item := ⟨⟨#[97]⟩, ⟨#[120]⟩, 5⟩
theorem cItem_full : cItem.key.toList.isEmpty = false := by rw [Go.Lib.toList_data]; rfl
theorem TreeIn.rest {base : Nat} {w0 w : World} {K0 : Nat → Nat} {tb : Nat} {L : List Item} {l2 : List Res} (h : TreeIn base w0 K0 w tb L l2) : Hold base w0 K0 w l2 := by
  obtain ⟨h1, h2, k, h3, h4, h5, H⟩ := h
  exact (H.forget []).forget []
theorem Hold.belowW {W w : World} {l2 : List Res} (H : Hold W.heap.size W (fun _ => 0) w l2) : Below W.heap.size W w :=
  H.kept.below (Nat.le_refl _) (fun x hx => absurd hx (Nat.lt_irrefl 0))

/-- How trees ends. -/
def TreesEnd (base : Nat) (w0 : World) (K0 : Nat → Nat) (l2 : List Res) (e : Ending) (w' : World) : Prop :=
  e = .returned (.bool true) ∧ base ≤ w'.heap.size ∧ Hold base w0 K0 w' l2

set_option maxRecDepth 100000 in
set_option maxHeartbeats 1000000 in
theorem trees_calls (base : Nat) (w0 : World) (K0 : Nat → Nat) (w : World) (l2 : List Res) (H : Hold base w0 K0 w l2) (hb : base ≤ w.heap.size) :
    Calls Try.prog 6 #[] w fun e w' => TreesEnd base w0 K0 l2 e w' := by
  have e1 := new_calls base w0 K0 w l2 H hb
  have E1 := hide e1
  clear e1 H
  go_enter Try.func6, Try.ntmps6
  go_wp2_with fail
  refine (unhide E1).mono ?_
  rintro e w1 ⟨tb, rfl, hT⟩
  have e2 := treePut_calls base w0 K0 w1 tb [] cItem l2 hT cItem_full
  have E2 := hide e2
  clear e2 hT E1
  go_wp2_with fail
  refine (unhide E2).mono ?_
  rintro e w2 ⟨rfl, hT⟩
  have hL1 : putL [] cItem = [cItem] := rfl
  rw [hL1] at hT
  have e3 := get_calls base w0 K0 w2 tb [cItem] l2 ⟨#[97]⟩ hT
  have hg : getL [cItem] ⟨#[97]⟩ = some cItem := getL_some (x := cItem) (List.pairwise_singleton _ _) (by simp)
  unfold GetEnd at e3
  rw [hg] at e3
  unfold getV at e3
  have E3 := hide e3
  clear e3 hT E2 hL1 hg
  go_wp2_with fail
  refine (unhide E3).mono ?_
  rintro e w3 ⟨rfl, hT⟩
  have e4 : ∀ o, Calls Try.prog 16 #[.pointer (some ⟨tb, 0, none⟩)] (w3.alloc o) fun e w' => e = .returned (.int .i64 ([cItem].length : Nat)) ∧ TreeIn base w0 K0 w' tb [cItem] l2 := fun o => many_calls base w0 K0 _ tb [cItem] l2 (hT.alloc o) (fun x hx => by simp at hx; subst hx; exact cItem_full) (by simp)
  have E4 := hide e4
  clear e4 hT E3
  unfold cItem
  go_wp2_with fail
  refine (unhide E4 _).mono ?_
  rintro e w4 ⟨rfl, hT⟩
  have e5 := treeDeep_calls base w0 K0 w4 tb [cItem] l2 hT (by simp)
  have E5 := hide e5
  clear e5 hT E4
  go_wp2_with fail
  refine (unhide E5).mono ?_
  rintro e w5 ⟨h, rfl, h5, hT⟩
  have h50 : h = 0 := by
    rcases h5 with h5 | h5
    · exact h5
    · rcases Nat.eq_zero_or_pos h with h6 | h6
      · exact h6
      · have := Nat.pow_le_pow_right (n := 2) (by omega) (show 2 ≤ h + 1 by omega)
        simp at h5 this
        omega
  subst h50
  have HE := hide (show base ≤ w5.heap.size ∧ Hold base w0 K0 w5 l2 from ⟨hT.low, hT.rest⟩)
  clear hT h5 E5
  go_wp2_with fail
  go_ret
  exact ⟨rfl, (unhide HE).1, (unhide HE).2⟩
#print axioms trees_calls
end Go.Proofs.Ytklnonmmamdecab
