/-
  The walk of RowSays: it answers true for all rows, changes, a change and bytes.
-/
import Derived.Test.YtlibbkdpkpaglaaCGood
import Derived.Test.YtlibbkdpkpaglaaCSame
import Derived.Test.YtlibbkdpkpaglaaCRefW
import Derived.Test.YtlibbkdpkpaglaaRowQ
import Derived.Test.YtlibbkdpkpaglaaRowP
import Derived.Test.YtlibbkdpkpaglaaRPure
import Derived.Deep.Onto
namespace Go.Proofs.Ytlibbkdpkpaglaa
open Go.RowKit Go.Lib
set_option maxRecDepth 100000
set_option linter.unusedVariables false
set_option linter.unusedSimpArgs false

theorem hold_two {w0 w1 w2 : World} {v1 v2 : Value} {L M : List ChD} (h1 : Hold w0 w1 [rowI v1 L]) (h2 : Hold w1 w2 [rowI v2 M]) : Hold w0 w2 [rowI v1 L, rowI v2 M] :=
  (h1.new (r := rowI v2 M) (Kept.of_below h2.below) (World.ownsRow.mono (h2.rowAt (.head _)) h1.size) (fun x hx => h2.beneath (.head _) hx)).perm (List.Perm.swap _ _ _)
theorem applyP_len : ∀ (l L : List ChD), (applyP L l).length ≤ L.length + l.length
  | [], L => by simp [applyP]
  | c :: l, L => by
    have h1 := applyP_len l (applyOne L c)
    have h2 := applyOne_len L c
    simp only [applyP, List.foldl_cons, List.length_cons] at *
    omega
theorem Calls.later_same {P : Program} {f : FuncId} {args : Array Value} {w : World} {u : Later w} {v : Value}
    (h : Calls P f args u.wld fun e w' => e = .returned v ∧ w' = u.wld) : Calls P f args u.wld fun e w'' => e = .returned v ∧ ∃ u' : Later w, w'' = u'.wld :=
  h.mono fun _ w' ⟨he, hb⟩ => ⟨he, u, hb⟩
theorem same_noE (o : Option Int) (h : ∀ k, o = some k → 0 < k) : sameP o (noE o) = true := by
  cases o with
  | none => rfl
  | some k => have := h k rfl; simp [sameP, noE, this]

theorem rows_calls (w : World) : Calls Try.prog 26 #[] w fun e w' => e = .returned (.bool true) ∧ Below w.heap.size w w' := by
  have hb := bytes_calls ⟨⟨#[107]⟩, ⟨#[120]⟩, false⟩ w
  have e1 : bytesE ⟨⟨#[107]⟩, ⟨#[120]⟩, false⟩ = [0, 1, 107, 120] := by kernel_rfl
  have e2 : checkP ⟨⟨#[107]⟩, ⟨#[120]⟩, false⟩ = none := by kernel_rfl
  unfold BytesEnd at hb
  rw [e1, e2] at hb
  unfold chV at hb
  simp only at hb
  have HB := hide hb
  clear hb e1 e2
  go_enter Try.func26, Try.ntmps26
  go_wp2_with fail
  refine (unhide HB).mono ?_
  rintro e w1 ⟨rfl, hb1⟩
  have HB1 := hide hb1
  have es := same_calls w1 none 0
  unfold sameP at es
  have ES := hide es
  clear hb1 es
  go_wp2_with fail
  refine (unhide ES).mono ?_
  rintro e w2 ⟨rfl, rfl⟩
  simp only [beq_self_eq_true]
  go_wp2_with fail
  go_ret
  exact ⟨rfl, unhide HB1⟩
#print axioms rows_calls
end Go.Proofs.Ytlibbkdpkpaglaa
