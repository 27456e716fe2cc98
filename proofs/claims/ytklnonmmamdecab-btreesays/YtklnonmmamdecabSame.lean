/-
  The contract of jobcaseref.SameEntries at two rows that hold the same, over the seat's program: true.
-/
import Derived.Test.YtklnonmmamdecabAfter
import Derived.Laws.StructEq
namespace Go.Proofs.Ytklnonmmamdecab
open Go.RowKit Go.Lib
set_option linter.unusedVariables false
set_option linter.unusedSimpArgs false

theorem neq33 (a : ByteArray) (n : Int) (w : World) : (binOp .neq 33 (.agg #[.string a, .int .i64 n]) (.agg #[.string a, .int .i64 n])).run Try.prog w = .ok (.bool false) w := by
  have u3 := Try.underlying3
  have a3 := Try.isAgg3
  have z3 := Try.sizeOf3
  have u9 := Try.underlying9
  have a9 := Try.isAgg9
  have z9 := Try.sizeOf9
  have hS : Try.prog.underlying 33 = some (.struct (Try.prog.fieldsOf 33)) := by kernel_rfl
  have hp : Try.prog.stoodInHeld 33 = false := by kernel_rfl
  rw [run_neq_struct, show (10000 : Nat) = 9999 + 1 from rfl, run_equalIn_struct w 9999 33 _ _ hS hp]
  simp only [Program.fieldsOf, Try.underlying33]
  go_simp

theorem entry_cell {w : World} {base g n cap : Nat} {l : List Item} (h : w.ownsRow base 33 2 (.slice (some ⟨g, 0, none⟩) n cap) n (flatE l)) {j : Nat} {x : Item} (hk : l[j]? = some x) : w.cell? ⟨g, j * 2, none⟩ = some (.string x.name) ∧ w.cell? ⟨g, j * 2 + 1, none⟩ = some (.int .i64 x.node) := by
  have hl : l.length * 2 = n * 2 := by rw [← h.1, flatE_length]
  obtain ⟨hj, rfl⟩ := List.getElem?_eq_some_iff.1 hk
  have key : ∀ (l : List Item) (j : Nat) (hj : j < l.length), (flatE l)[j * 2]? = some (.string (l[j]).name) ∧ (flatE l)[j * 2 + 1]? = some (.int .i64 (l[j]).node) := by
    intro l
    induction l with
    | nil => intro j hj; simp at hj
    | cons y l ih =>
      intro j hj
      cases j with
      | zero => simp [flatE]
      | succ j =>
        have := ih j (by simpa using hj)
        rw [show (j + 1) * 2 = j * 2 + 1 + 1 by omega]
        simpa [flatE] using this
  have h1 := key l j hj
  exact ⟨by rw [h.cellAt _ (by omega)]; exact h1.1, by rw [h.cellAt _ (by omega)]; exact h1.2⟩

set_option maxRecDepth 100000 in
theorem same_calls (base1 base2 : Nat) (v1 v2 : Value) (n : Nat) (l : List Item) (w : World) (r1 : w.ownsRow base1 33 2 v1 n (flatE l)) (r2 : w.ownsRow base2 33 2 v2 n (flatE l)) (hl : l.length = n) (hn : n ≤ 1000) :
    Calls Try.prog 18 #[v1, v2] w fun e w' => e = .returned (.bool true) ∧ ∃ q, w' = w.drewN q := by
  obtain ⟨p1, c1, hv1⟩ := row_len r1
  obtain ⟨p2, c2, hv2⟩ := row_len r2
  have R1 := hide r1
  have R2 := hide r2
  have HL := hide hl
  have hne := neq33
  have hgu : ∀ (op : BinOp) (a b : Operand) (x y : Array Value) (w : World), (eqGuard op 33 a b (.agg x) (.agg y)).run Try.prog w = .ok () w := fun op a b x y w => run_eqGuard_agg w op 33 a b x y (by kernel_rfl)
  clear r1 r2 hl
  rw [hv1, hv2]
  go_enter Try.func18, Try.ntmps18
  go_wp2_with fail
  go_loopg [5] (n + 1) (fun g vi wr => ∃ (i q : Nat), n - i < g ∧ i ≤ n ∧ vi = .int .i64 i ∧ wr = w.drewN q)
  case atStart => exact ⟨0, 0, by omega, by omega, rfl, rfl⟩
  case round =>
    obtain ⟨i, q, hg, hi, rfl, rfl⟩ := hrel
    by_cases hin : i < n
    · have hz : (i : Int) < (n : Int) := by omega
      have h1 := unhide R1
      have h2 := unhide R2
      obtain ⟨g1, cap1, e1, _⟩ := row_shape h1 (by omega)
      obtain ⟨g2, cap2, e2, _⟩ := row_shape h2 (by omega)
      have e1' := hv1.symm.trans e1
      have e2' := hv2.symm.trans e2
      injection e1' with a1 _ a3
      injection e2' with b1 _ b3
      subst a1 a3 b1 b3
      rw [e1] at h1
      rw [e2] at h2
      obtain ⟨x, hx⟩ : ∃ x, l[i]? = some x := ⟨_, List.getElem?_eq_getElem (by have := unhide HL; omega)⟩
      obtain ⟨s1, s2⟩ := entry_cell h1 hx
      obtain ⟨t1, t2⟩ := entry_cell h2 hx
      clear h1 h2 e1 e2 hx hv1 hv2 R1 R2
      go_wp2_with fail
      go_quiet (fail)
      go_wp2_with fail
      go_roundg (n - i)
      case measure => omega
      case rel => exact ⟨i + 1, q + nq, by omega, by omega, by simp, rfl⟩
    · have hz : ¬ ((i : Int) < (n : Int)) := by omega
      go_wp2_with fail
      go_ret
      exact ⟨rfl, q, rfl⟩

#print axioms same_calls
end Go.Proofs.Ytklnonmmamdecab
