/-
  The contracts of node.deep and Tree.Deep, over the seat's program: how many nodes are above each other.
-/
import Derived.Test.YtklnonmmamdecabGet
namespace Go.Proofs.Ytklnonmmamdecab
open Go.RowKit Go.Lib
set_option linter.unusedVariables false
set_option linter.unusedSimpArgs false

def DeepSpec (h : Nat) : Prop := ∀ (base : Nat) (w : World) (k : Kid), Sub base w h k → Fit k →
  Calls Try.prog 31 #[.pointer (some ⟨k.b, 0, none⟩)] w fun e w' => e = .returned (.int .i64 ((h : Int) + 1)) ∧ ∃ q, w' = w.drewN q

set_option maxRecDepth 100000 in
theorem deep_leaf : DeepSpec 0 := by
  intro base w k hs hf
  obtain ⟨its, kids, v0, v1, hcc, hL, hsh, hk, c0, c1, r0, r1⟩ := hs.cells
  have hk0 : kids = [] := by rcases hsh with ⟨_, h⟩ | ⟨h, _⟩; exact h; omega
  subst hk0
  obtain ⟨n, hn⟩ : ∃ n, its.length = n := ⟨_, rfl⟩
  have h1 := hf.1
  have h3 := hf.2
  rw [hn] at r0
  obtain ⟨g0, cap0, rfl, _, _⟩ := row_shape r0 (by omega)
  have e1 := leaf_calls k.b (.slice none 0 0) v1 0 w c1 base _ r1 (by omega)
  have E1 := hide e1
  have hz1 : ¬ ((n : Int) < 1) := by omega
  have hz2 : ¬ ((3 : Int) < (n : Int)) := by omega
  clear e1 r0 r1 hcc hL hsh hk hn
  go_enter Try.func31, Try.ntmps31
  go_wp2_with fail
  refine (unhide E1).mono ?_
  rintro e w2 ⟨rfl, rfl⟩
  simp only [decide_true]
  go_wp2_with fail
  go_ret
  exact ⟨rfl, 0, rfl⟩

theorem Sub.drewN {base : Nat} {w : World} {h : Nat} {k : Kid} (hs : Sub base w h k) (n : Nat) : Sub base (w.drewN n) h k := hs.kept ((Kept.refl (fun _ => False) w).drewN n) (fun _ _ h => h)

set_option maxRecDepth 100000 in
set_option maxHeartbeats 4000000 in
theorem deep_inner (h : Nat) (hh : h ≤ 60) (ih : DeepSpec h) : DeepSpec (h + 1) := by
  intro base w k hs hf
  obtain ⟨its, kids, v0, v1, hcc, hL, hsh, hk, c0, c1, r0, r1⟩ := hs.cells
  have hk0 : kids.length = its.length + 1 := by rcases hsh with ⟨h, _⟩ | ⟨_, h⟩; omega; exact h
  obtain ⟨n, hn⟩ : ∃ n, its.length = n := ⟨_, rfl⟩
  have h1 := hf.1
  have h3 := hf.2
  rw [hn] at r0 hk0
  rw [hk0] at r1
  obtain ⟨g0, cap0, rfl, _, _⟩ := row_shape r0 (by omega)
  obtain ⟨g1, cap1, rfl, hcp1, hm1⟩ := row_shape r1 (by omega)
  have e1 := leaf_calls k.b (.slice none 0 0) _ (n + 1) w c1 base _ r1 (by omega)
  rw [show decide (n + 1 = 0) = false from by simp] at e1
  have E1 := hide e1
  have hkid : ∀ j, j < n + 1 → ∃ c, w.cell? ⟨g1, j, none⟩ = some (.pointer (some ⟨c.b, 0, none⟩)) ∧ Fit c ∧ Sub base w h c := fun j hj => by
    have hjk : j < kids.length := by omega
    exact ⟨kids[j], ptr_cell r1 (List.getElem?_eq_getElem hjk), hk _ (List.getElem_mem hjk)⟩
  obtain ⟨c, pc, hfc, hsc⟩ := hkid 0 (by omega)
  have hz1 : ¬ ((n : Int) < 1) := by omega
  have hz2 : ¬ ((3 : Int) < (n : Int)) := by omega
  have hz3 : (((n : Int) + 1) == (n : Int) + 1) = true := by simp
  have hc1z : ¬ (cap1 = 1) := by omega
  have hn3 : n ≤ 3 := by omega
  have hn1 : 1 ≤ n := by omega
  have hw1 : IntKind.i64.wrap ((n : Int) + 1) = (n : Int) + 1 := by rw [IntKind.wrap_i64]; omega
  have Hkid := hide hkid
  have IH := hide ih
  have Hsc := hide hsc
  have Hfc := hide hfc
  clear e1 r0 r1 hcc hL hsh hk hn hkid ih hsc hfc hk0 hs
  go_enter Try.func31, Try.ntmps31
  go_wp2_with fail
  refine (unhide E1).mono ?_
  rintro e w2 ⟨rfl, rfl⟩
  go_wp2_with fail
  go_quiet (fail)
  go_wp2_with fail
  refine (unhide IH base _ c ((unhide Hsc).drewN nq) (unhide Hfc)).mono ?_
  rintro e w3 ⟨rfl, q3, rfl⟩
  go_wp2_with fail
  go_loopg [47] (n + 1) (fun g vi wr => ∃ (i q : Nat), n - i < g ∧ i ≤ n ∧ vi = .int .i64 i ∧ wr = w2.drewN q)
  case atStart => exact ⟨0, nq + q3, by omega, by omega, rfl, rfl⟩
  case round =>
    obtain ⟨i, q, hg, hi, rfl, rfl⟩ := hrel
    by_cases hin : i < n
    · have hz : (i : Int) < (n : Int) := by omega
      obtain ⟨c', pc', hfc', hsc'⟩ := unhide Hkid (i + 1) (by omega)
      rw [Nat.add_comm] at pc'
      have Hsc' := hide hsc'
      have Hfc' := hide hfc'
      clear hsc' hfc'
      go_wp2_with fail
      refine (unhide IH base _ c' ((unhide Hsc').drewN _) (unhide Hfc')).mono ?_
      rintro e w4 ⟨rfl, q4, rfl⟩
      go_wp2_with fail
      go_roundg (n - i)
      case measure => omega
      case rel => exact ⟨i + 1, q + q4, by omega, by omega, by simp, rfl⟩
    · have hz : ¬ ((i : Int) < (n : Int)) := by omega
      go_wp2_with fail
      go_ret
      exact ⟨by simp, q, rfl⟩

theorem deep_all (h : Nat) (hh : h ≤ 61) : DeepSpec h := by
  induction h with
  | zero => exact deep_leaf
  | succ h ih => exact deep_inner h (by omega) (ih (by omega))

end Go.Proofs.Ytklnonmmamdecab
