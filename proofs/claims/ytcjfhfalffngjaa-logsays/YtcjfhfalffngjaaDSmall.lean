/-
  The contracts of a disk's small calls, over the seat's program.
-/
import Derived.Test.YtcjfhfalffngjaaDPure
import Derived.Test.YtcjfhfalffngjaaProg
import Derived.WalkKit
import Derived.WalkLawsBesides
import Derived.WalkSpells
import Derived.Deep.LoopGhost
import Derived.BigCall
import Derived.Outline
import Derived.Deep.QuietTactic
namespace Go.Proofs.Ytcjfhfalffngjaa
open Go.RowKit
set_option maxRecDepth 100000
set_option linter.unusedSimpArgs false
set_option linter.unusedVariables false

variable (w0 w : World) (db : Nat) (d : DK) (l2 : List Res)

theorem has_calls (h : DiskIn w0 w db d l2) (i : Int) :
    Calls Try.prog 58 #[.pointer (some ⟨db, 0, none⟩), .int .i64 i] w fun e w' => e = .returned (.bool (d.has i)) ∧ w' = w := by
  obtain ⟨g0, c0, g1, c1, v2, hc0, hc01, hc1, hc11, H⟩ := h.mem
  have q1 : w.cell? ⟨db, 1, none⟩ = some (.slice (some ⟨g1, 0, none⟩) d.now.length c1) := H.cellAt (.head _) rfl
  obtain ⟨n, hn⟩ : ∃ n, d.now.length = n := ⟨_, rfl⟩
  unfold DK.has
  rw [hn] at q1 ⊢
  clear H h hc0 hc01 hc1 hc11
  by_cases h0 : 0 ≤ i
  · rw [decide_eq_true h0]
    go_enter Try.func58, Try.ntmps58
    go_wp2_with fail
    go_ret
    exact ⟨by simp, rfl⟩
  · rw [decide_eq_false h0]
    go_enter Try.func58, Try.ntmps58
    go_wp2_with fail
    go_ret
    exact ⟨rfl, rfl⟩

theorem sectors_calls (h : DiskIn w0 w db d l2) :
    Calls Try.prog 15 #[.pointer (some ⟨db, 0, none⟩)] w fun e w' => e = .returned (.int .i64 d.now.length) ∧ w' = w := by
  obtain ⟨g0, c0, g1, c1, v2, hc0, hc01, hc1, hc11, H⟩ := h.mem
  have q1 : w.cell? ⟨db, 1, none⟩ = some (.slice (some ⟨g1, 0, none⟩) d.now.length c1) := H.cellAt (.head _) rfl
  obtain ⟨n, hn⟩ : ∃ n, d.now.length = n := ⟨_, rfl⟩
  rw [hn] at q1 ⊢
  clear H h hc0 hc01 hc1 hc11
  go_enter Try.func15, Try.ntmps15
  go_wp2_with fail
  go_ret
  exact ⟨rfl, rfl⟩

theorem down_calls (h : DiskIn w0 w db d l2) :
    Calls Try.prog 25 #[.pointer (some ⟨db, 0, none⟩)] w fun e w' => e = .returned (.bool d.down) ∧ w' = w := by
  obtain ⟨g0, c0, g1, c1, v2, hc0, hc01, hc1, hc11, H⟩ := h.mem
  have q3 : w.cell? ⟨db, 3, none⟩ = some (.bool d.down) := H.cellAt (.head _) rfl
  clear H h hc0 hc01 hc1 hc11
  go_enter Try.func25, Try.ntmps25
  go_wp2_with fail
  go_ret
  exact ⟨rfl, rfl⟩

theorem arm_calls (h : DiskIn w0 w db d l2) (n : Int) (hn : -9223372036854775808 ≤ n ∧ n ≤ 9223372036854775807) :
    Calls Try.prog 22 #[.pointer (some ⟨db, 0, none⟩), .int .i64 n] w fun e w' => e = .returned (.tuple #[]) ∧ DiskIn w0 w' db (d.armed n) l2 := by
  obtain ⟨g0, c0, g1, c1, v2, hc0, hc01, hc1, hc11, H⟩ := h.mem
  have q4 : w.cell? ⟨db, 4, none⟩ = some (.int .i64 d.left) := H.cellAt (.head _) rfl
  have f4 : w.frozen? ⟨db, 4, none⟩ = false := H.frozenAt (.head _) 4
  have hf : DiskIn w0 (w.setCell ⟨db, 4, none⟩ (.int .i64 n)) db (d.armed n) l2 := ⟨h.ok.armed hn, g0, c0, g1, c1, v2, hc0, hc01, hc1, hc11, H.store [] 4 _ _ rfl⟩
  have HF := hide hf
  clear H h hc0 hc01 hc1 hc11 hf
  go_enter Try.func22, Try.ntmps22
  go_wp2_with fail
  go_end0
  exact ⟨rfl, unhide HF⟩

def StepEnd (e : Ending) (w' : World) : Prop := e = .returned (errV d.flushE) ∧ DiskIn w0 w' db d.stepped l2

theorem step_calls (h : DiskIn w0 w db d l2) :
    Calls Try.prog 59 #[.pointer (some ⟨db, 0, none⟩)] w fun e w' => StepEnd w0 db d l2 e w' := by
  obtain ⟨g0, c0, g1, c1, v2, hc0, hc01, hc1, hc11, H⟩ := h.mem
  have hok := h.ok.stepped
  have hlf := h.ok.left
  have q4 : w.cell? ⟨db, 4, none⟩ = some (.int .i64 d.left) := H.cellAt (.head _) rfl
  have f4 : w.frozen? ⟨db, 4, none⟩ = false := H.frozenAt (.head _) 4
  have q3 : w.cell? ⟨db, 3, none⟩ = some (.bool d.down) := H.cellAt (.head _) rfl
  have f3 : w.frozen? ⟨db, 3, none⟩ = false := H.frozenAt (.head _) 3
  obtain ⟨kept, now, wr, down, left⟩ := d
  simp only at *
  have HH := hide H
  have Hok := hide hok
  have Hc : Hid (now.length ≤ c0 ∧ c0 ≤ 9223372036854775807 ∧ now.length ≤ c1 ∧ c1 ≤ 9223372036854775807) := ⟨hc0, hc01, hc1, hc11⟩
  clear H h hc0 hc01 hc1 hc11 hok
  unfold StepEnd
  by_cases h0 : left = 0
  · subst h0
    go_enter Try.func59, Try.ntmps59
    go_wp2_with fail
    go_ret
    obtain ⟨a1, a2, a3, a4⟩ := unhide Hc
    refine ⟨by simp [DK.flushE, DK.fall, errV], unhide Hok, g0, c0, g1, c1, v2, ?_⟩
    simp only [DK.stepped, DK.fall, beq_self_eq_true, Bool.or_true, if_true]
    exact ⟨a1, a2, a3, a4, (unhide HH).store [] 3 _ _ rfl⟩
  · cases down with
    | true =>
      go_enter Try.func59, Try.ntmps59
      go_wp2_with fail
      go_ret
      obtain ⟨a1, a2, a3, a4⟩ := unhide Hc
      refine ⟨by simp [DK.flushE, DK.fall, errV], unhide Hok, g0, c0, g1, c1, v2, ?_⟩
      simp only [DK.stepped, DK.fall, Bool.true_or, if_true]
      exact ⟨a1, a2, a3, a4, unhide HH⟩
    | false =>
      have hfl : DK.fall ⟨kept, now, wr, false, left⟩ = false := by simp [DK.fall, h0]
      have hfe : DK.flushE ⟨kept, now, wr, false, left⟩ = none := by simp [DK.flushE, hfl]
      rw [hfe]
      by_cases hp : 0 < left
      · have hst : DK.stepped ⟨kept, now, wr, false, left⟩ = ⟨kept, now, wr, false, left - 1⟩ := by simp [DK.stepped, hfl, hp]
        rw [hst] at Hok ⊢
        clear hst hfl hfe
        go_enter Try.func59, Try.ntmps59
        go_wp2_with fail
        go_ret
        obtain ⟨a1, a2, a3, a4⟩ := unhide Hc
        exact ⟨rfl, unhide Hok, g0, c0, g1, c1, v2, a1, a2, a3, a4, (unhide HH).store [] 4 _ _ rfl⟩
      · have hst : DK.stepped ⟨kept, now, wr, false, left⟩ = ⟨kept, now, wr, false, left⟩ := by simp [DK.stepped, hfl, hp]
        rw [hst] at Hok ⊢
        clear hst hfl hfe
        go_enter Try.func59, Try.ntmps59
        go_wp2_with fail
        go_ret
        obtain ⟨a1, a2, a3, a4⟩ := unhide Hc
        exact ⟨rfl, unhide Hok, g0, c0, g1, c1, v2, a1, a2, a3, a4, unhide HH⟩
#print axioms step_calls
end Go.Proofs.Ytcjfhfalffngjaa
