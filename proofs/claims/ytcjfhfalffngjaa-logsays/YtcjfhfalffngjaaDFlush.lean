/-
  The contract of a disk's Flush, over the seat's program.
-/
import Derived.Test.YtcjfhfalffngjaaDWrite
namespace Go.Proofs.Ytcjfhfalffngjaa
open Go.RowKit
set_option maxRecDepth 100000
set_option linter.unusedSimpArgs false
set_option linter.unusedVariables false

/-- copy, as one step of a region that draws. -/
theorem step_copy_runI {P : Program} {ops : Array Oper} {o : Oper} {a : Act} {w : World} {K : Act → World → Prop} {Q : Exit → Act → World → Prop} {E : Prop}
    (hg : o.guard = none) (d x : Operand) (dT sT : TypeId) (hop : o.op = Op.call { callee := Callee.builtin Builtin.copy, args := #[d, x], argTypes := #[dT, sT] })
    (v u : Value) (hd : a.eval d = v) (hx : a.eval x = u) {v' : Value} {w' : World} (hr : (Builtin.copy_ #[dT, sT] o.type #[v, u]).run P w = .ok v' w') (hK : K (a.put o.dst v') w') :
    if Region.wanted o (yielded ops a.tmps) = true then Oper.wp P o a w K Q else E := by
  have hw : Region.wanted o (yielded ops a.tmps) = true := by simp [Region.wanted, hg]
  rw [if_pos hw]
  unfold Oper.wp
  simp [execOp, hop, resolve, invoke, builtin, hd, hx, hr, Result.andThen]
  exact hK

/-- All of one row over all of another. -/
theorem Hold.copyRow {w0 w : World} (l1 : List Res) {g g' n cap cap' : Nat} {A B : List (List UInt8)} {l2 : List Res} (hA : A.length = n) (hB : B.length = n) (sA : Secs A) (sB : Secs B)
    (H : Hold w0 w (l1 ++ rowS (.slice (some ⟨g, 0, none⟩) n cap) A :: l2)) (hm : rowS (.slice (some ⟨g', 0, none⟩) n cap') B ∈ l1 ++ l2) (ty : TypeId) :
    ∃ w', (Builtin.copy_ #[94, 94] ty #[.slice (some ⟨g, 0, none⟩) n cap, .slice (some ⟨g', 0, none⟩) n cap']).run Try.prog w = .ok (goInt n) w' ∧ Hold w0 w' (l1 ++ rowS (.slice (some ⟨g, 0, none⟩) n cap) B :: l2) := by
  unfold rowS at H hm ⊢
  rw [hA] at H
  rw [hB] at hm ⊢
  have hlB := flatS_length sB
  have hlA := flatS_length sA
  obtain ⟨w', h1, h2, _⟩ := H.lay l1 0 (flatS B) (by omega) (flatS_one B)
  have e : Go.splice (flatS A) 0 (flatS B) = flatS B := by
    unfold Go.splice
    rw [List.take_zero, List.nil_append, List.drop_eq_nil_of_le (by omega), List.append_nil]
  rw [e] at h2
  refine ⟨w', ?_, h2⟩
  have hmin : Nat.min n n = n := Nat.min_self n
  have := copy_run (P := Try.prog) w w' 94 94 ty 102 140 g 0 n cap g' 0 n cap' (flatS B) Try.underlying94 size102 (by rw [hmin, hlB, hB]) (fun j v hv => by
    rw [Nat.zero_add]
    refine H.rowCell (xs := flatS B) (k := 140) (e := 102) (n := n) (cap := cap') ?_ hv
    rcases List.mem_append.1 hm with h | h
    · exact List.mem_append.2 (.inl h)
    · exact List.mem_append.2 (.inr (.tail _ h))) (h1 Try.prog)
  rw [hmin] at this
  exact this

variable (w0 w : World) (db : Nat) (d : DK) (l2 : List Res)

def FlushEnd (e : Ending) (w' : World) : Prop := e = .returned (errV d.flushE) ∧ DiskIn w0 w' db d.flushed l2

set_option maxHeartbeats 4000000 in
theorem flush_calls (h : DiskIn w0 w db d l2) :
    Calls Try.prog 20 #[.pointer (some ⟨db, 0, none⟩)] w fun e w' => FlushEnd w0 db d l2 e w' := by
  have e2 := step_calls w0 w db d l2 h
  unfold FlushEnd
  unfold StepEnd at e2
  cases hf : d.fall with
  | true =>
    have hfe : d.flushE = some 10 := by unfold DK.flushE; rw [hf]; rfl
    have hfd : d.flushed = d.stepped := by unfold DK.flushed; rw [hf]; rfl
    rw [hfe] at e2 ⊢
    rw [hfd]
    simp only [errV] at e2 ⊢
    have E2 := hide e2
    clear e2 h hf hfe hfd
    go_enter Try.func20, Try.ntmps20
    go_wp2_with fail
    refine (unhide E2).mono ?_
    rintro e w2 ⟨rfl, hD⟩
    have HD := hide hD
    clear hD E2
    go_wp2_with fail
    go_ret
    exact ⟨rfl, unhide HD⟩
  | false =>
    have hfe : d.flushE = none := by unfold DK.flushE; rw [hf]; rfl
    have hfd : d.flushed = d.stepped.firm := by unfold DK.flushed; rw [hf]; rfl
    rw [hfe] at e2 ⊢
    rw [hfd]
    simp only [errV] at e2 ⊢
    have E2 := hide e2
    clear e2 h hf hfe hfd
    generalize d.stepped = d2 at *
    go_enter Try.func20, Try.ntmps20
    go_wp2_with fail
    refine (unhide E2).mono ?_
    rintro e w2 ⟨rfl, hD⟩
    clear E2
    have hok := hD.ok
    obtain ⟨g0, c0, g1, c1, v2, hc0, hc01, hc1, hc11, H⟩ := hD.mem
    obtain ⟨w3, hcp, H3⟩ := H.drew.copyRow [_] (g := g0) (g' := g1) (cap := c0) (cap' := c1) hok.same rfl hok.kept hok.now (by simp) 3
    have q0 : w2.cell? ⟨db, 0, none⟩ = some (.slice (some ⟨g0, 0, none⟩) d2.now.length c0) := H.cellAt (.head _) rfl
    have q1 : w2.cell? ⟨db, 1, none⟩ = some (.slice (some ⟨g1, 0, none⟩) d2.now.length c1) := H.cellAt (.head _) rfl
    have q2 : w3.cell? ⟨db, 2, none⟩ = some v2 := H3.cellAt (.head _) rfl
    have f2 : w3.frozen? ⟨db, 2, none⟩ = false := H3.frozenAt (.head _) 2
    have HF : Hid (DiskIn w0 (w3.setCell ⟨db, 2, none⟩ (.slice none 0 0)) db d2.firm l2) := by
      refine ⟨hok.firm, g0, c0, g1, c1, .slice none 0 0, hc0, hc01, hc1, hc11, ?_⟩
      have h4 := H3.store [] 2 (.slice none 0 0) _ rfl
      exact ((h4.forget [_, _, _]).nilRow 104 141).back [_, _, _]
    obtain ⟨n, hn⟩ : ∃ n, d2.now.length = n := ⟨_, rfl⟩
    rw [hn] at q0 q1 hcp
    clear hD hok H H3 hc0 hc01 hc1 hc11 hn
    go_wp2_with fail
    go_region_law (refine step_copy_runI rfl _ _ 94 94 rfl (.slice (some ⟨g0, 0, none⟩) n c0) (.slice (some ⟨g1, 0, none⟩) n c1) (by simp [Act.eval, Act.put]) (by simp [Act.eval, Act.put]) hcp ?_)
    all_goals (go_wp2_with fail; go_ret; exact ⟨rfl, unhide HF⟩)
#print axioms flush_calls
end Go.Proofs.Ytcjfhfalffngjaa
