/-
  The contract of the document's NewDisk, over the seat's program.
-/
import Derived.Test.YtlibbkdpkpaglaaRRestart
namespace Go.Proofs.Ytlibbkdpkpaglaa
open Go.RowKit
set_option maxRecDepth 100000
set_option linter.unusedVariables false
set_option linter.unusedSimpArgs false

/-- A call of a function with one argument, as one step of a region that draws. -/
theorem step_call1I {P : Program} {ops : Array Oper} {o : Oper} {a : Act} {w : World} {K : Act → World → Prop} {Q : Exit → Act → World → Prop} {E : Prop}
    (hg : o.guard = none) (f : FuncId) {fn : Func} (hfn : P.funcs[f]? = some fn) (hnm : ¬ (fn.name = "runtime.NumGoroutine")) (hbd : ¬ (fn.body = none)) (x : Operand) (t : TypeId) (hop : o.op = Op.call { callee := Callee.value (Operand.func f), args := #[x], argTypes := #[t] })
    (v : Value) (hx : a.eval x = v) {R : Ending → World → Prop} (hc : Calls P f #[v] w R) (hK : ∀ e w', R e w' → ∃ u, e = .returned u ∧ K (a.put o.dst u) w') :
    if Region.wanted o (yielded ops a.tmps) = true then Oper.wp P o a w K Q else E := by
  have hw : Region.wanted o (yielded ops a.tmps) = true := by simp [Region.wanted, hg]
  rw [if_pos hw]
  unfold Oper.wp
  have hr : (execOp a.eval o).run P w = .ok (.enter f #[v]) w := by
    simp [execOp, hop, resolve, invoke, hx, Act.eval, Deferred.ofValue, callFunc, Result.andThen, hfn, hnm, hbd]
    rw [← hx]
    cases x <;> simp [Act.eval, Array.getD_eq_getD_getElem?]
  rw [hr, Oper.upon_enter]
  refine hc.mono ?_
  intro e w' hr
  obtain ⟨u, rfl, hk⟩ := hK e w' hr
  exact hk
theorem nm57 : ¬ (Try.f57.name = "runtime.NumGoroutine") := by decide
theorem bd57 : ¬ (Try.f57.body = none) := by intro h; cases h

variable (w0 w : World) (l2 : List Res)

/-- While it is made. -/
def MakeIn (w : World) (rb : Nat) (v0 v1 : Value) (K N : List (List UInt8)) : Prop := Hold w0 w ([.cell rb 50 [v0, v1, .slice none 0 0, .int .i64 (-1), .bool false], rowT v0 K, rowT v1 N] ++ l2)
/-- A text behind the kept ones. -/
theorem make_kept {rb : Nat} {v0 v1 : Value} {K N : List (List UInt8)} {s : List UInt8} (wx : World) (H : MakeIn w0 l2 wx rb v0 v1 K N) (hK : K.length ≤ 1000) :
    ∃ v' w', (Builtin.append_ #[47, 47] 47 #[v0, .slice (some ⟨wx.heap.size, 0, none⟩) 1 1]).run Try.prog (wx.alloc (.cells #[.string ⟨s.toArray⟩] 9)) = .ok v' w' ∧ w'.cell? ⟨rb, 0, none⟩ = some v0 ∧ w'.frozen? ⟨rb, 0, none⟩ = false ∧ (∃ p c, v' = .slice p (K.length + 1) c) ∧ MakeIn w0 l2 (w'.setCell ⟨rb, 0, none⟩ v') rb v' v1 (K ++ [s]) N := by
  have h1 := Hold.made H 9 [.string ⟨s.toArray⟩]
  obtain ⟨v', w', h2, h3, _⟩ := Hold.append [_, _] h1 47 47 Try.underlying47 infoS (by decide) (by decide) (some ⟨wx.heap.size, 0, none⟩) 1 1 [.string ⟨s.toArray⟩] rfl (fun _ => ⟨wx.heap.size, 0, rfl, fun j u hj => by rw [Nat.zero_add]; exact h1.cellAt (.head _) hj⟩) (fun h => by cases h) (by simp; rfl) (by omega)
  refine ⟨v', w', h2, h3.cellAt (.tail _ (.head _)) rfl, h3.frozenAt (.tail _ (.head _)) 0, ?_, ?_⟩
  · obtain ⟨p, c, h4, _⟩ := row_slice (h3.rowAt (.tail _ (.tail _ (.head _))))
    exact ⟨p, c, h4⟩
  · have h4 := (h3.store [_] 0 v' _ rfl).forget []
    unfold MakeIn rowT
    rw [wantV_snoc, List.length_append]
    exact h4
theorem make_now {rb : Nat} {v0 v1 : Value} {K N : List (List UInt8)} {s : List UInt8} (wx : World) (H : MakeIn w0 l2 wx rb v0 v1 K N) (hK : N.length ≤ 1000) :
    ∃ v' w', (Builtin.append_ #[47, 47] 47 #[v1, .slice (some ⟨wx.heap.size, 0, none⟩) 1 1]).run Try.prog (wx.alloc (.cells #[.string ⟨s.toArray⟩] 9)) = .ok v' w' ∧ w'.cell? ⟨rb, 1, none⟩ = some v1 ∧ w'.frozen? ⟨rb, 1, none⟩ = false ∧ (∃ p c, v' = .slice p (N.length + 1) c) ∧ MakeIn w0 l2 (w'.setCell ⟨rb, 1, none⟩ v') rb v0 v' K (N ++ [s]) := by
  have h1 := Hold.made H 9 [.string ⟨s.toArray⟩]
  obtain ⟨v', w', h2, h3, _⟩ := Hold.append [_, _, _] h1 47 47 Try.underlying47 infoS (by decide) (by decide) (some ⟨wx.heap.size, 0, none⟩) 1 1 [.string ⟨s.toArray⟩] rfl (fun _ => ⟨wx.heap.size, 0, rfl, fun j u hj => by rw [Nat.zero_add]; exact h1.cellAt (.head _) hj⟩) (fun h => by cases h) (by simp; rfl) (by omega)
  refine ⟨v', w', h2, h3.cellAt (.tail _ (.head _)) rfl, h3.frozenAt (.tail _ (.head _)) 1, ?_, ?_⟩
  · obtain ⟨p, c, h4, _⟩ := row_slice (h3.rowAt (.tail _ (.tail _ (.tail _ (.head _)))))
    exact ⟨p, c, h4⟩
  · have h4 := (h3.store [_] 1 v' _ rfl).forget []
    unfold MakeIn rowT
    rw [wantV_snoc, List.length_append]
    exact h4

theorem rnew_bad (n : Int) (hn : n < 1 ∨ 130 < n) :
    Calls Try.prog 13 #[.int .i64 n] w fun e w' => e = .returned (.tuple #[.pointer none, .int .i64 1]) ∧ w' = w := by
  by_cases h1 : n < 1
  · go_enter Try.func13, Try.ntmps13
    go_wp2_with fail
    go_ret2
    exact ⟨rfl, rfl⟩
  · have h2 : 130 < n := hn.resolve_left h1
    go_enter Try.func13, Try.ntmps13
    go_wp2_with fail
    go_ret2
    exact ⟨rfl, rfl⟩

def RNewEnd (n : Nat) (e : Ending) (w' : World) : Prop := ∃ rb, e = .returned (.tuple #[.pointer (some ⟨rb, 0, none⟩), .int .i64 0]) ∧ RefIn w0 w' rb (newP n) l2

set_option maxHeartbeats 2000000 in
theorem rnew_calls (h : Hold w0 w l2) (n : Nat) (h1 : 0 < n) (h2 : n ≤ 130) :
    Calls Try.prog 13 #[.int .i64 n] w fun e w' => RNewEnd w0 l2 n e w' := by
  have z1 : ¬ (n : Int) < 1 := by omega
  have z2 : ¬ 130 < (n : Int) := by omega
  obtain ⟨rb, hrb⟩ : ∃ rb, w.heap.size = rb := ⟨_, rfl⟩
  have h3 := ((h.nilRow 9 1).nilRow 9 1).made 50 [.slice none 0 0, .slice none 0 0, .slice none 0 0, .int .i64 (-1), .bool false]
  rw [hrb] at h3
  have HM : Hid (MakeIn w0 l2 (w.alloc (.cells [.slice none 0 0, .slice none 0 0, .slice none 0 0, .int .i64 (-1), .bool false].toArray 50)) rb (.slice none 0 0) (.slice none 0 0) (List.replicate 0 nought) (List.replicate 0 nought)) := h3
  have EC : Hid (∀ wx, Calls Try.prog 57 #[.int .i64 140] wx fun e w' => e = .returned (.string ⟨nought.toArray⟩) ∧ ∃ o, w' = wx.alloc o) := fun wx => noughts_calls 140 (by omega) wx
  have EK : Hid (∀ wx v0 v1 K N, MakeIn w0 l2 wx rb v0 v1 K N → K.length ≤ 1000 → ∃ v' w', (Builtin.append_ #[47, 47] 47 #[v0, .slice (some ⟨wx.heap.size, 0, none⟩) 1 1]).run Try.prog (wx.alloc (.cells #[.string ⟨nought.toArray⟩] 9)) = .ok v' w' ∧ w'.cell? ⟨rb, 0, none⟩ = some v0 ∧ w'.frozen? ⟨rb, 0, none⟩ = false ∧ (∃ p c, v' = .slice p (K.length + 1) c) ∧ MakeIn w0 l2 (w'.setCell ⟨rb, 0, none⟩ v') rb v' v1 (K ++ [nought]) N) := fun wx v0 v1 K N hx hl => make_kept w0 l2 wx hx hl
  have EN : Hid (∀ wx v0 v1 K N, MakeIn w0 l2 wx rb v0 v1 K N → N.length ≤ 1000 → ∃ v' w', (Builtin.append_ #[47, 47] 47 #[v1, .slice (some ⟨wx.heap.size, 0, none⟩) 1 1]).run Try.prog (wx.alloc (.cells #[.string ⟨nought.toArray⟩] 9)) = .ok v' w' ∧ w'.cell? ⟨rb, 1, none⟩ = some v1 ∧ w'.frozen? ⟨rb, 1, none⟩ = false ∧ (∃ p c, v' = .slice p (N.length + 1) c) ∧ MakeIn w0 l2 (w'.setCell ⟨rb, 1, none⟩ v') rb v0 v' K (N ++ [nought])) := fun wx v0 v1 K N hx hl => make_now w0 l2 wx hx hl
  obtain ⟨NS, hNS⟩ : ∃ NS : ByteArray, ⟨nought.toArray⟩ = NS := ⟨_, rfl⟩
  rw [hNS] at EC EK EN
  clear h h3 hNS
  go_enter Try.func13, Try.ntmps13
  go_wp2_with fail
  clear hrb
  go_loopg [5] (n + 1) (fun g vi wr => ∃ (i : Nat) (v0 v1 : Value), n - i < g ∧ i ≤ n ∧ vi = .int .i64 i ∧ Hid (MakeIn w0 l2 wr rb v0 v1 (List.replicate i nought) (List.replicate i nought)))
  case atStart => exact ⟨0, _, _, by omega, by omega, rfl, HM⟩
  case round =>
    obtain ⟨i, v0, v1, hg, hi, rfl, HMi⟩ := hrel
    by_cases hin : i < n
    · have hiz : (i : Int) < (n : Int) := by omega
      have HK := hide (unhide EK)
      have hM := unhide HMi
      obtain ⟨p0, c0, hv0, _⟩ := row_slice (Hold.rowAt hM (v := v0) (.tail _ (.head _)))
      obtain ⟨p1, c1, hv1, _⟩ := row_slice (Hold.rowAt hM (v := v1) (.tail _ (.tail _ (.head _))))
      subst hv0 hv1
      simp only [List.length_replicate] at HMi hM
      have k4 : wr.cell? ⟨rb, 0, none⟩ = some (.slice p0 i c0) := Hold.cellAt hM (.head _) rfl
      clear hM
      go_wp2_with fail
      go_cut [] from 19 to 28 (fun wc => ∃ v', Hid (MakeIn w0 l2 wc rb v' (.slice p1 i c1) (List.replicate (i + 1) nought) (List.replicate i nought)))
      case first =>
        go_region_law (first
          | (refine step_call1I rfl 57 Try.func57 nm57 bd57 _ 3 rfl (.int .i64 140) (by simp [Act.eval, Act.put]) (unhide EC _) ?_
             rintro e w5 ⟨rfl, o5, hw5⟩
             refine ⟨_, rfl, ?_⟩
             have H5 : MakeIn w0 l2 w5 rb (.slice p0 i c0) (.slice p1 i c1) (List.replicate i nought) (List.replicate i nought) := by rw [hw5]; exact Hold.alloc (Hold.drew (unhide HMi)) o5
             have k5 : w5.cell? ⟨rb, 0, none⟩ = some (.slice p0 i c0) := Hold.cellAt H5 (.head _) rfl
             have k5a : ∀ o, (w5.alloc o).cell? ⟨rb, 0, none⟩ = some (.slice p0 i c0) := fun o => Hold.cellAt (Hold.alloc H5 o) (.head _) rfl
             have HH5 := hide H5
             clear H5 hw5)
          | (obtain ⟨v6, w6, hr6, k6, kf6, ⟨p6, c6, hv6⟩, H6⟩ := unhide EK w5 _ _ _ _ (unhide HH5) (by simp; omega)
             subst hv6
             have HH6 := hide H6
             clear H6
             refine step_append_runI rfl _ _ 47 47 rfl (.slice p0 i c0) (.slice (some ⟨w5.heap.size, 0, none⟩) 1 1) (by simp [Act.eval, Act.put]) (by simp [Act.eval, Act.put]) hr6 ?_
             clear hr6))
        all_goals
          go_wp2_with fail
          go_meet
          exact ⟨.slice p6 (i + 1) c6, by have h9 := unhide HH6; rw [List.length_replicate] at h9; rw [List.replicate_succ']; exact h9⟩
      case rest =>
        obtain ⟨v0', HMc⟩ := hcut
        have hM := unhide HMc
        have k4 : wc.cell? ⟨rb, 1, none⟩ = some (.slice p1 i c1) := Hold.cellAt hM (.head _) rfl
        clear hM
        go_wp2_with fail
        go_region_law (first
          | (refine step_call1I rfl 57 Try.func57 nm57 bd57 _ 3 rfl (.int .i64 140) (by simp [Act.eval, Act.put]) (unhide EC _) ?_
             rintro e w5 ⟨rfl, o5, hw5⟩
             refine ⟨_, rfl, ?_⟩
             have H5 : MakeIn w0 l2 w5 rb v0' (.slice p1 i c1) (List.replicate (i + 1) nought) (List.replicate i nought) := by rw [hw5]; exact Hold.alloc (Hold.drew (unhide HMc)) o5
             have k5 : w5.cell? ⟨rb, 1, none⟩ = some (.slice p1 i c1) := Hold.cellAt H5 (.head _) rfl
             have k5a : ∀ o, (w5.alloc o).cell? ⟨rb, 1, none⟩ = some (.slice p1 i c1) := fun o => Hold.cellAt (Hold.alloc H5 o) (.head _) rfl
             have HH5 := hide H5
             clear H5 hw5)
          | (obtain ⟨v6, w6, hr6, k6, kf6, ⟨p6, c6, hv6⟩, H6⟩ := unhide EN w5 _ _ _ _ (unhide HH5) (by simp; omega)
             subst hv6
             have HH6 := hide H6
             clear H6
             refine step_append_runI rfl _ _ 47 47 rfl (.slice p1 i c1) (.slice (some ⟨w5.heap.size, 0, none⟩) 1 1) (by simp [Act.eval, Act.put]) (by simp [Act.eval, Act.put]) hr6 ?_
             clear hr6))
        all_goals
          go_wp2_with fail
          go_roundg (n - i)
          case measure => omega
          case rel => exact ⟨i + 1, v0', .slice p6 (i + 1) c6, by omega, by omega, by simp, by have h9 := unhide HH6; rw [List.length_replicate] at h9; show MakeIn _ _ _ _ _ _ _ (List.replicate (i + 1) nought); rw [show List.replicate (i + 1) nought = List.replicate i nought ++ [nought] from List.replicate_succ'] at h9 ⊢; exact h9⟩
    · have hiz : ¬ (i : Int) < (n : Int) := by omega
      obtain rfl : i = n := by omega
      go_wp2_with fail
      go_ret2
      refine ⟨rb, rfl, newP_ok h1 h2, v0, v1, .slice none 0 0, ?_⟩
      have h9 : Hold w0 wr ([.cell rb 50 [v0, v1, .slice none 0 0, .int .i64 (-1), .bool false], rowT v0 (List.replicate i nought), rowT v1 (List.replicate i nought)] ++ l2) := unhide HMi
      exact (h9.nilRow 107 2).back [_, _, _]
#print axioms rnew_calls
end Go.Proofs.Ytlibbkdpkpaglaa
