/-
  The contracts of the document's disk: Flush, Restart, over the seat's program.
-/
import Derived.Test.YtlibbkdpkpaglaaRWrite
namespace Go.Proofs.Ytlibbkdpkpaglaa
open Go.RowKit
set_option maxRecDepth 100000
set_option linter.unusedVariables false
set_option linter.unusedSimpArgs false

variable (w0 w : World) (rb : Nat) (r : DK) (l2 : List Res)

/-- A copy of a row of texts. -/
theorem Hold.cloneT {w0 w : World} {rs : List Res} (H : Hold w0 w rs) {v : Value} {L : List (List UInt8)} (hm : rowT v L ∈ rs) (hL : L.length ≤ 1000) :
    ∃ p c v' w', v = .slice p L.length c ∧ (Builtin.append_ #[47, 47] 47 #[.slice none 0 0, .slice p L.length c]).run Try.prog w = .ok v' w' ∧ Hold w0 w' (rowT v' L :: rs) := by
  have hr := H.rowAt hm
  have H1 := H.nilRow 9 1
  rcases hr.2 with ⟨hv, hn⟩ | ⟨g, cap, cur, hv, _, _, _⟩
  · obtain ⟨v', w', h1, h2, _⟩ := H1.append [] 47 47 Try.underlying47 infoS (by decide) (by decide) none 0 0 [] rfl (fun h => by omega) (fun _ => ⟨rfl, rfl⟩) (fun u hu => by simp at hu) (by omega)
    have hL0 : L = [] := List.eq_nil_of_length_eq_zero hn
    subst hL0
    exact ⟨none, 0, v', w', hv, h1, h2⟩
  · have hm' : Res.row (.slice (some ⟨g, 0, none⟩) L.length cap) 9 1 L.length (wantV L) ∈ Res.row (.slice none 0 0) 9 1 0 [] :: rs := by rw [← hv]; exact .tail _ hm
    obtain ⟨v', w', h1, h2, _⟩ := H1.append [] 47 47 Try.underlying47 infoS (by decide) (by decide) (some ⟨g, 0, none⟩) L.length cap (wantV L) (by rw [wantV_length, Nat.mul_one]) (fun _ => ⟨g, 0, rfl, fun j u hj => by rw [Nat.zero_add]; exact H1.rowCell hm' hj⟩) (fun h => by cases h) (wantV_one L) (by omega)
    refine ⟨_, _, v', w', hv, h1, ?_⟩
    rw [Nat.zero_add] at h2
    exact h2

def RFlushEnd (e : Ending) (w' : World) : Prop := e = .returned (.int .i64 (noE r.flushE)) ∧ RefIn w0 w' rb r.rflushed l2

set_option maxHeartbeats 2000000 in
theorem rflush_calls (h : RefIn w0 w rb r l2) : Calls Try.prog 21 #[.pointer (some ⟨rb, 0, none⟩)] w fun e w' => RFlushEnd w0 rb r l2 e w' := by
  have e2 := rstep_calls w0 w rb r l2 h
  unfold RFlushEnd
  unfold RStepEnd at e2
  cases hf : r.fall with
  | true =>
    have hfe : r.flushE = some 10 := by unfold DK.flushE; rw [hf]; rfl
    have hfd : r.rflushed = r.rstep := by unfold DK.rflushed; rw [hf]; rfl
    rw [hfe] at e2 ⊢
    rw [hfd]
    simp only [noE, Option.getD_some] at e2 ⊢
    have E2 := hide e2
    clear e2 h hf hfe hfd
    go_enter Try.func21, Try.ntmps21
    go_wp2_with fail
    refine (unhide E2).mono ?_
    rintro e w2 ⟨rfl, hD⟩
    have HD := hide hD
    clear hD E2
    go_wp2_with fail
    go_ret
    exact ⟨rfl, unhide HD⟩
  | false =>
    have hfe : r.flushE = none := by unfold DK.flushE; rw [hf]; rfl
    have hfd : r.rflushed = r.rstep.firm := by unfold DK.rflushed; rw [hf]; rfl
    rw [hfe] at e2 ⊢
    rw [hfd]
    simp only [noE, Option.getD_none] at e2 ⊢
    have E2 := hide e2
    clear e2 h hf hfe hfd
    generalize r.rstep = r2 at *
    go_enter Try.func21, Try.ntmps21
    go_wp2_with fail
    refine (unhide E2).mono ?_
    rintro e w2 ⟨rfl, hD⟩
    clear E2
    have hok := hD.ok
    obtain ⟨v0, v1, v2, H⟩ := hD.mem
    have q1 : w2.cell? ⟨rb, 1, none⟩ = some v1 := H.cellAt (.head _) rfl
    obtain ⟨p, c, v', w3, hv1, hap, H3⟩ := H.cloneT (v := v1) (L := r2.now) (.tail _ (.tail _ (.head _))) (by have := hok.few; omega)
    subst hv1
    have q0 : w3.cell? ⟨rb, 0, none⟩ = some v0 := H3.cellAt (.tail _ (.head _)) rfl
    have f0 : w3.frozen? ⟨rb, 0, none⟩ = false := H3.frozenAt (.tail _ (.head _)) 0
    obtain ⟨p', c', hv', _, _⟩ := row_slice (H3.rowAt (v := v') (.head _))
    subst hv'
    have h4 := H3.store [_] 0 (.slice p' r2.now.length c') _ rfl
    have q2 : (w3.setCell ⟨rb, 0, none⟩ (.slice p' r2.now.length c')).cell? ⟨rb, 2, none⟩ = some v2 := h4.cellAt (.tail _ (.head _)) rfl
    have f2 : (w3.setCell ⟨rb, 0, none⟩ (.slice p' r2.now.length c')).frozen? ⟨rb, 2, none⟩ = false := h4.frozenAt (.tail _ (.head _)) 2
    have h5 := h4.store [_] 2 (.slice none 0 0) _ rfl
    have HF : Hid (RefIn w0 ((w3.setCell ⟨rb, 0, none⟩ (.slice p' r2.now.length c')).setCell ⟨rb, 2, none⟩ (.slice none 0 0)) rb r2.firm l2) := by
      refine ⟨hok.firm, .slice p' r2.now.length c', .slice p r2.now.length c, .slice none 0 0, ?_⟩
      have h6 := (((h5.forget [_, _]).forget [_, _, _]).front [_]).nilRow 107 2
      exact h6.back [_, _, _]
    clear hD hok H H3 h4 h5
    go_wp2_with (at_builtin; refine wpList_appendI rfl _ _ 47 47 rfl (.slice none 0 0) (.slice p r2.now.length c) rfl rfl hap ?_)
    go_ret
    exact ⟨rfl, unhide HF⟩
#print axioms rflush_calls
end Go.Proofs.Ytlibbkdpkpaglaa
