/-
  The contract of the document's disk: Restart, over the seat's program.
-/
import Derived.Test.YtlibbkdpkpaglaaRFlush
namespace Go.Proofs.Ytlibbkdpkpaglaa
open Go.RowKit
set_option maxRecDepth 100000
set_option linter.unusedVariables false
set_option linter.unusedSimpArgs false

variable (w0 w : World) (rb : Nat) (r : DK) (l2 : List Res)

set_option maxHeartbeats 2000000 in
theorem rrestart_calls (h : RefIn w0 w rb r l2) (hm : r.wr.length ≤ 100000) (k : Nat) (hk : k < 18446744073709551616) :
    Calls Try.prog 24 #[.pointer (some ⟨rb, 0, none⟩), .int .u64 (k : Int)] w fun e w' => e = .returned (.tuple #[]) ∧ RefIn w0 w' rb (r.again k) l2 := by
  have hok := h.ok
  obtain ⟨v0, v1, v2, H⟩ := h.mem
  have Hok := hide hok
  have HM : Hid (Hold w0 w (refL rb v0 v1 v2 { r with kept := keepL k 0 (r.wr.take 0) r.kept } ++ l2)) := H
  obtain ⟨p2, c2, hv2, _, _⟩ := row_slice (H.rowAt (v := v2) (.tail _ (.tail _ (.tail _ (.head _)))))
  subst hv2
  obtain ⟨g0, c0, hv0, _, _⟩ := row_shape (H.rowAt (v := v0) (.tail _ (.head _))) (by have := hok.pos; have := hok.same; omega)
  subst hv0
  clear H h hok
  go_enter Try.func24, Try.ntmps24
  go_wp2_with fail
  go_loopg [4] (r.wr.length + 1) (fun g vi wr => ∃ (i : Nat), r.wr.length - i < g ∧ i ≤ r.wr.length ∧ vi = .int .i64 i ∧ Hid (Hold w0 wr (refL rb (.slice (some ⟨g0, 0, none⟩) r.kept.length c0) v1 (.slice p2 r.wr.length c2) { r with kept := keepL k 0 (r.wr.take i) r.kept } ++ l2)))
  case atStart => exact ⟨0, by omega, by omega, rfl, HM⟩
  case round =>
    obtain ⟨i, hg, hi, rfl, HMi⟩ := hrel
    have H := unhide HMi
    have q2 : wr.cell? ⟨rb, 2, none⟩ = some (.slice p2 r.wr.length c2) := H.cellAt (.head _) rfl
    by_cases hin : i < r.wr.length
    · have hiz : (i : Int) < (r.wr.length : Int) := by omega
      obtain ⟨g2, cap2, hp2, _, _⟩ := row_shape (H.rowAt (v := .slice p2 r.wr.length c2) (.tail _ (.tail _ (.tail _ (.head _))))) (by show 0 < r.wr.length; omega)
      injection hp2 with hp2 _ hcc
      subst hp2 hcc
      obtain ⟨⟨at_, s⟩, hx⟩ : ∃ x, r.wr[i]? = some x := ⟨_, List.getElem?_eq_getElem hin⟩
      have hxo := (unhide Hok).wr _ (List.mem_of_getElem? hx)
      simp only at hxo
      have hkn := keepL_next k i hx r.kept
      simp only at hkn
      have hbt := bit_test k (i % 64) hk
      obtain ⟨t0, t1⟩ := flatT_get hx
      have c0' := H.rowCell (.tail _ (.tail _ (.tail _ (.head _)))) t0
      have c1' := H.rowCell (.tail _ (.tail _ (.tail _ (.head _)))) t1
      have q0 : wr.cell? ⟨rb, 0, none⟩ = some (.slice (some ⟨g0, 0, none⟩) r.kept.length c0) := H.cellAt (.head _) rfl
      have hKl : (keepL k 0 (r.wr.take i) r.kept).length = r.kept.length := keepL_len _ _ _ _
      have hat : at_ < r.kept.length := by have := (unhide Hok).same; omega
      have H' : Hold w0 wr ([refR rb (.slice (some ⟨g0, 0, none⟩) r.kept.length c0) v1 (.slice (some ⟨g2, 0, none⟩) r.wr.length c2) r.left r.down] ++ .row (.slice (some ⟨g0, 0, none⟩) r.kept.length c0) 9 1 r.kept.length (wantV (keepL k 0 (r.wr.take i) r.kept)) :: rowT v1 r.now :: rowU (.slice (some ⟨g2, 0, none⟩) r.wr.length c2) r.wr :: l2) := by
        have h9 := H
        unfold refL at h9
        rw [show rowT (.slice (some ⟨g0, 0, none⟩) r.kept.length c0) (keepL k 0 (r.wr.take i) r.kept) = .row (.slice (some ⟨g0, 0, none⟩) r.kept.length c0) 9 1 r.kept.length (wantV (keepL k 0 (r.wr.take i) r.kept)) from by unfold rowT; rw [hKl]] at h9
        exact h9
      have ck := H'.rowCell (.tail _ (.head _)) (wantV_get (L := keepL k 0 (r.wr.take i) r.kept) (i := at_) (by rw [hKl]; exact hat))
      have fk := H'.rowFrozen (.tail _ (.head _)) at_
      have hnext : ∀ wx, Hold w0 wx ([refR rb (.slice (some ⟨g0, 0, none⟩) r.kept.length c0) v1 (.slice (some ⟨g2, 0, none⟩) r.wr.length c2) r.left r.down] ++ .row (.slice (some ⟨g0, 0, none⟩) r.kept.length c0) 9 1 r.kept.length (wantV (keepL k 0 (r.wr.take (i + 1)) r.kept)) :: rowT v1 r.now :: rowU (.slice (some ⟨g2, 0, none⟩) r.wr.length c2) r.wr :: l2) → Hold w0 wx (refL rb (.slice (some ⟨g0, 0, none⟩) r.kept.length c0) v1 (.slice (some ⟨g2, 0, none⟩) r.wr.length c2) { r with kept := keepL k 0 (r.wr.take (i + 1)) r.kept } ++ l2) := fun wx hh => by
        unfold refL
        rw [show rowT (.slice (some ⟨g0, 0, none⟩) r.kept.length c0) (keepL k 0 (r.wr.take (i + 1)) r.kept) = .row (.slice (some ⟨g0, 0, none⟩) r.kept.length c0) 9 1 r.kept.length (wantV (keepL k 0 (r.wr.take (i + 1)) r.kept)) from by unfold rowT; rw [keepL_len]]
        exact hh
      cases hb : k.testBit (i % 64) with
      | false =>
        rw [hb] at hbt hkn
        simp only [Bool.false_eq_true, if_false] at hkn
        have HF : Hid (Hold w0 wr (refL rb (.slice (some ⟨g0, 0, none⟩) r.kept.length c0) v1 (.slice (some ⟨g2, 0, none⟩) r.wr.length c2) { r with kept := keepL k 0 (r.wr.take (i + 1)) r.kept } ++ l2)) := hnext _ (by rw [hkn]; exact H')
        clear H H' hx hxo hkn hb HMi hnext t0 t1 c0' c1' ck fk hKl hat q0
        go_wp2_with fail
        go_roundg (r.wr.length - i)
        case measure => omega
        case rel => exact ⟨i + 1, by omega, by omega, by simp, HF⟩
      | true =>
        rw [hb] at hbt hkn
        simp only [if_true] at hkn
        obtain ⟨w4, hs4, H4, hg4⟩ := H'.lay [_] at_ [.string ⟨s.toArray⟩] (by rw [wantV_length, hKl]; simp; omega) (by simp; rfl)
        have hw4 : w4 = wr.setCell ⟨g0, at_, none⟩ (.string ⟨s.toArray⟩) := by
          have h1 := hs4 Try.prog
          simp only [storeCells, Sem.run_bind] at h1
          have h2 : (store ((⟨g0, at_, none⟩ : Addr).add 0) (.string ⟨s.toArray⟩)).run Try.prog wr = .ok () (wr.setCell ⟨g0, at_, none⟩ (.string ⟨s.toArray⟩)) := by
            rw [add_plain, Nat.add_zero, run_store Try.prog wr _ _ _ rfl, ck]
            simp [fk]
          rw [h2] at h1
          simp only [Result.andThen_ok, Sem.run_pure] at h1
          injection h1 with _ h1
          exact h1.symm
        have e4 : Go.splice (wantV (keepL k 0 (r.wr.take i) r.kept)) at_ [.string ⟨s.toArray⟩] = wantV (keepL k 0 (r.wr.take (i + 1)) r.kept) := by
          rw [hkn, ← wantV_set]
          have hkl : at_ < (wantV (keepL k 0 (r.wr.take i) r.kept)).length := by rw [wantV_length, hKl]; exact hat
          unfold Go.splice
          rw [List.set_eq_take_append_cons_drop, if_pos hkl]
          rfl
        rw [e4, hw4] at H4
        have HF : Hid (Hold w0 (wr.setCell ⟨g0, at_, none⟩ (.string ⟨s.toArray⟩)) (refL rb (.slice (some ⟨g0, 0, none⟩) r.kept.length c0) v1 (.slice (some ⟨g2, 0, none⟩) r.wr.length c2) { r with kept := keepL k 0 (r.wr.take (i + 1)) r.kept } ++ l2)) := hnext _ H4
        have hatz : (at_ : Int) < (r.kept.length : Int) := by omega
        clear H H' hx hxo hkn hb HMi hnext t0 t1 H4 hw4 hs4 hg4 e4 hKl
        go_wp2_with fail
        go_region
        all_goals
          go_wp2_with fail
          go_roundg (r.wr.length - i)
          case measure => omega
          case rel => exact ⟨i + 1, by omega, by omega, by simp, (unhide HF).drew⟩
    · have hiz : ¬ (i : Int) < (r.wr.length : Int) := by omega
      have hie : i = r.wr.length := by omega
      subst hie
      rw [List.take_length] at H
      have hagain := (unhide Hok).again k
      have q0 : wr.cell? ⟨rb, 0, none⟩ = some (.slice (some ⟨g0, 0, none⟩) r.kept.length c0) := H.cellAt (.head _) rfl
      have hKl : (keepL k 0 r.wr r.kept).length = r.kept.length := keepL_len _ _ _ _
      obtain ⟨p, c, v', w3, hv0, hap, H3⟩ := H.cloneT (v := .slice (some ⟨g0, 0, none⟩) r.kept.length c0) (L := keepL k 0 r.wr r.kept) (.tail _ (.head _)) (by have := (unhide Hok).few; have := (unhide Hok).same; omega)
      injection hv0 with hp0 hmid hcc
      subst hp0 hcc
      clear hmid
      rw [hKl] at hap
      have q1 : w3.cell? ⟨rb, 1, none⟩ = some v1 := H3.cellAt (.tail _ (.head _)) rfl
      have f1 : w3.frozen? ⟨rb, 1, none⟩ = false := H3.frozenAt (.tail _ (.head _)) 1
      obtain ⟨p', c', hv', _, _⟩ := row_slice (H3.rowAt (v := v') (.head _))
      rw [hKl] at hv'
      subst hv'
      have h4 := H3.store [_] 1 (.slice p' r.kept.length c') _ rfl
      have q2' : (w3.setCell ⟨rb, 1, none⟩ (.slice p' r.kept.length c')).cell? ⟨rb, 2, none⟩ = some (.slice p2 r.wr.length c2) := h4.cellAt (.tail _ (.head _)) rfl
      have f2 : (w3.setCell ⟨rb, 1, none⟩ (.slice p' r.kept.length c')).frozen? ⟨rb, 2, none⟩ = false := h4.frozenAt (.tail _ (.head _)) 2
      have h5 := h4.store [_] 2 (.slice none 0 0) _ rfl
      have q4' : ((w3.setCell ⟨rb, 1, none⟩ (.slice p' r.kept.length c')).setCell ⟨rb, 2, none⟩ (.slice none 0 0)).cell? ⟨rb, 4, none⟩ = some (.bool r.down) := h5.cellAt (.tail _ (.head _)) rfl
      have f4 : ((w3.setCell ⟨rb, 1, none⟩ (.slice p' r.kept.length c')).setCell ⟨rb, 2, none⟩ (.slice none 0 0)).frozen? ⟨rb, 4, none⟩ = false := h5.frozenAt (.tail _ (.head _)) 4
      have h6 := h5.store [_] 4 (.bool false) _ rfl
      have q3' : (((w3.setCell ⟨rb, 1, none⟩ (.slice p' r.kept.length c')).setCell ⟨rb, 2, none⟩ (.slice none 0 0)).setCell ⟨rb, 4, none⟩ (.bool false)).cell? ⟨rb, 3, none⟩ = some (.int .i64 r.left) := h6.cellAt (.tail _ (.head _)) rfl
      have f3 : (((w3.setCell ⟨rb, 1, none⟩ (.slice p' r.kept.length c')).setCell ⟨rb, 2, none⟩ (.slice none 0 0)).setCell ⟨rb, 4, none⟩ (.bool false)).frozen? ⟨rb, 3, none⟩ = false := h6.frozenAt (.tail _ (.head _)) 3
      have h7 := h6.store [_] 3 (.int .i64 (-1)) _ rfl
      have HF : Hid (RefIn w0 ((((w3.setCell ⟨rb, 1, none⟩ (.slice p' r.kept.length c')).setCell ⟨rb, 2, none⟩ (.slice none 0 0)).setCell ⟨rb, 4, none⟩ (.bool false)).setCell ⟨rb, 3, none⟩ (.int .i64 (-1))) rb (r.again k) l2) := by
        refine ⟨hagain, .slice (some ⟨g0, 0, none⟩) r.kept.length c0, .slice p' r.kept.length c', .slice none 0 0, ?_⟩
        have h8 := ((h7.forget [_, _, _]).forget [_, _, _])
        exact ((h8.back [_, _]).nilRow 107 2).back [_, _, _]
      clear H H3 h4 h5 h6 h7 hagain hKl HMi
      go_wp2_with (at_builtin; refine wpList_appendI rfl _ _ 47 47 rfl (.slice none 0 0) (.slice (some ⟨g0, 0, none⟩) r.kept.length c0) rfl rfl hap ?_)
      go_end0
      exact ⟨rfl, unhide HF⟩
#print axioms rrestart_calls
end Go.Proofs.Ytlibbkdpkpaglaa
