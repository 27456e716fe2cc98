/-
  The contract of the document's Store.Commit.
-/
import Derived.Test.YtcjfhfalffngjaaCSKpt
import Derived.Test.YtcjfhfalffngjaaCCRefW
namespace Go.Proofs.Ytcjfhfalffngjaa
open Go.RowKit Go.Lib
set_option maxRecDepth 100000
set_option linter.unusedVariables false
set_option linter.unusedSimpArgs false

def refSR (mb : Nat) (v : Value) (used many : Nat) : Res := .cell mb 83 [v, .int .i64 used, .int .i64 many]
/-- Why a deed is refused. -/
def commitF (many : Nat) (L l : List ChD) : Option Int := if 12 < l.length then some 2 else match faultL l with
  | some k => some k
  | none => if 64 < (applyP L l).length ∨ many < l.length + 1 then some 9 else none
def commitU (many used : Nat) (l : List ChD) : Nat := (if many - used < l.length + 1 then 0 else used) + (l.length + 1)
theorem appliedL_calls (va vb : Value) (A B : List ChD) (w : World) (ha : ChL w va A) (hb : ChL w vb B) (hsa : Shaped va) (hsb : Shaped vb) (hs : Sorted A) (hna : A.length ≤ 75) (hnb : B.length ≤ 20) :
    Calls Try.prog 37 #[va, vb] w fun e w' => ∃ v', e = .returned v' ∧ Hold w w' [rowI v' (applyP A B)] := by
  have h := applied_calls va A.length _ vb B.length _ w ha hb hsa hsb (by rw [listOf_getD]; exact hs) hna hnb
  rw [listOf_getD, listOf_getD] at h
  exact h
def RefSEnd (w0 : World) (mb : Nat) (l2 : List Res) (v : Value) (L l : List ChD) (used many : Nat) (e : Ending) (w' : World) : Prop :=
  (∃ k, commitF many L l = some k ∧ e = .returned (.int .i64 k) ∧ Hold w0 w' (refSR mb v used many :: rowI v L :: l2)) ∨ (commitF many L l = none ∧ e = .returned (.int .i64 0) ∧ ∃ v', Hold w0 w' (refSR mb v' (commitU many used l) many :: rowI v' (applyP L l) :: l2))

set_option maxHeartbeats 4000000 in
theorem refCommit_calls {w0 w : World} {mb : Nat} {v : Value} {L : List ChD} {used many : Nat} {l2 : List Res} (h : Hold w0 w (refSR mb v used many :: rowI v L :: l2)) (hL : L.length ≤ 64) (hs : Sorted L) (hum : used ≤ many) (hm : many ≤ 1000) (vc : Value) (l : List ChD) (hc : ChL w vc l) (hsc : Shaped vc) (hl : l.length ≤ 1000000) :
    Calls Try.prog 49 #[.pointer (some ⟨mb, 0, none⟩), vc] w fun e w' => RefSEnd w0 mb l2 v L l used many e w' := by
  obtain ⟨pc, cc, hvc⟩ := ChOk.slice hc
  subst hvc
  obtain ⟨n, hn⟩ : ∃ n, l.length = n := ⟨_, rfl⟩
  have HC : Hid (ChOk w (.slice pc n cc) n (fun i => l.getD i chZ)) := by have := hc; unfold ChL at this; rw [hn] at this; exact this
  rw [hn] at hl hsc ⊢
  have Hn := hide hn
  have HH := hide h
  have Hs := hide hs
  have Hsc := hide hsc
  have Hsv := hide (rowI_shape h (v := v) (L := L) (.tail _ (.head _)))
  clear h hs hc hsc
  by_cases h12 : 12 < n
  · have hz : (12 : Int) < (n : Int) := by omega
    have hF : commitF many L l = some 2 := by unfold commitF; rw [hn, if_pos h12]
    have HF := hide hF
    clear hF hn
    go_enter Try.func49, Try.ntmps49
    go_wp2_with fail
    go_ret
    exact .inl ⟨2, unhide HF, rfl, unhide HH⟩
  have hz : ¬ (12 : Int) < (n : Int) := by omega
  have hF0 : commitF many L l = match faultL l with | some k => some k | none => if 64 < (applyP L l).length ∨ many < n + 1 then some 9 else none := by unfold commitF; rw [hn, if_neg h12]
  have HF0 := hide hF0
  clear hF0 hn
  go_enter Try.func49, Try.ntmps49
  go_wp2_with fail
  go_loopg [5, 6] (n + 1) (fun g vi v6 wr => ∃ (i : Nat), n - i < g ∧ i ≤ n ∧ vi = .int .i64 i ∧ Hid (Below w.heap.size w wr) ∧ Hid (faultL (l.take i) = none))
  case atStart => exact ⟨0, by omega, by omega, rfl, Below.refl _ _, rfl⟩
  case round =>
    obtain ⟨i, hg, hi, rfl, HB, HF⟩ := hrel
    by_cases hin : i < n
    · have hiz : (i : Int) < (n : Int) := by omega
      rcases unhide HC with ⟨_, h0⟩ | ⟨b, off, c, hv, _, hbW, hcells⟩
      · omega
      injection hv with e1 e2 e3
      subst e1 e3
      clear e2
      obtain ⟨t0, t1, t2⟩ := hcells i hin
      simp only at t0 t1 t2
      have q0 := (cell_below (unhide HB) (p := ⟨b, off + i * 3, none⟩) hbW).trans t0
      have q1 := (cell_below (unhide HB) (p := ⟨b, off + i * 3 + 1, none⟩) hbW).trans t1
      have q2 := (cell_below (unhide HB) (p := ⟨b, off + i * 3 + 2, none⟩) hbW).trans t2
      have hget : l[i]? = some (l.getD i chZ) := by rw [List.getD, List.getElem?_eq_getElem (by rw [unhide Hn]; exact hin)]; rfl
      obtain ⟨hf1, hf2⟩ := faultL_take hget (unhide HF)
      obtain ⟨⟨xk, xv, xg⟩, hx⟩ : ∃ x, l.getD i chZ = x := ⟨_, rfl⟩
      rw [hx] at q0 q1 q2 hf1 hf2
      simp only at q0 q1 q2
      have e33 := fault_calls ⟨xk, xv, xg⟩ wr
      unfold chV at e33
      simp only at e33
      cases hck : checkP ⟨xk, xv, xg⟩ with
      | some kf =>
        have hkp := checkP_pos _ kf hck
        rw [hck] at e33 hf2
        simp only [noE, Option.getD_some] at e33
        have hF : commitF many L l = some kf := by rw [unhide HF0, hf2 rfl]
        have E33 := hide e33
        have HFk := hide hF
        clear e33 hf1 hf2 hF hget hcells t0 t1 t2 hx hck
        go_wp2_with fail
        refine (unhide E33).mono ?_
        rintro e w2 ⟨rfl, hb2⟩
        have HH2 := hide ((unhide HH).over ((unhide HB).trans (hb2.mono (unhide HB).size)))
        clear hb2 E33
        go_wp2_with fail
        go_ret
        exact .inl ⟨kf, unhide HFk, rfl, unhide HH2⟩
      | none =>
        rw [hck] at e33 hf1
        simp only [noE, Option.getD_none] at e33
        have E33 := hide e33
        have HF1 := hide hf1
        clear e33 hf1 hf2 hget hcells t0 t1 t2 hx hck
        go_wp2_with fail
        refine (unhide E33).mono ?_
        rintro e w2 ⟨rfl, hb2⟩
        have HB2 := hide ((unhide HB).trans (hb2.mono (unhide HB).size))
        clear hb2 E33
        go_wp2_with fail
        go_roundg (n - i)
        case measure => omega
        case rel => exact ⟨i + 1, by omega, by omega, by simp, HB2, HF1⟩
    · have hiz : ¬ (i : Int) < (n : Int) := by omega
      have hft := unhide HF
      rw [List.take_of_length_le (by rw [unhide Hn]; omega)] at hft
      have h1 := (unhide HH).over (unhide HB)
      have hcr : ChL wr (.slice pc n cc) l := by have := (unhide HC).below (unhide HB); unfold ChL; rw [unhide Hn]; exact this
      have ea := appliedL_calls v (.slice pc n cc) L l wr (chl_of_row h1 (.tail _ (.head _))) hcr (unhide Hsv) (unhide Hsc) (unhide Hs) (by omega) (by rw [unhide Hn]; omega)
      obtain ⟨L', hL'⟩ : ∃ L', applyP L l = L' := ⟨_, rfl⟩
      rw [hL'] at ea
      have k0 : wr.cell? ⟨mb, 0, none⟩ = some v := h1.cellAt (.head _) rfl
      have hF : commitF many L l = if 64 < L'.length ∨ many < n + 1 then some 9 else none := by rw [unhide HF0, hft, hL']
      have EA := hide ea
      have H1 := hide h1
      have HFF := hide hF
      have HL' := hide hL'
      clear ea h1 hcr hft hF hL' HF
      go_wp2_with fail
      refine (unhide EA).mono ?_
      rintro e w2 ⟨v2, rfl, h2⟩
      have hh2 := (unhide H1).join h2
      obtain ⟨p2, c2, hv2, _⟩ := row_slice (h2.rowAt (.head _))
      subst hv2
      have HH2 : Hid (Hold w0 w2 (refSR mb v used many :: rowI v L :: rowI (.slice p2 L'.length c2) L' :: l2)) := hh2.perm (by
        have := (List.perm_middle (a := rowI (.slice p2 L'.length c2) L') (l₁ := [refSR mb v used many, rowI v L]) (l₂ := l2))
        exact this)
      have c0 : w2.cell? ⟨mb, 0, none⟩ = some v := (unhide HH2).cellAt (.head _) rfl
      have c1 : w2.cell? ⟨mb, 1, none⟩ = some (.int .i64 used) := (unhide HH2).cellAt (.head _) rfl
      have c2' : w2.cell? ⟨mb, 2, none⟩ = some (.int .i64 many) := (unhide HH2).cellAt (.head _) rfl
      have f0 : w2.frozen? ⟨mb, 0, none⟩ = false := (unhide HH2).frozenAt (.head _) 0
      have f1 : w2.frozen? ⟨mb, 1, none⟩ = false := (unhide HH2).frozenAt (.head _) 1
      clear h2 hh2 EA k0
      obtain ⟨nl, hnl⟩ : ∃ nl, L'.length = nl := ⟨_, rfl⟩
      rw [hnl] at HH2 ⊢
      by_cases h64 : 64 < nl
      · have hz1 : (64 : Int) < (nl : Int) := by omega
        have hF : commitF many L l = some 9 := by rw [unhide HFF, if_pos (.inl (by omega))]
        have HF9 := hide hF
        clear hF hnl
        go_wp2_with fail
        go_ret
        exact .inl ⟨9, unhide HF9, rfl, (unhide HH2).forget [_, _]⟩
      have hz1 : ¬ (64 : Int) < (nl : Int) := by omega
      by_cases hmn : many < n + 1
      · have hz2 : (many : Int) < (n : Int) + 1 := by omega
        have hF : commitF many L l = some 9 := by rw [unhide HFF, if_pos (.inr hmn)]
        have HF9 := hide hF
        clear hF hnl
        go_wp2_with fail
        go_ret
        exact .inl ⟨9, unhide HF9, rfl, (unhide HH2).forget [_, _]⟩
      have hz2 : ¬ (many : Int) < (n : Int) + 1 := by omega
      have hF : commitF many L l = none := by rw [unhide HFF, if_neg (fun hx => by rcases hx with hx | hx <;> omega)]
      have HFn := hide hF
      by_cases hr : many - used < n + 1
      · have hz3 : (many : Int) - (used : Int) < (n : Int) + 1 := by omega
        have hU : commitU many used l = n + 1 := by unfold commitU; rw [unhide Hn, if_pos hr]; omega
        have HU := hide hU
        clear hU hF hnl
        go_wp2_with fail
        go_quiet (fail)
        obtain ⟨w3, hw3⟩ : ∃ w3, w2.drewN nq = w3 := ⟨_, rfl⟩
        have HH3 : Hid (Hold w0 w3 (refSR mb v used many :: rowI v L :: rowI (.slice p2 nl c2) L' :: l2)) := by rw [← hw3]; exact (unhide HH2).drewN nq
        rw [hw3]
        clear hw3 HH2 c0 c1 c2' f0 f1
        have c0 : w3.cell? ⟨mb, 0, none⟩ = some v := (unhide HH3).cellAt (.head _) rfl
        have c1 : w3.cell? ⟨mb, 1, none⟩ = some (.int .i64 used) := (unhide HH3).cellAt (.head _) rfl
        have f0 : w3.frozen? ⟨mb, 0, none⟩ = false := (unhide HH3).frozenAt (.head _) 0
        have f1 : w3.frozen? ⟨mb, 1, none⟩ = false := (unhide HH3).frozenAt (.head _) 1
        have h9 := (((unhide HH3).store [] 1 (.int .i64 0) _ rfl).store [] 1 (.int .i64 ((n : Int) + 1)) _ rfl).store [] 0 (.slice p2 nl c2) _ rfl
        have hcs : ((n + 1 : Nat) : Int) = (n : Int) + 1 := by omega
        have H9 := hide h9
        have Hcs := hide hcs
        clear h9 hcs
        go_wp2_with fail
        go_ret
        refine .inr ⟨unhide HFn, rfl, .slice p2 nl c2, ?_⟩
        rw [unhide HL', unhide HU]
        unfold refSR
        rw [unhide Hcs]
        exact (unhide H9).forget [_]
      · have hz3 : ¬ (many : Int) - (used : Int) < (n : Int) + 1 := by omega
        have hU : commitU many used l = used + (n + 1) := by unfold commitU; rw [unhide Hn, if_neg hr]
        have HU := hide hU
        clear hU hF hnl
        go_wp2_with fail
        go_quiet (fail)
        obtain ⟨w3, hw3⟩ : ∃ w3, w2.drewN nq = w3 := ⟨_, rfl⟩
        have HH3 : Hid (Hold w0 w3 (refSR mb v used many :: rowI v L :: rowI (.slice p2 nl c2) L' :: l2)) := by rw [← hw3]; exact (unhide HH2).drewN nq
        rw [hw3]
        clear hw3 HH2 c0 c1 c2' f0 f1
        have c0 : w3.cell? ⟨mb, 0, none⟩ = some v := (unhide HH3).cellAt (.head _) rfl
        have c1 : w3.cell? ⟨mb, 1, none⟩ = some (.int .i64 used) := (unhide HH3).cellAt (.head _) rfl
        have f0 : w3.frozen? ⟨mb, 0, none⟩ = false := (unhide HH3).frozenAt (.head _) 0
        have f1 : w3.frozen? ⟨mb, 1, none⟩ = false := (unhide HH3).frozenAt (.head _) 1
        have h9 := ((unhide HH3).store [] 1 (.int .i64 ((used : Int) + (n : Int) + 1)) _ rfl).store [] 0 (.slice p2 nl c2) _ rfl
        have hcs : ((used + (n + 1) : Nat) : Int) = (used : Int) + (n : Int) + 1 := by omega
        have H9 := hide h9
        have Hcs := hide hcs
        clear h9 hcs
        go_wp2_with fail
        go_ret
        refine .inr ⟨unhide HFn, rfl, .slice p2 nl c2, ?_⟩
        rw [unhide HL', unhide HU]
        unfold refSR
        rw [unhide Hcs]
        exact (unhide H9).forget [_]
#print axioms refCommit_calls
end Go.Proofs.Ytcjfhfalffngjaa
