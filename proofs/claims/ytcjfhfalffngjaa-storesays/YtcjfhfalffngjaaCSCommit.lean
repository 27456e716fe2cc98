/-
  The contract of the store's Commit.
-/
import Derived.Test.YtcjfhfalffngjaaCSForm
import Derived.Test.YtcjfhfalffngjaaCSRef
namespace Go.Proofs.Ytcjfhfalffngjaa
open Go.RowKit Go.Lib
set_option maxRecDepth 100000
set_option linter.unusedVariables false
set_option linter.unusedSimpArgs false

def AddedEnd (w0 : World) (db sb half : Nat) (v : Value) (L : List ChD) (many first used : Nat) (l2 : List Res) (d : DK) (l : List ChD) (e : Ending) (w' : World) : Prop :=
  match addP d 90 many first used l with
  | (none, d', u') => e = .returned .nilIface ∧ ∃ v' lb', DiskIn w0 w' db d' (storeL sb db half v' (applyP L l) lb' many first u' l2)
  | (some k, d', u') => e = .returned (.iface 93 (.int .i64 k)) ∧ ∃ lb', DiskIn w0 w' db d' (storeL sb db half v L lb' many first u' l2)
/-- Refused; laid as a whole first, or not; and then added. -/
def CommitEnd (w0 : World) (db sb half : Nat) (v : Value) (L : List ChD) (lb many first used : Nat) (l2 : List Res) (d : DK) (l : List ChD) (e : Ending) (w' : World) : Prop :=
  (∃ k, commitF many L l = some k ∧ e = .returned (.iface 93 (.int .i64 k)) ∧ DiskIn w0 w' db d (storeL sb db half v L lb many first used l2)) ∨
  (commitF many L l = none ∧ ¬ many - used < l.length + 1 ∧ AddedEnd w0 db sb half v L many first used l2 d l e w') ∨
  (commitF many L l = none ∧ many - used < l.length + 1 ∧ ((∃ k d', layD d (1 - half) (textL L) (emptyF d (first + many) - 1) = (some k, d') ∧ e = .returned (.iface 93 (.int .i64 k)) ∧ DiskIn w0 w' db d' (storeL sb db half v L lb many first used l2)) ∨
    (∃ d', layD d (1 - half) (textL L) (emptyF d (first + many) - 1) = (none, d') ∧ AddedEnd w0 db sb (1 - half) v L many (emptyF d (first + many)) 0 l2 d' l e w')))

theorem layD_wr {d d' : DK} {half f1 : Nat} {T : List UInt8} (h : layD d half T f1 = (none, d')) : d'.wr = [] := by
  unfold layD at h
  split at h
  · cases h
  · rename_i d1 _
    rw [layP] at h
    split at h
    · cases h
    · rw [layP] at h
      injection h with h1 h2
      rw [← h2]
      exact flushed_wr _ h1

set_option maxHeartbeats 4000000 in
theorem commit_calls {w0 w : World} {db sb half lb many first used : Nat} {v : Value} {d : DK} {L : List ChD} {l2 : List Res} (h : DiskIn w0 w db d (storeL sb db half v L lb many first used l2)) (hdn : d.down = false) (hlen : 104 ≤ d.now.length) (hwr : d.wr.length ≤ 1000) (hh : half ≤ 1) (hm : many = d.now.length - 90) (hum : used ≤ many) (hf0 : 1 ≤ first) (hf : first ≤ 800000) (hL : L.length ≤ 64) (hck : ∀ c ∈ L, checkP c = none) (hs : Sorted L) (vc : Value) (l : List ChD) (hc : ∀ w', Hold w0 w' l2 → ChL w' vc l) (hsc : Shaped vc) (hl : l.length ≤ 1000000) :
    Calls Try.prog 48 #[.pointer (some ⟨sb, 0, none⟩), vc] w fun e w' => CommitEnd w0 db sb half v L lb many first used l2 d l e w' := by
  have hfew := h.ok.few
  have hcw := hc w (DiskIn.lose [_, _, _] h).hold
  obtain ⟨pc, cc, hvc⟩ := ChOk.slice hcw
  subst hvc
  obtain ⟨n, hn⟩ : ∃ n, l.length = n := ⟨_, rfl⟩
  have HC : Hid (∀ w', Hold w0 w' l2 → ChOk w' (.slice pc n cc) n (fun i => l.getD i chZ)) := fun w' hw' => by have := hc w' hw'; unfold ChL at this; rw [hn] at this; exact this
  have hcr := unhide HC w (DiskIn.lose [_, _, _] h).hold
  have HCR := hide hcr
  have e50 := fun (wx : World) (l3 : List Res) (hx : DiskIn w0 wx db d (storeL sb db half v L lb many first used l3)) => check_store hx hdn hlen hwr hh hm hf0 hf hL hck
  have e15 := fun (wx : World) (l3 : List Res) (hx : DiskIn w0 wx db d l3) => sectors_calls w0 wx db d l3 hx
  have e51 := fun (wx : World) (l3 : List Res) (hx : DiskIn w0 wx db d (storeL sb db half v L lb many first used l3)) => roomS_calls hx hum (by omega)
  rw [hn] at hl hsc ⊢
  have Hn := hide hn
  have HH := hide h
  have Hs := hide hs
  have Hsc := hide hsc
  have E50 := hide e50
  have E51 := hide e51
  have hdm : d.now.length = many + 90 := by omega
  rw [hdm] at e15
  have E15 := hide e15
  have Hsv := hide (rowI_shape h.hold (v := v) (L := L) (.tail _ (.head _)))
  have hm130 : many ≤ 130 := by omega
  unfold CommitEnd
  rw [hn]
  clear h hs hc hsc hcw hcr e50 e15 e51 hdm hm hlen hfew hdn hck
  by_cases h12 : 12 < n
  · have hz : (12 : Int) < (n : Int) := by omega
    have hF : commitF many L l = some 2 := by unfold commitF; rw [hn, if_pos h12]
    have HF := hide hF
    clear hF hn
    go_enter Try.func48, Try.ntmps48
    go_wp2_with fail
    go_ret
    exact .inl ⟨2, unhide HF, rfl, unhide HH⟩
  have hz : ¬ (12 : Int) < (n : Int) := by omega
  have hF0 : (∀ k, faultL l = some k → commitF many L l = some k) ∧ (faultL l = none → commitF many L l = if 64 < (applyP L l).length ∨ many < n + 1 then some 9 else none) := ⟨fun k hk => by unfold commitF; rw [hn, if_neg h12, hk], fun hk => by unfold commitF; rw [hn, if_neg h12, hk]⟩
  have HF0 := hide hF0
  clear hF0 hn
  go_enter Try.func48, Try.ntmps48
  go_wp2_with fail
  go_loopg [17] (n + 1) (fun g vi wr => ∃ (i : Nat), n - i < g ∧ i ≤ n ∧ vi = .int .i64 i ∧ Hid (Below w.heap.size w wr) ∧ Hid (faultL (l.take i) = none))
  case atStart => exact ⟨0, by omega, by omega, rfl, Below.refl _ _, rfl⟩
  case round =>
    obtain ⟨i, hg, hi, rfl, HB, HF⟩ := hrel
    by_cases hin : i < n
    · have hiz : (i : Int) < (n : Int) := by omega
      rcases unhide HCR with ⟨_, h0⟩ | ⟨b, off, c, hv, _, hbW, hcells⟩
      · omega
      injection hv with e1 e2 e3
      subst e1 e3
      clear e2
      obtain ⟨t0, t1, t2⟩ := hcells i hin
      simp only at t0 t1 t2
      have q0 := (cell_below (unhide HB) (p := ⟨b, off + i * 3, none⟩) hbW).trans t0
      have q1 := (cell_below (unhide HB) (p := ⟨b, off + i * 3 + 1, none⟩) hbW).trans t1
      have q2 := (cell_below (unhide HB) (p := ⟨b, off + i * 3 + 2, none⟩) hbW).trans t2
      have hget : l[i]? = some (l.getD i chZ) := by rw [List.getD, List.getElem?_eq_getElem (by rw [unhide Hn]; exact hin)]; rfl
      obtain ⟨hf1, hf2⟩ := faultL_take hget (unhide HF)
      obtain ⟨⟨xk, xv, xg⟩, hx⟩ : ∃ x, l.getD i chZ = x := ⟨_, rfl⟩
      rw [hx] at q0 q1 q2 hf1 hf2
      simp only at q0 q1 q2
      have e32 := fun wx : World => check_calls ⟨xk, xv, xg⟩ wx
      unfold chV at e32
      simp only at e32
      have HBa : Hid (∀ o, Below w.heap.size w (wr.alloc o)) := fun o => (unhide HB).alloc (unhide HB).size o
      cases hck : checkP ⟨xk, xv, xg⟩ with
      | some kf =>
        rw [hck] at e32 hf2
        simp only [errV] at e32
        have hF : commitF many L l = some kf := (unhide HF0).1 _ (hf2 rfl)
        have E32 := hide e32
        have HFk := hide hF
        clear e32 hf1 hf2 hF hget hcells t0 t1 t2 hx hck
        go_wp2_with fail
        refine (unhide E32 _).mono ?_
        rintro e w2 ⟨rfl, hb2⟩
        have HH2 := hide ((unhide HH).over ((unhide HBa _).trans (hb2.mono (unhide HBa _).size)))
        clear hb2 E32
        go_wp2_with fail
        go_ret
        exact .inl ⟨kf, unhide HFk, rfl, unhide HH2⟩
      | none =>
        rw [hck] at e32 hf1
        simp only [errV] at e32
        have E32 := hide e32
        have HF1 := hide hf1
        clear e32 hf1 hf2 hget hcells t0 t1 t2 hx hck
        go_wp2_with fail
        refine (unhide E32 _).mono ?_
        rintro e w2 ⟨rfl, hb2⟩
        have HB2 := hide ((unhide HBa _).trans (hb2.mono (unhide HBa _).size))
        clear hb2 E32
        go_wp2_with fail
        go_roundg (n - i)
        case measure => omega
        case rel => exact ⟨i + 1, by omega, by omega, by simp, HB2, HF1⟩
    · have hiz : ¬ (i : Int) < (n : Int) := by omega
      have hft := unhide HF
      rw [List.take_of_length_le (by rw [unhide Hn]; omega)] at hft
      have h1 := (unhide HH).over (unhide HB)
      have hcr : ChL wr (.slice pc n cc) l := by have := unhide HC wr (DiskIn.lose [_, _, _] h1).hold; unfold ChL; rw [unhide Hn]; exact this
      have ea := applyL_calls v (.slice pc n cc) L l wr (chl_of_row h1.hold (.tail _ (.head _))) hcr (unhide Hsv) (unhide Hsc) (unhide Hs) (by omega) (by rw [unhide Hn]; omega)
      obtain ⟨L', hL'⟩ : ∃ L', applyP L l = L' := ⟨_, rfl⟩
      rw [hL'] at ea
      have k2 : wr.cell? ⟨sb, 2, none⟩ = some v := h1.cellAt (.head _) rfl
      have hF : commitF many L l = if 64 < L'.length ∨ many < n + 1 then some 9 else none := by rw [(unhide HF0).2 hft, hL']
      have EA := hide ea
      have H1 := hide h1
      have HFF := hide hF
      have HL' := hide hL'
      clear ea h1 hcr hft hF hL' HF
      go_wp2_with fail
      refine (unhide EA).mono ?_
      rintro e w2 ⟨v2, rfl, h2⟩
      have hh2 := (unhide H1).join h2
      obtain ⟨p2, c2, hv2, _⟩ := row_slice (h2.rowAt (.head _))
      subst hv2
      obtain ⟨nl, hnl⟩ : ∃ nl, L'.length = nl := ⟨_, rfl⟩
      rw [hnl] at hh2 ⊢
      have HH2 : Hid (DiskIn w0 w2 db d (storeL sb db half v L lb many first used (rowI (.slice p2 nl c2) L' :: l2))) := hh2.perm (List.perm_middle (a := rowI (.slice p2 nl c2) L') (l₁ := [storeR sb db half v lb, rowI v L, logR lb db 90 many first used]) (l₂ := l2))
      have c0 : w2.cell? ⟨sb, 0, none⟩ = some (.pointer (some ⟨db, 0, none⟩)) := (unhide HH2).cellAt (.head _) rfl
      clear h2 hh2 EA k2
      by_cases h64 : 64 < nl
      · have hz1 : (64 : Int) < (nl : Int) := by omega
        have hF : commitF many L l = some 9 := by rw [unhide HFF, if_pos (.inl (by omega))]
        have HF9 := hide hF
        clear hF hnl
        go_wp2_with fail
        go_ret
        exact .inl ⟨9, unhide HF9, rfl, (unhide HH2).sub (.cons_cons _ (.cons_cons _ (.cons_cons _ (.cons _ (.refl _)))))⟩
      have hz1 : ¬ (64 : Int) < (nl : Int) := by omega
      have e15 := unhide E15 w2 _ (unhide HH2)
      have E15' := hide e15
      clear e15
      by_cases hmn : many < n + 1
      · have hz2 : (many : Int) < (n : Int) + 1 := by omega
        have hF : commitF many L l = some 9 := by rw [unhide HFF, if_pos (.inr hmn)]
        have HF9 := hide hF
        clear hF hnl
        go_wp2_with fail
        refine (unhide E15').mono ?_
        rintro e w3 ⟨rfl, rfl⟩
        go_wp2_with fail
        go_ret
        exact .inl ⟨9, unhide HF9, rfl, (unhide HH2).sub (.cons_cons _ (.cons_cons _ (.cons_cons _ (.cons _ (.refl _)))))⟩
      have hz2 : ¬ (many : Int) < (n : Int) + 1 := by omega
      have hF : commitF many L l = none := by rw [unhide HFF, if_neg (fun hx => by rcases hx with hx | hx <;> omega)]
      have HFn := hide hF
      have e51 := unhide E51 w2 _ (unhide HH2)
      obtain ⟨rm, hrm⟩ : ∃ rm, many - used = rm := ⟨_, rfl⟩
      rw [hrm] at e51
      have E51' := hide e51
      have Hrm := hide hrm
      clear e51 hF
      by_cases hr : rm < n + 1
      · have hz3 : (rm : Int) < (n : Int) + 1 := by omega
        clear hnl hrm
        go_wp2_with fail
        refine (unhide E15').mono ?_
        rintro e w3 ⟨rfl, rfl⟩
        go_wp2_with fail
        refine (unhide E51').mono ?_
        rintro e w4 ⟨rfl, n4, hw4⟩
        have HD4 : Hid (DiskIn w0 w4 db d (storeL sb db half v L lb many first used (rowI (.slice p2 nl c2) L' :: l2))) := by rw [hw4]; exact (unhide HH2).drewN n4
        have ec := unhide E50 w4 _ (unhide HD4)
        unfold CheckEnd at ec
        obtain ⟨x, hx⟩ : ∃ x, layD d (1 - half) (textL L) (emptyF d (first + many) - 1) = x := ⟨_, rfl⟩
        rw [hx] at ec
        obtain ⟨y, d1⟩ := x
        have HXX := hide hx
        cases y with
        | some k =>
          simp only at ec
          have EC := hide ec
          clear ec hx hw4 HD4 E50 E51 E15 E15' E51' HH2
          go_wp2_with fail
          refine (unhide EC).mono ?_
          rintro e w5 ⟨rfl, hD5⟩
          have HD5 := hide hD5
          clear hD5 EC
          go_wp2_with fail
          go_ret
          exact .inr (.inr ⟨unhide HFn, by rw [unhide Hrm]; exact hr, .inl ⟨k, d1, unhide HXX, rfl, (unhide HD5).sub (.cons_cons _ (.cons_cons _ (.cons_cons _ (.cons _ (.refl _)))))⟩⟩)
        | none =>
          simp only at ec
          have hwr1 : d1.wr.length ≤ 1000 := by rw [layD_wr hx]; exact Nat.zero_le _
          obtain ⟨q1, q2, q3, q4⟩ := emptyF_read d (first + many)
          obtain ⟨g, hgg⟩ : ∃ g, emptyF d (first + many) = g := ⟨_, rfl⟩
          rw [hgg] at ec q3 q4
          obtain ⟨hf1, hhf1⟩ : ∃ hf1, 1 - half = hf1 := ⟨_, rfl⟩
          rw [hhf1] at ec
          have EC := hide ec
          have Hgg := hide hgg
          have Hhf := hide hhf1
          have hg9 : g ≤ 900000 := by omega
          clear ec hx hw4 HD4 E50 E51 E15 E15' E51' HH2 q1 q2 q3 q4 hgg hhf1
          go_wp2_with fail
          refine (unhide EC).mono ?_
          rintro e w5 ⟨rfl, lb5, hD5⟩
          have HD5 := hide hD5
          clear hD5 EC
          have h6 : DiskIn w0 w5 db d1 (logR lb5 db 90 many g 0 :: storeR sb db hf1 v lb5 :: rowI v L :: rowI (.slice p2 nl c2) L' :: l2) := (unhide HD5).perm (List.perm_middle (a := logR lb5 db 90 many g 0) (l₁ := [storeR sb db hf1 v lb5, rowI v L]) (l₂ := rowI (.slice p2 nl c2) L' :: l2)).symm
          have hcw := unhide HC w5 (DiskIn.lose [_, _, _, _] h6).hold
          have ea := add_calls h6 (by omega) (Nat.zero_le _) (by omega) (by omega) (by omega) (.slice pc n cc) n (fun i => l.getD i chZ) hcw (by omega)
          rw [show listOf n (fun i => l.getD i chZ) = l by rw [← unhide Hn]; exact listOf_getD l] at ea
          unfold AddEnd at ea
          have k3 : w5.cell? ⟨sb, 3, none⟩ = some (.pointer (some ⟨lb5, 0, none⟩)) := (unhide HD5).cellAt (.head _) rfl
          obtain ⟨x, hx⟩ : ∃ x, addP d1 90 many g 0 l = x := ⟨_, rfl⟩
          rw [hx] at ea
          obtain ⟨e1, d2, u2⟩ := x
          simp only at ea
          have EA := hide ea
          have HX := hide hx
          clear ea hx hcw h6 HD5
          cases e1 with
          | some k =>
            simp only [errV] at EA
            go_wp2_with fail
            refine (unhide EA).mono ?_
            rintro e w7 ⟨rfl, hD7⟩
            have HD7 := hide hD7
            clear hD7 EA
            go_wp2_with fail
            go_ret
            refine (.inr (.inr ⟨unhide HFn, by rw [unhide Hrm]; exact hr, .inr ⟨d1, unhide HXX, ?_⟩⟩))
            rw [unhide Hgg, unhide Hhf]
            unfold AddedEnd
            rw [unhide HX]
            exact ⟨rfl, lb5, ((unhide HD7).perm (List.perm_middle (a := logR lb5 db 90 many g u2) (l₁ := [storeR sb db hf1 v lb5, rowI v L]) (l₂ := rowI (.slice p2 nl c2) L' :: l2))).sub (.cons_cons _ (.cons_cons _ (.cons_cons _ (.cons _ (.refl _)))))⟩
          | none =>
            simp only [errV] at EA
            go_wp2_with fail
            refine (unhide EA).mono ?_
            rintro e w7 ⟨rfl, hD7⟩
            have HD7 : Hid (DiskIn w0 w7 db d2 (storeR sb db hf1 v lb5 :: rowI v L :: logR lb5 db 90 many g u2 :: rowI (.slice p2 nl c2) L' :: l2)) := hD7.perm (List.perm_middle (a := logR lb5 db 90 many g u2) (l₁ := [storeR sb db hf1 v lb5, rowI v L]) (l₂ := rowI (.slice p2 nl c2) L' :: l2))
            have k2 : w7.cell? ⟨sb, 2, none⟩ = some v := (unhide HD7).cellAt (.head _) rfl
            have f2 : w7.frozen? ⟨sb, 2, none⟩ = false := (unhide HD7).hold.frozenAt (.head _) 2
            clear hD7 EA
            go_wp2_with fail
            go_ret
            refine (.inr (.inr ⟨unhide HFn, by rw [unhide Hrm]; exact hr, .inr ⟨d1, unhide HXX, ?_⟩⟩))
            rw [unhide Hgg, unhide Hhf]
            unfold AddedEnd
            rw [unhide HX]
            have s2 := DiskIn.store [] (unhide HD7) 2 (.slice p2 nl c2) _ rfl
            have s3 := s2.sub (l3 := storeR sb db hf1 (.slice p2 nl c2) lb5 :: logR lb5 db 90 many g u2 :: rowI (.slice p2 nl c2) L' :: l2) (.cons_cons _ (.cons _ (.refl _)))
            refine ⟨rfl, .slice p2 nl c2, lb5, ?_⟩
            rw [unhide HL']
            exact s3.perm (.cons _ (.swap _ _ _))
      · have hz3 : ¬ (rm : Int) < (n : Int) + 1 := by omega
        clear hnl hrm E50
        go_wp2_with fail
        refine (unhide E15').mono ?_
        rintro e w3 ⟨rfl, rfl⟩
        go_wp2_with fail
        refine (unhide E51').mono ?_
        rintro e w4 ⟨rfl, n4, hw4⟩
        have HD4 : Hid (DiskIn w0 w4 db d (storeL sb db half v L lb many first used (rowI (.slice p2 nl c2) L' :: l2))) := by rw [hw4]; exact (unhide HH2).drewN n4
        clear hw4 E51 E15 E15' E51' HH2
        have h6 : DiskIn w0 w4 db d (logR lb db 90 many first used :: storeR sb db half v lb :: rowI v L :: rowI (.slice p2 nl c2) L' :: l2) := (unhide HD4).perm (List.perm_middle (a := logR lb db 90 many first used) (l₁ := [storeR sb db half v lb, rowI v L]) (l₂ := rowI (.slice p2 nl c2) L' :: l2)).symm
        have hcw := unhide HC w4 (DiskIn.lose [_, _, _, _] h6).hold
        have ea := add_calls h6 (by omega) hum (by omega) (by omega) (by omega) (.slice pc n cc) n (fun i => l.getD i chZ) hcw (by omega)
        rw [show listOf n (fun i => l.getD i chZ) = l by rw [← unhide Hn]; exact listOf_getD l] at ea
        unfold AddEnd at ea
        have k3 : w4.cell? ⟨sb, 3, none⟩ = some (.pointer (some ⟨lb, 0, none⟩)) := (unhide HD4).cellAt (.head _) rfl
        obtain ⟨x, hx⟩ : ∃ x, addP d 90 many first used l = x := ⟨_, rfl⟩
        rw [hx] at ea
        obtain ⟨e1, d2, u2⟩ := x
        simp only at ea
        have EA := hide ea
        have HX := hide hx
        clear ea hx hcw h6 HD4
        cases e1 with
        | some k =>
          simp only [errV] at EA
          go_wp2_with fail
          refine (unhide EA).mono ?_
          rintro e w7 ⟨rfl, hD7⟩
          have HD7 := hide hD7
          clear hD7 EA
          go_wp2_with fail
          go_ret
          refine (.inr (.inl ⟨unhide HFn, by rw [unhide Hrm]; exact hr, ?_⟩))
          skip
          unfold AddedEnd
          rw [unhide HX]
          exact ⟨rfl, lb, ((unhide HD7).perm (List.perm_middle (a := logR lb db 90 many first u2) (l₁ := [storeR sb db half v lb, rowI v L]) (l₂ := rowI (.slice p2 nl c2) L' :: l2))).sub (.cons_cons _ (.cons_cons _ (.cons_cons _ (.cons _ (.refl _)))))⟩
        | none =>
          simp only [errV] at EA
          go_wp2_with fail
          refine (unhide EA).mono ?_
          rintro e w7 ⟨rfl, hD7⟩
          have HD7 : Hid (DiskIn w0 w7 db d2 (storeR sb db half v lb :: rowI v L :: logR lb db 90 many first u2 :: rowI (.slice p2 nl c2) L' :: l2)) := hD7.perm (List.perm_middle (a := logR lb db 90 many first u2) (l₁ := [storeR sb db half v lb, rowI v L]) (l₂ := rowI (.slice p2 nl c2) L' :: l2))
          have k2 : w7.cell? ⟨sb, 2, none⟩ = some v := (unhide HD7).cellAt (.head _) rfl
          have f2 : w7.frozen? ⟨sb, 2, none⟩ = false := (unhide HD7).hold.frozenAt (.head _) 2
          clear hD7 EA
          go_wp2_with fail
          go_ret
          refine (.inr (.inl ⟨unhide HFn, by rw [unhide Hrm]; exact hr, ?_⟩))
          skip
          unfold AddedEnd
          rw [unhide HX]
          have s2 := DiskIn.store [] (unhide HD7) 2 (.slice p2 nl c2) _ rfl
          have s3 := s2.sub (l3 := storeR sb db half (.slice p2 nl c2) lb :: logR lb db 90 many first u2 :: rowI (.slice p2 nl c2) L' :: l2) (.cons_cons _ (.cons _ (.refl _)))
          refine ⟨rfl, .slice p2 nl c2, lb, ?_⟩
          rw [unhide HL']
          exact s3.perm (.cons _ (.swap _ _ _))
#print axioms commit_calls
end Go.Proofs.Ytcjfhfalffngjaa
