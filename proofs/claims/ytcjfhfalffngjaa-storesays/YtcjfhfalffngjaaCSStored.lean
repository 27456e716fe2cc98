/-
  The contracts of Stored, and of the closed facts stores and kept.
-/
import Derived.Test.YtcjfhfalffngjaaCSIn
namespace Go.Proofs.Ytcjfhfalffngjaa
open Go.RowKit Go.Lib
set_option maxRecDepth 100000
set_option linter.unusedVariables false
set_option linter.unusedSimpArgs false

set_option maxHeartbeats 1000000 in
theorem stored_calls {w0 w : World} {l2 : List Res} (h : Hold w0 w l2) :
    Calls Try.prog 56 #[.int .i64 110] w fun e w' => ∃ db sb d, e = .returned (.tuple #[.pointer (some ⟨db, 0, none⟩), .pointer (some ⟨sb, 0, none⟩), .bool true]) ∧ SIn w0 w' db sb d 110 0 0 [] l2 ∧ d.left = -1 := by
  have e12 := new_calls w0 w l2 h 110 (by decide) (by decide)
  unfold NewEnd at e12
  have E12 := hide e12
  clear e12 h
  go_enter Try.func56, Try.ntmps56
  go_wp2_with fail
  refine (unhide E12).mono ?_
  rintro e w1 ⟨db, rfl, hD1⟩
  have e47 := format_in (by decide) hD1
  have E47 := hide e47
  clear e47 hD1 E12
  go_wp2_with fail
  refine (unhide E47).mono ?_
  rintro e w2 (⟨h1, _⟩ | ⟨_, rfl, d, hD2, hs, hl, hleft⟩)
  · omega
  have e46 := open_in hD2 hs hl (by decide)
  have E46 := hide e46
  have Hl := hide hleft
  clear e46 hD2 hs hl hleft E47
  go_wp2_with fail
  refine (unhide E46).mono ?_
  rintro e w3 ⟨sb, rfl, hI⟩
  have HI := hide hI
  clear hI E46
  go_wp2_with fail
  go_ret3
  exact ⟨db, sb, d, rfl, unhide HI, unhide Hl⟩
#print axioms stored_calls

def oneC : ChD := ⟨⟨#[107]⟩, ⟨#[120]⟩, false⟩
/-- A store is opened anew beside itself. -/
theorem reopen_in {w0 w : World} {db sb : Nat} {d : DK} {n f1 used : Nat} {L : List ChD} {l2 : List Res} (h : SIn w0 w db sb d n f1 used L l2) (hf : f1 ≤ 900000) :
    Calls Try.prog 46 #[.pointer (some ⟨db, 0, none⟩)] w fun e w' => ∃ sb', e = .returned (.tuple #[.pointer (some ⟨sb', 0, none⟩), .nilIface]) ∧ ∃ half v lb, SIn w0 w' db sb' d n f1 used L (storeL sb db half v L lb (n - 90) (f1 + 1) used l2) := by
  obtain ⟨half, L0, D, v, lb, h1, h2⟩ := h.sto
  refine (open_in h2 h1 h.len hf).mono ?_
  rintro e w' ⟨sb', he, hI⟩
  exact ⟨sb', he, half, v, lb, hI⟩
theorem SIn.sub {w0 w : World} {db sb : Nat} {d : DK} {n f1 used : Nat} {L : List ChD} {l2 l3 : List Res} (h : SIn w0 w db sb d n f1 used L l2) (hs : l3.Sublist l2) : SIn w0 w db sb d n f1 used L l3 := by
  obtain ⟨half, L0, D, v, lb, h1, h2⟩ := h.sto
  exact ⟨⟨half, L0, D, v, lb, h1, h2.sub (.cons_cons _ (.cons_cons _ (.cons_cons _ hs)))⟩, h.len⟩
theorem SIn.hold {w0 w : World} {db sb : Nat} {d : DK} {n f1 used : Nat} {L : List ChD} {l2 : List Res} (h : SIn w0 w db sb d n f1 used L l2) : Hold w0 w l2 := by
  obtain ⟨half, L0, D, v, lb, h1, h2⟩ := h.sto
  exact (DiskIn.lose [_, _, _] h2).hold
theorem SIn.over {w0 w w' : World} {db sb : Nat} {d : DK} {n f1 used : Nat} {L : List ChD} {l2 : List Res} (h : SIn w0 w db sb d n f1 used L l2) (hb : Below w.heap.size w w') : SIn w0 w' db sb d n f1 used L l2 := by
  obtain ⟨half, L0, D, v, lb, h1, h2⟩ := h.sto
  exact ⟨⟨half, L0, D, v, lb, h1, h2.over hb⟩, h.len⟩
theorem SIn.drewN {w0 w : World} {db sb : Nat} {d : DK} {n f1 used : Nat} {L : List ChD} {l2 : List Res} (h : SIn w0 w db sb d n f1 used L l2) (m : Nat) : SIn w0 (w.drewN m) db sb d n f1 used L l2 := by
  obtain ⟨half, L0, D, v, lb, h1, h2⟩ := h.sto
  exact ⟨⟨half, L0, D, v, lb, h1, h2.drewN m⟩, h.len⟩
theorem perm_three {α : Type} (l1 : List α) (r : α) (l : List α) : (r :: (l1 ++ l)).Perm (l1 ++ r :: l) := List.perm_middle.symm
theorem SIn.join {w0 w w' : World} {db sb : Nat} {d : DK} {n f1 used : Nat} {L : List ChD} {l2 : List Res} {r : Res} (h : SIn w0 w db sb d n f1 used L l2) (hr : Hold w w' [r]) : SIn w0 w' db sb d n f1 used L (r :: l2) := by
  obtain ⟨half, L0, D, v, lb, h1, h2⟩ := h.sto
  refine ⟨⟨half, L0, D, v, lb, h1, (h2.join hr).perm ?_⟩, h.len⟩
  exact List.perm_middle (a := r) (l₁ := [storeR sb db half v lb, rowI v L, logR lb db 90 (n - 90) (f1 + 1) used]) (l₂ := l2)
theorem room_in {w0 w : World} {db sb : Nat} {d : DK} {n f1 used : Nat} {L : List ChD} {l2 : List Res} (h : SIn w0 w db sb d n f1 used L l2) :
    Calls Try.prog 51 #[.pointer (some ⟨sb, 0, none⟩)] w fun e w' => e = .returned (.int .i64 ((n - 90 - used : Nat) : Int)) ∧ ∃ m, w' = w.drewN m := by
  obtain ⟨q1, q2, q3, q4, q5, q6⟩ := h.few
  obtain ⟨half, L0, D, v, lb, h1, h2⟩ := h.sto
  exact roomS_calls h2 q3 (by omega)
theorem rows_in {w0 w : World} {db sb : Nat} {d : DK} {n f1 used : Nat} {L : List ChD} {l2 : List Res} (h : SIn w0 w db sb d n f1 used L l2) :
    Calls Try.prog 52 #[.pointer (some ⟨sb, 0, none⟩)] w fun e w' => ∃ v', e = .returned v' ∧ Hold w w' [rowI v' L] := by
  obtain ⟨q1, q2, q3, q4, q5, q6⟩ := h.few
  obtain ⟨half, L0, D, v, lb, h1, h2⟩ := h.sto
  exact rowsS_calls h2 (by omega)
#print axioms room_in
#print axioms rows_in
/-- The one change of the closed facts. -/
theorem one_chl {w0 w : World} {B : Nat} {l2 : List Res} (h : Hold w0 w l2) (hm : Res.cell B 54 [.string ⟨#[107]⟩, .string ⟨#[120]⟩, .bool false] ∈ l2) : ChL w (.slice (some ⟨B, 0, none⟩) 1 1) [oneC] := by
  refine .inr ⟨B, 0, 1, rfl, by decide, h.ltAt hm, fun j hj => ?_⟩
  obtain rfl : j = 0 := by simp at hj; omega
  exact ⟨h.cellAt hm (j := 0) rfl, h.cellAt hm (j := 1) rfl, h.cellAt hm (j := 2) rfl⟩
theorem one_commit : commitF 20 [] [oneC] = none ∧ commitU 20 0 [oneC] = 2 ∧ (applyP [] [oneC]).length = 1 := by
  refine ⟨by kernel_rfl, by kernel_rfl, by kernel_rfl⟩
theorem one_shape (B : Nat) : Shaped (.slice (some ⟨B, 0, none⟩) 1 1) := .inr ⟨_, _, _, rfl⟩

set_option maxHeartbeats 2000000 in
theorem kept_calls (w : World) : Calls Try.prog 55 #[] w fun e w' => e = .returned (.bool true) ∧ Below w.heap.size w w' := by
  have e56 := stored_calls (Hold.init w)
  have E56 := hide e56
  clear e56
  go_enter Try.func55, Try.ntmps55
  go_wp2_with fail
  refine (unhide E56).mono ?_
  rintro e w1 ⟨db, sb, d, rfl, hI, hleft⟩
  obtain ⟨B, hB⟩ : ∃ B, w1.heap.size = B := ⟨_, rfl⟩
  have hI1 : SIn w (w1.alloc (.cells #[.string ⟨#[107]⟩, .string ⟨#[120]⟩, .bool false] 54)) db sb d 110 0 0 [] [.cell B 54 [.string ⟨#[107]⟩, .string ⟨#[120]⟩, .bool false]] := by
    rw [← hB]; exact hI.join ((Hold.init w1).made 54 [.string ⟨#[107]⟩, .string ⟨#[120]⟩, .bool false])
  have ec := commit_in hI1 (by decide) (.slice (some ⟨B, 0, none⟩) 1 1) [oneC] (fun w' hw' => one_chl hw' (.head _)) (one_shape B) (by decide)
  obtain ⟨o1, o2, o3⟩ := one_commit
  have hnl : d.left < 0 := by omega
  rw [show 110 - 90 = 20 from rfl, o1, o2] at ec
  obtain ⟨L1, hL1⟩ : ∃ L1, applyP [] [oneC] = L1 := ⟨_, rfl⟩
  rw [hL1] at ec o3
  have EC := hide ec
  have Hnl := hide hnl
  have Ho3 := hide o3
  clear ec hI1 hI E56 o1 o2 o3 hL1 hleft hnl
  go_wp2_with fail
  refine (unhide EC).mono ?_
  rintro e w2 (⟨k, h1, _⟩ | ⟨_, rfl, d', f1, hI2, hf1, hl2⟩ | ⟨_, _, h1, _⟩)
  · cases h1
  rotate_left
  · have := unhide Hnl; omega
  have eo := reopen_in hI2 (by omega)
  have EO := hide eo
  clear eo hl2 EC hI2
  go_wp2_with fail
  refine (unhide EO).mono ?_
  rintro e w3 ⟨sb2, rfl, half, v, lb, hI3⟩
  have er := rows_in hI3
  have ER := hide er
  have HI3 := hide hI3
  clear er hI3 EO
  go_wp2_with fail
  refine (unhide ER).mono ?_
  rintro e w4 ⟨v4, rfl, h4⟩
  obtain ⟨p4, c4, hv4, _⟩ := row_slice (h4.rowAt (.head _))
  rw [unhide Ho3] at hv4
  subst hv4
  have HB := hide (Below.trans (unhide HI3).hold.below (h4.below.mono (unhide HI3).hold.size))
  clear h4 ER HI3
  go_wp2_with fail
  go_ret
  exact ⟨rfl, unhide HB⟩
#print axioms kept_calls

set_option maxHeartbeats 2000000 in
theorem stores_calls (w : World) : Calls Try.prog 45 #[] w fun e w' => e = .returned (.bool true) ∧ Below w.heap.size w w' := by
  have e56 := stored_calls (Hold.init w)
  have E56 := hide e56
  clear e56
  go_enter Try.func45, Try.ntmps45
  go_wp2_with fail
  refine (unhide E56).mono ?_
  rintro e w1 ⟨db, sb, d, rfl, hI, hleft⟩
  obtain ⟨B, hB⟩ : ∃ B, w1.heap.size = B := ⟨_, rfl⟩
  have hI1 : SIn w (w1.alloc (.cells #[.string ⟨#[107]⟩, .string ⟨#[120]⟩, .bool false] 54)) db sb d 110 0 0 [] [.cell B 54 [.string ⟨#[107]⟩, .string ⟨#[120]⟩, .bool false]] := by
    rw [← hB]; exact hI.join ((Hold.init w1).made 54 [.string ⟨#[107]⟩, .string ⟨#[120]⟩, .bool false])
  have ec := commit_in hI1 (by decide) (.slice (some ⟨B, 0, none⟩) 1 1) [oneC] (fun w' hw' => one_chl hw' (.head _)) (one_shape B) (by decide)
  obtain ⟨o1, o2, o3⟩ := one_commit
  have hnl : d.left < 0 := by omega
  rw [show 110 - 90 = 20 from rfl, o1, o2] at ec
  obtain ⟨L1, hL1⟩ : ∃ L1, applyP [] [oneC] = L1 := ⟨_, rfl⟩
  rw [hL1] at ec o3
  have EC := hide ec
  have Hnl := hide hnl
  have Ho3 := hide o3
  clear ec hI1 hI E56 o1 o2 o3 hL1 hleft hnl
  go_wp2_with fail
  refine (unhide EC).mono ?_
  rintro e w2 (⟨k, h1, _⟩ | ⟨_, rfl, d', f1, hI2, hf1, hl2⟩ | ⟨_, _, h1, _⟩)
  · cases h1
  rotate_left
  · have := unhide Hnl; omega
  have eo := reopen_in hI2 (by omega)
  have EO := hide eo
  clear eo hl2 EC hI2
  go_wp2_with fail
  refine (unhide EO).mono ?_
  rintro e w3 ⟨sb2, rfl, half, v, lb, hI3⟩
  have er := rows_in hI3
  have ER := hide er
  have HI3 := hide hI3
  clear er hI3 EO
  go_wp2_with fail
  refine (unhide ER).mono ?_
  rintro e w4 ⟨v4, rfl, h4⟩
  obtain ⟨p4, c4, hv4, _⟩ := row_slice (h4.rowAt (.head _))
  rw [unhide Ho3] at hv4
  subst hv4
  have hI4 := (unhide HI3).over h4.below
  have e51 : Calls Try.prog 51 #[.pointer (some ⟨sb, 0, none⟩)] w4 fun e w' => e = .returned (.int .i64 18) ∧ ∃ m, w' = w4.drewN m := by
    obtain ⟨half5, L5, D5, v5, lb5, g1, g2⟩ := hI4.sto
    have g3 := g2.perm (List.perm_append_comm (l₁ := storeL sb db half v L1 lb (110 - 90) (f1 + 1) 2 [.cell B 54 [.string ⟨#[107]⟩, .string ⟨#[120]⟩, .bool false]]) (l₂ := [storeR sb2 db half5 v5 lb5, rowI v5 L1, logR lb5 db 90 (110 - 90) (f1 + 1) 2]))
    exact roomS_calls (many := 110 - 90) g3 (by decide) (by decide)
  have E51 := hide e51
  have HB := hide hI4.hold.below
  clear h4 ER HI3 hI4 e51
  go_wp2_with fail
  refine (unhide E51).mono ?_
  rintro e w5 ⟨rfl, m5, rfl⟩
  clear E51
  go_wp2_with fail
  go_ret
  exact ⟨rfl, Below.trans (unhide HB) (((Hold.init w4).drewN _).below.mono (unhide HB).size)⟩
#print axioms stores_calls
end Go.Proofs.Ytcjfhfalffngjaa
