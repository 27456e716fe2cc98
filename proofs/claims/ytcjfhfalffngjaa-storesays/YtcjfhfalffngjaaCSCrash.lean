/-
  The contracts of readHead and store.Open of a disk without a head, of a store's Room and Rows. A log whose numbers, not noughts, end it: what a fall within Add leaves; and what a fall within the store's lay leaves. Plain facts.
-/
import Derived.Test.YtcjfhfalffngjaaCSOpen
namespace Go.Proofs.Ytcjfhfalffngjaa
open Go.RowKit Go.Lib
set_option maxRecDepth 100000
set_option linter.unusedVariables false
set_option linter.unusedSimpArgs false

theorem no_mark : Lib.hasPrefix nought markL = false := by kernel_rfl
set_option maxHeartbeats 2000000 in
theorem readHead_bad {w0 w : World} {db : Nat} {d : DK} {l2 : List Res} (h : DiskIn w0 w db d l2) (hdn : d.down = false) (h0 : d.now.getD 0 [] = nought) :
    Calls Try.prog 72 #[.pointer (some ⟨db, 0, none⟩)] w fun e w' => e = .returned (.tuple #[.agg #[.int .i64 0, .int .i64 0, .int .i64 0], errV (some 4)]) ∧ Below w.heap.size w w' := by
  have hpos := h.ok.pos
  obtain ⟨B, hB⟩ : ∃ B, w.heap.size = B := ⟨_, rfl⟩
  have hD1 : DiskIn w0 (w.alloc (.cells #[.int .i64 0, .int .i64 0, .int .i64 0] 126)) db d (.cell B 126 [.int .i64 0, .int .i64 0, .int .i64 0] :: l2) := by rw [← hB]; exact h.made 126 [.int .i64 0, .int .i64 0, .int .i64 0]
  have er := read_calls w0 _ db d _ hD1 0
  unfold ReadEnd at er
  have hhas : d.has 0 = true := by simp [DK.has]; omega
  have e1 : d.readE 0 = none := by unfold DK.readE; rw [hdn, hhas]; rfl
  have e2 : (⟨(d.readB 0).toArray⟩ : ByteArray) = mkB nought := by
    unfold DK.readB
    rw [hdn, hhas]
    simp only [Bool.false_or, Bool.not_true, Bool.false_eq_true, if_false]
    rw [show (0 : Int).toNat = 0 from rfl, h0]
    rfl
  rw [e1, e2] at er
  simp only [errV] at er
  have ec := fun wx => Try.strings_CutPrefix (mkB nought) ⟨#[106, 111, 98, 99, 97, 115, 101, 32, 115, 116, 111, 114, 101, 10]⟩ wx
  have hmk : (⟨#[106, 111, 98, 99, 97, 115, 101, 32, 115, 116, 111, 114, 101, 10]⟩ : ByteArray).data.toList = markL := rfl
  rw [mkB_list, hmk, no_mark] at ec
  obtain ⟨S0, hS0⟩ : ∃ S, mkB nought = S := ⟨_, rfl⟩
  rw [hS0] at er ec
  obtain ⟨S1, hS1⟩ : ∃ S : ByteArray, ⟨(Lib.trimPrefix nought markL).toArray⟩ = S := ⟨_, rfl⟩
  rw [hS1] at ec
  have ER := hide er
  have EC := hide ec
  have HB0 : Hid (Hold w (w.alloc (.cells #[.int .i64 0, .int .i64 0, .int .i64 0] 126)) [.cell B 126 [.int .i64 0, .int .i64 0, .int .i64 0]]) := by rw [← hB]; exact (Hold.init w).made 126 [.int .i64 0, .int .i64 0, .int .i64 0]
  obtain ⟨w1, hw1⟩ : ∃ w1, w.alloc (.cells #[.int .i64 0, .int .i64 0, .int .i64 0] 126) = w1 := ⟨_, rfl⟩
  rw [hw1] at HB0 ER
  have k0 : w1.cell? ⟨B, 0, none⟩ = some (.int .i64 0) := (unhide HB0).cellAt (.head _) rfl
  have k1 : w1.cell? ⟨B, 1, none⟩ = some (.int .i64 0) := (unhide HB0).cellAt (.head _) rfl
  have k2 : w1.cell? ⟨B, 2, none⟩ = some (.int .i64 0) := (unhide HB0).cellAt (.head _) rfl
  have f0 : w1.frozen? ⟨B, 0, none⟩ = false := (unhide HB0).frozenAt (.head _) 0
  have f1' : w1.frozen? ⟨B, 1, none⟩ = false := (unhide HB0).frozenAt (.head _) 1
  have f2 : w1.frozen? ⟨B, 2, none⟩ = false := (unhide HB0).frozenAt (.head _) 2
  have h8 := (((unhide HB0).store [] 0 (.int .i64 0) _ rfl).store [] 1 (.int .i64 0) _ rfl).store [] 2 (.int .i64 0) _ rfl
  have HB8 := hide h8
  simp only [errV]
  clear er ec hD1 h hdn h0 e1 e2 hhas hmk hS0 hS1 h8
  go_enter Try.func72, Try.ntmps72
  go_wp2_with fail
  refine (unhide ER).mono ?_
  rintro e w2 ⟨rfl, rfl⟩
  clear ER
  go_wp2_with fail
  refine (unhide EC _).mono ?_
  rintro e w3 ⟨rfl, rfl⟩
  clear EC
  go_wp2_with fail
  exact bodyPost_ret (results_head (p := 2) (u := 3) rfl _ _ B _ _ _ rfl rfl ((unhide HB8).heapAt (.head _))) rfl ⟨rfl, by first | exact (unhide HB8).below | (rw [← hB]; exact (unhide HB8).below) | (rw [hB]; exact (unhide HB8).below)⟩

set_option maxHeartbeats 1000000 in
theorem openS_bad {w0 w : World} {db : Nat} {d : DK} {l2 : List Res} (h : DiskIn w0 w db d l2) (hdn : d.down = false) (h0 : d.now.getD 0 [] = nought) :
    Calls Try.prog 46 #[.pointer (some ⟨db, 0, none⟩)] w fun e w' => e = .returned (.tuple #[.pointer none, errV (some 4)]) ∧ Below w.heap.size w w' := by
  have e72 := readHead_bad h hdn h0
  simp only [errV] at e72 ⊢
  have E72 := hide e72
  clear e72 h hdn h0
  go_enter Try.func46, Try.ntmps46
  go_wp2_with fail
  refine (unhide E72).mono ?_
  rintro e w1 ⟨rfl, hb1⟩
  have HB1 := hide (hb1.alloc hb1.size (.cells #[.int .i64 0, .int .i64 0, .int .i64 0] 126))
  clear hb1 E72
  go_wp2_with fail
  go_ret2
  exact ⟨rfl, unhide HB1⟩

theorem roomS_calls {w0 w : World} {db sb half lb many first used : Nat} {v : Value} {d : DK} {L : List ChD} {l2 : List Res} (h : DiskIn w0 w db d (storeR sb db half v lb :: rowI v L :: logR lb db 90 many first used :: l2)) (hu : used ≤ many) (hm : many ≤ 1000) :
    Calls Try.prog 51 #[.pointer (some ⟨sb, 0, none⟩)] w fun e w' => e = .returned (.int .i64 ((many - used : Nat) : Int)) ∧ ∃ n, w' = w.drewN n := by
  have k3 : w.cell? ⟨sb, 3, none⟩ = some (.pointer (some ⟨lb, 0, none⟩)) := h.cellAt (.head _) rfl
  have q2 : w.cell? ⟨lb, 2, none⟩ = some (.int .i64 many) := h.cellAt (.tail _ (.tail _ (.head _))) rfl
  have q4 : w.cell? ⟨lb, 4, none⟩ = some (.int .i64 used) := h.cellAt (.tail _ (.tail _ (.head _))) rfl
  have e42 := room_calls lb many used w hu (by omega) q2 q4
  have E42 := hide e42
  clear e42 h
  go_enter Try.func51, Try.ntmps51
  go_wp2_with fail
  refine (unhide E42).mono ?_
  rintro e w1 ⟨rfl, n1, rfl⟩
  go_wp2_with fail
  go_ret
  exact ⟨rfl, n1, rfl⟩

theorem rowsS_calls {w0 w : World} {db sb half lb : Nat} {v : Value} {d : DK} {L : List ChD} {l2 : List Res} (h : DiskIn w0 w db d (storeR sb db half v lb :: rowI v L :: l2)) (hn : L.length ≤ 100) :
    Calls Try.prog 52 #[.pointer (some ⟨sb, 0, none⟩)] w fun e w' => ∃ v', e = .returned v' ∧ Hold w w' [rowI v' L] := by
  have k2 : w.cell? ⟨sb, 2, none⟩ = some v := h.cellAt (.head _) rfl
  have hc := chl_of_row h.hold (v := v) (L := L) (.tail _ (.head _))
  have hs := rowI_shape h.hold (v := v) (L := L) (.tail _ (.head _))
  have ec := clone_calls v L.length _ w hc hs hn
  rw [listOf_getD] at ec
  obtain ⟨pv, cv, hv⟩ := ChOk.slice hc
  have EC := hide ec
  clear ec h hc hs
  subst hv
  go_enter Try.func52, Try.ntmps52
  go_wp2_with fail
  refine (unhide EC).mono ?_
  rintro e w1 ⟨v', rfl, h1⟩
  have H1 := hide h1
  clear h1 EC
  go_wp2_with fail
  go_ret
  exact ⟨_, rfl, unhide H1⟩
#print axioms readHead_bad
#print axioms openS_bad
#print axioms roomS_calls
#print axioms rowsS_calls
end Go.Proofs.Ytcjfhfalffngjaa
namespace Go.Proofs.Ytcjfhfalffngjaa
open Go.RowKit Go.Lib
set_option maxRecDepth 100000
set_option linter.unusedVariables false
set_option linter.unusedSimpArgs false

theorem put_done2 {d : DK} {fr used many : Nat} {s0 : List UInt8} {r : List (List UInt8)} (hb : PutBounds d fr used many s0 r) :
    ((putP d fr used many s0 r).1 = none ∧ Steady (putP d fr used many s0 r).2 ∧ NewS d.now fr used many (s0 :: r) (putP d fr used many s0 r).2.now ∧ (d.left < 0 → (putP d fr used many s0 r).2.left = d.left)) ∨
    ((putP d fr used many s0 r).1 = some 10 ∧ ¬ d.left < 0 ∧ (putP d fr used many s0 r).2.now.length = d.now.length ∧ (Steady d → ∀ k, (keepL k 0 (putP d fr used many s0 r).2.wr (putP d fr used many s0 r).2.kept = d.now ∨ OldS d.now fr used many (keepL k 0 (putP d fr used many s0 r).2.wr (putP d fr used many s0 r).2.kept)) ∨ NewS d.now fr used many (s0 :: r) (keepL k 0 (putP d fr used many s0 r).2.wr (putP d fr used many s0 r).2.kept))) := by
  obtain ⟨hd, hlen, hm, hs0, hr⟩ := hb
  obtain ⟨q1, q2⟩ := restP_len used many r hm
  obtain ⟨e1, d1, h1⟩ : ∃ e1 d1, layP [[]] d (fr + used) = (e1, d1) := ⟨_, _, rfl⟩
  have c1 := lay_case [[]] d (fr + used) hd (by simp only [List.length_singleton]; omega) (by intro s hs; rw [List.mem_singleton.1 hs]; simp)
  rw [h1] at c1
  unfold putP
  rw [h1]
  rcases c1 with ⟨he, g1⟩ | ⟨he, g1⟩
  · simp only at he
    subst he
    simp only
    have hl1 : d1.now.length = d.now.length := by rw [g1.now, setL_length]
    obtain ⟨e2, d2, h2⟩ : ∃ e2 d2, layP (restP used many r) d1 (fr + (used + 1)) = (e2, d2) := ⟨_, _, rfl⟩
    have c2 := lay_case (restP used many r) d1 (fr + (used + 1)) g1.down (by rw [hl1]; omega) (restP_short _ _ _ hr)
    rw [h2] at c2
    rw [h2]
    rcases c2 with ⟨he, g2⟩ | ⟨he, g2⟩
    · simp only at he
      subst he
      simp only
      have hl2 : d2.now.length = d.now.length := by rw [g2.now, setL_length, hl1]
      obtain ⟨e3, d3, h3⟩ : ∃ e3 d3, layP [s0] d2 (fr + used) = (e3, d3) := ⟨_, _, rfl⟩
      have c3 := lay_case [s0] d2 (fr + used) g2.down (by simp only [List.length_singleton]; omega) (by intro s hs; rw [List.mem_singleton.1 hs]; exact hs0)
      rw [h3] at c3
      rw [h3]
      have hnew := new_of (s0 := s0) hlen hm
      have hold := old_two hlen hm
      simp only at g1 g2
      rw [← g1.now] at hnew hold
      rw [← g2.now] at hnew hold
      rcases c3 with ⟨he, g3⟩ | ⟨he, g3⟩
      · simp only at he g3
        refine .inl ⟨he, g3.steady, by rw [g3.now]; exact hnew, fun hl => ?_⟩
        have l1 := g1.left hl
        have l2 := g2.left (by rw [l1]; exact hl)
        simp only
        rw [g3.left (by rw [l2, l1]; exact hl), l2, l1]
      · simp only at he g3
        refine .inr ⟨he, fun hl => ?_, by rw [g3.len, hl2], fun _ k => ?_⟩
        · have l1 := g1.left hl
          have l2 := g2.left (by rw [l1]; exact hl)
          exact g3.left (by rw [l2, l1]; exact hl)
        · obtain ⟨m, hm⟩ := g3.wr
          simp only
          rw [hm, g3.kept, g2.wr, List.nil_append, g2.steady.kept]
          cases m with
          | zero => exact .inl (.inr hold)
          | succ m =>
            rw [List.take_succ_cons, List.take_nil, wrs_cons]
            rcases keepL_one k (fr + used) (padL s0) d2.now with h | h
            · refine .inr ?_
              show NewS _ _ _ _ _ (keepL k 0 [(fr + used, padL s0)] d2.now)
              rw [h]
              exact hnew
            · refine .inl (.inr ?_)
              show OldS _ _ _ _ (keepL k 0 [(fr + used, padL s0)] d2.now)
              rw [h]
              exact hold
    · simp only at he g2
      subst he
      simp only
      refine .inr ⟨trivial, fun hl => g2.left (by rw [g1.left hl]; exact hl), by rw [g2.len, hl1], fun _ k => .inl (.inr ?_)⟩
      obtain ⟨m, hm⟩ := g2.wr
      rw [hm, g2.kept, g1.wr, List.nil_append, g1.steady.kept]
      have hge : ∀ x, x ≤ fr + used → (keepL k 0 (wrs (fr + (used + 1)) ((restP used many r).take m)) d1.now).getD x [] = d1.now.getD x [] := fun x hx => keepL_out k _ _ _ x fun y hy => by have := wrs_ge hy; omega
      refine ⟨by rw [keepL_len, hl1], fun j hj => ?_, fun hs => ?_⟩
      · rw [hge _ (by omega), g1.now, setL_out _ _ _ _ (by simp; omega)]
      · rw [hge _ (by omega), g1.now]
        have := setL_in [[]] d.now (fr + used) 0 [] (by simp only [List.length_singleton]; omega) rfl
        rw [Nat.add_zero] at this
        rw [this, padL_nil]
  · simp only at he g1
    subst he
    simp only
    refine .inr ⟨trivial, g1.left, g1.len, fun hst k => .inl ?_⟩
    obtain ⟨m, hm⟩ := g1.wr
    rw [hm, g1.kept, hst.wr, List.nil_append, hst.kept]
    cases m with
    | zero => exact .inl rfl
    | succ m =>
      rw [List.take_succ_cons, List.take_nil, wrs_cons]
      rcases keepL_one k (fr + used) (padL []) d.now with h | h
      · refine .inr ?_
        show OldS _ _ _ _ (keepL k 0 [(fr + used, padL [])] d.now)
        rw [h]
        refine ⟨by simp, fun j hj => ?_, fun hs => ?_⟩
        · rw [List.getD, List.getD, List.getElem?_set_ne (by omega)]
        · rw [List.getD, List.getElem?_set_self (by omega), padL_nil]; rfl
      · exact .inl h
theorem goR_congr' {get get' : Nat → ByteArray} {first : Nat} : ∀ (k i : Nat) (st : RS), (∀ j, i ≤ j → j < i + k → get j = get' j) → goR get first k i st = goR get' first k i st
  | 0, i, st, h => rfl
  | k + 1, i, st, h => by
    rw [goR, goR, h i (by omega) (by omega)]
    cases stepR (get' i) (first + i) i st with
    | none => rfl
    | some s1 => exact goR_congr' k (i + 1) s1 fun j h1 h2 => h j (by omega) (by omega)

/-- A log that is read as deeds, however it ends. -/
structure LogRd (d : DK) (fr many first : Nat) (D : List (List ChD)) (used : Nat) : Prop where
  steady : Steady d
  len : fr + many ≤ d.now.length
  deeds : (readP d fr many first).deeds = D
  used : (readP d fr many first).used = used
theorem LogRd.pre {d : DK} {fr many first used : Nat} {D : List (List ChD)} (h : LogRd d fr many first D used) : used ≤ many ∧ Pre (secAt d.now fr) first used D := by
  have := pre_of_go (secAt d.now fr) first many
  have h1 := h.deeds
  have h2 := h.used
  unfold readP at h1 h2
  rw [h1, h2] at this
  exact this
theorem LogOk.rd {d : DK} {fr many first used : Nat} {D : List (List ChD)} (h : LogOk d fr many first D used) : LogRd d fr many first D used := ⟨h.steady, h.len, by rw [h.read], by rw [h.read]⟩
theorem readP_congr {d d' : DK} {fr many first : Nat} (h : ∀ j, j < many → d'.now.getD (fr + j) [] = d.now.getD (fr + j) []) : readP d' fr many first = readP d fr many first :=
  goR_congr' many 0 st0 fun j _ hj => by unfold secAt; rw [h j (by omega)]
theorem old_rd {d d' : DK} {fr many first used : Nat} {D : List (List ChD)} (h : LogRd d fr many first D used) (hs : Steady d') (ho : d'.now = d.now ∨ OldS d.now fr used many d'.now) : LogRd d' fr many first D used := by
  rcases ho with ho | ho
  · have e : readP d' fr many first = readP d fr many first := by unfold readP; rw [ho]
    exact ⟨hs, by rw [ho]; exact h.len, by rw [e]; exact h.deeds, by rw [e]; exact h.used⟩
  · obtain ⟨hle, hp⟩ := h.pre
    have hok : LogOk d' fr many first D used := ⟨hs, by rw [ho.len]; exact h.len, hp.congr fun j hj => by unfold secAt; rw [ho.pre j hj], hle, ho.stop⟩
    exact hok.rd
/-- Add on a steady disk: refused; done; or it fell. -/
theorem add_case2 {d : DK} {fr many first used : Nat} {D : List (List ChD)} (h : LogRd d fr many first D used) (hf : first + many < 4294967296) (l : List ChD) :
    (∃ k, k ≠ 10 ∧ addP d fr many first used l = (some k, d, used)) ∨
    (∃ d', addP d fr many first used l = (none, d', used + (l.length + 1)) ∧ (d.left < 0 → d'.left = d.left) ∧ d'.now.length = d.now.length ∧ LogRd d' fr many first (D ++ [l]) (used + (l.length + 1))) ∨
    (∃ d', addP d fr many first used l = (some 10, d', used) ∧ ¬ d.left < 0 ∧ ∀ k, (d'.again k).now.length = d.now.length ∧ (LogRd (d'.again k) fr many first D used ∨ LogRd (d'.again k) fr many first (D ++ [l]) (used + (l.length + 1)))) := by
  obtain ⟨hle, hp⟩ := h.pre
  by_cases h12 : 12 < l.length
  · exact .inl ⟨2, by decide, addP_many h12⟩
  by_cases hfull : many - used < l.length + 1
  · exact .inl ⟨9, by decide, addP_full h12 hfull⟩
  cases hft : faultL l with
  | some k => exact .inl ⟨k, fun e => faultL_ten l (by rw [hft, e]), addP_fault h12 hfull hft⟩
  | none =>
    have hc := faultL_all hft
    obtain ⟨s0, r, hdd, hrl⟩ := deed_cons (first + used) l
    have hsh := deedS_short (n := first + used) hc
    rw [hdd] at hsh
    have hb : PutBounds d fr used many s0 r := ⟨h.steady.down, h.len, by omega, hsh s0 (by simp), fun s hs => hsh s (by simp [hs])⟩
    rcases put_done2 hb with ⟨h1, h2, h3, h4⟩ | ⟨h1, h2, h3, h4⟩
    · have hpp : putP d fr used many s0 r = (none, (putP d fr used many s0 r).2) := by rw [← h1]
      refine .inr (.inl ⟨_, addP_done h12 hfull hft hdd hpp, h4, h3.len, ?_⟩)
      exact (new_ok h.len hp hc (by omega) hf h2 (by rw [hdd]; exact h3)).rd
    · have hpp : putP d fr used many s0 r = (some 10, (putP d fr used many s0 r).2) := by rw [← h1]
      refine .inr (.inr ⟨_, addP_fell h12 hfull hft hdd hpp, h2, fun k => ?_⟩)
      rcases h4 h.steady k with ho | hn
      · refine ⟨?_, .inl (old_rd h ⟨rfl, rfl, rfl⟩ ho)⟩
        rcases ho with ho | ho
        · exact congrArg List.length ho
        · exact ho.len
      · exact ⟨hn.len, .inr (new_ok h.len hp hc (by omega) hf ⟨rfl, rfl, rfl⟩ (by rw [hdd]; exact hn)).rd⟩
#print axioms add_case2
end Go.Proofs.Ytcjfhfalffngjaa
