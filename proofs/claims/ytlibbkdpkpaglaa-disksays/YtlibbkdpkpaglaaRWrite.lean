/-
  The contracts of the document's disk: Write, Flush, over the seat's program.
-/
import Derived.Test.YtlibbkdpkpaglaaGen
namespace Go.Proofs.Ytlibbkdpkpaglaa
open Go.RowKit
set_option maxRecDepth 100000
set_option linter.unusedVariables false
set_option linter.unusedSimpArgs false

variable (w0 w : World) (rb : Nat) (r : DK) (l2 : List Res)

theorem pad_string (s : ByteArray) : s ++ (⟨(zerosL (140 - s.size)).toArray⟩ : ByteArray) = ⟨(padL s.data.toList).toArray⟩ := by
  have e : s = ⟨s.data.toList.toArray⟩ := by cases s; simp
  conv => lhs; lhs; rw [e]
  rw [ByteArray.mk_append_mk]
  rfl
theorem rwriteE_bad (d : DK) (i : Int) (s : List UInt8) (h : (!d.has i || decide (140 < s.length)) = true) : d.writeE i s = some 1 ∧ d.rwritten i s = d := by
  unfold DK.writeE DK.rwritten
  rw [h]
  exact ⟨rfl, rfl⟩
theorem rwriteE_good (d : DK) (i : Int) (s : List UInt8) (h : (!d.has i || decide (140 < s.length)) = false) : d.writeE i s = d.flushE ∧ d.rwritten i s = if d.fall then d.rstep else d.rstep.laid i.toNat (padL s) := by
  unfold DK.writeE DK.rwritten DK.flushE
  rw [h]
  exact ⟨rfl, rfl⟩

def RWriteEnd (i : Int) (s : ByteArray) (e : Ending) (w' : World) : Prop := e = .returned (.int .i64 (noE (r.writeE i s.data.toList))) ∧ RefIn w0 w' rb (r.rwritten i s.data.toList) l2

set_option maxHeartbeats 2000000 in
theorem rwrite_calls (h : RefIn w0 w rb r l2) (hm : r.wr.length ≤ 100000) (i : Int) (s : ByteArray) :
    Calls Try.prog 17 #[.pointer (some ⟨rb, 0, none⟩), .int .i64 i, .string s] w fun e w' => RWriteEnd w0 rb r l2 i s e w' := by
  have e2 := rstep_calls w0 w rb r l2 h
  obtain ⟨v0, v1, v2, H⟩ := h.mem
  have q1 : w.cell? ⟨rb, 1, none⟩ = some v1 := H.cellAt (.head _) rfl
  obtain ⟨g, cap, hv1, _, _⟩ := row_shape (H.rowAt (.tail _ (.tail _ (.head _)))) h.ok.pos
  subst hv1
  unfold RWriteEnd
  have hl : s.data.toList.length = s.size := rfl
  obtain ⟨n, hn⟩ : ∃ n, r.now.length = n := ⟨_, rfl⟩
  rw [hn] at q1
  cases hbad : (!r.has i || decide (140 < s.data.toList.length)) with
  | true =>
    obtain ⟨b1, b2⟩ := rwriteE_bad r i s.data.toList hbad
    rw [b1, b2]
    have HD := hide h
    rw [hl] at hbad
    simp only [DK.has, hn, Bool.or_eq_true, Bool.not_eq_true', Bool.and_eq_false_iff, decide_eq_false_iff_not, decide_eq_true_eq] at hbad
    clear e2 h H b1 b2 hm hl hn
    by_cases h0 : i < 0
    · clear hbad
      go_enter Try.func17, Try.ntmps17
      go_wp2_with fail
      go_ret
      exact ⟨rfl, unhide HD⟩
    · by_cases h1 : (n : Int) ≤ i
      · clear hbad
        go_enter Try.func17, Try.ntmps17
        go_wp2_with fail
        go_ret
        exact ⟨rfl, unhide HD⟩
      · have h2 : (140 : Int) < (s.size : Int) := by omega
        clear hbad
        have h1' : i < (n : Int) := by omega
        go_enter Try.func17, Try.ntmps17
        go_wp2_with fail
        go_ret
        exact ⟨rfl, unhide HD⟩
  | false =>
  obtain ⟨b1, b2⟩ := rwriteE_good r i s.data.toList hbad
  rw [b1, b2]
  rw [hl] at hbad
  simp only [DK.has, Bool.or_eq_false_iff, Bool.not_eq_false', Bool.and_eq_true, decide_eq_false_iff_not, decide_eq_true_eq] at hbad
  obtain ⟨⟨hi0, hi1⟩, hs140⟩ := hbad
  obtain ⟨k, rfl⟩ : ∃ k : Nat, i = k := ⟨i.toNat, by omega⟩
  have hk2 : k < r.rstep.now.length := by rw [rstep_now]; omega
  have hwr2 : r.rstep.wr.length ≤ 100000 := by rw [rstep_wr]; exact hm
  have hn2 : r.rstep.now.length = n := by rw [rstep_now]; exact hn
  rw [hn] at hi1
  rw [Int.toNat_natCast]
  have hsz : ¬ (140 : Int) < (s.size : Int) := by omega
  unfold RStepEnd at e2
  cases hf : r.fall with
  | true =>
    have hfe : r.flushE = some 10 := by unfold DK.flushE; rw [hf]; rfl
    rw [hfe] at e2 ⊢
    simp only [noE, Option.getD_some] at e2 ⊢
    have E2 := hide e2
    clear e2 h H b1 b2 hm hl hf hfe hn hk2 hwr2 hn2
    go_enter Try.func17, Try.ntmps17
    go_wp2_with fail
    refine (unhide E2).mono ?_
    rintro e w2 ⟨rfl, hD⟩
    have HD := hide hD
    clear hD E2
    go_wp2_with fail
    go_ret
    exact ⟨rfl, unhide HD⟩
  | false =>
    have hfe : r.flushE = none := by unfold DK.flushE; rw [hf]; rfl
    rw [hfe] at e2 ⊢
    simp only [noE, Option.getD_none, Bool.false_eq_true, if_false] at e2 ⊢
    have E2 := hide e2
    clear e2 h H b1 b2 hm hl hf hfe hn
    generalize r.rstep = r2 at *
    obtain ⟨P, hP⟩ : ∃ P, padL s.data.toList = P := ⟨_, rfl⟩
    have hPl : P.length = 140 := by rw [← hP]; exact padL_length (by show s.size ≤ 140; omega)
    have hps := pad_string s
    rw [hP] at hps ⊢
    obtain ⟨m, hm⟩ : ∃ m, 140 - s.size = m := ⟨_, rfl⟩
    have hmz : (140 : Int) - (s.size : Int) = (m : Int) := by omega
    rw [hm] at hps
    have E3 := hide (fun wx => noughts_calls m (by omega) wx)
    obtain ⟨Zs, hZs⟩ : ∃ Zs : ByteArray, ⟨(zerosL m).toArray⟩ = Zs := ⟨_, rfl⟩
    rw [hZs] at E3 hps
    have hZsz : Zs.size = m := by rw [← hZs]; simp [zerosL, ByteArray.size]
    clear hP hm hZs
    go_enter Try.func17, Try.ntmps17
    go_wp2_with fail
    refine (unhide E2).mono ?_
    rintro e w2 ⟨rfl, hD⟩
    have HD := hide hD
    clear hD E2
    go_wp2_with fail
    refine (unhide E3 _).mono ?_
    rintro e w3 ⟨rfl, o3, hw3⟩
    obtain ⟨u0, u1, u2, H2⟩ := (unhide HD).mem
    have hok2 := (unhide HD).ok
    have H3 := H2.alloc o3
    rw [← hw3] at H3
    clear H2 hw3 HD E3
    obtain ⟨g', cap', hu1, _, _⟩ := row_shape (H3.rowAt (.tail _ (.tail _ (.head _)))) hok2.pos
    subst hu1
    have p1 : w3.cell? ⟨rb, 1, none⟩ = some (.slice (some ⟨g', 0, none⟩) n cap') := by rw [← hn2]; exact H3.cellAt (.head _) rfl
    have pc := H3.rowCell (.tail _ (.tail _ (.head _))) (wantV_get hk2)
    have pf := H3.rowFrozen (.tail _ (.tail _ (.head _))) k
    obtain ⟨w4, hs4, H4, hg4⟩ := H3.lay [_, _] k [.string ⟨P.toArray⟩] (by rw [wantV_length]; simp; omega) (by simp; rfl)
    have hw4 : w4 = w3.setCell ⟨g', k, none⟩ (.string ⟨P.toArray⟩) := by
      have h1 := hs4 Try.prog
      simp only [storeCells, Sem.run_bind] at h1
      have h2 : (store ((⟨g', k, none⟩ : Addr).add 0) (.string ⟨P.toArray⟩)).run Try.prog w3 = .ok () (w3.setCell ⟨g', k, none⟩ (.string ⟨P.toArray⟩)) := by
        rw [add_plain, Nat.add_zero, run_store Try.prog w3 _ _ _ rfl, pc]
        simp [pf]
      rw [h2] at h1
      simp only [Result.andThen_ok, Sem.run_pure] at h1
      injection h1 with _ h1
      exact h1.symm
    have e4 : Go.splice (wantV r2.now) k [.string ⟨P.toArray⟩] = wantV (r2.now.set k P) := by
      rw [← wantV_set]
      have hkl : k < (wantV r2.now).length := by rw [wantV_length]; exact hk2
      unfold Go.splice
      rw [List.set_eq_take_append_cons_drop, if_pos hkl]
      rfl
    rw [e4] at H4
    have p2 : w4.cell? ⟨rb, 2, none⟩ = some u2 := H4.cellAt (.head _) rfl
    have h5 := H4.made 107 (turnV (k, P))
    obtain ⟨v', w6, hap, H6, _⟩ := Hold.append [_, _, _, _] h5 48 48 Try.underlying48 infoT (by decide) (by decide) (some ⟨w4.heap.size, 0, none⟩) 1 1 (turnV (k, P)) rfl (fun _ => ⟨w4.heap.size, 0, rfl, fun j u hj => by rw [Nat.zero_add]; exact h5.cellAt (.head _) hj⟩) (fun h => by cases h) (by intro u hu; simp [turnV] at hu; rcases hu with rfl | rfl <;> rfl) (by omega)
    have p6 : w6.cell? ⟨rb, 2, none⟩ = some u2 := H6.cellAt (.tail _ (.head _)) rfl
    have f6 : w6.frozen? ⟨rb, 2, none⟩ = false := H6.frozenAt (.tail _ (.head _)) 2
    obtain ⟨p', c', hv', _, _⟩ := row_slice (H6.rowAt (v := v') (.tail _ (.tail _ (.tail _ (.tail _ (.head _))))))
    subst hv'
    have h7 := (H6.store [_] 2 (.slice p' (r2.wr.length + 1) c') _ rfl).forget []
    have HF : Hid (RefIn w0 (w6.setCell ⟨rb, 2, none⟩ (.slice p' (r2.wr.length + 1) c')) rb (r2.laid k P) l2) := by
      refine ⟨hok2.laid hk2 hPl, u0, .slice (some ⟨g', 0, none⟩) r2.now.length cap', .slice p' (r2.wr.length + 1) c', ?_⟩
      have e1 : rowU (.slice p' (r2.wr.length + 1) c') (r2.laid k P).wr = .row (.slice p' (r2.wr.length + 1) c') 107 2 (r2.wr.length + 1) (flatT r2.wr ++ turnV (k, P)) := by
        unfold rowU
        show Res.row _ _ _ (r2.wr ++ [(k, P)]).length (flatT (r2.wr ++ [(k, P)])) = _
        rw [flatT_snoc, List.length_append]
        rfl
      have e2 : ∀ v, rowT v (r2.laid k P).now = .row v 9 1 r2.now.length (wantV (r2.now.set k P)) := fun v => by
        unfold rowT
        show Res.row _ _ _ (r2.now.set k P).length _ = _
        rw [List.length_set]
        rfl
      unfold refL
      rw [e1, e2]
      exact h7
    rw [hw4] at p2 hap
    simp only [turnV] at hap
    rw [World.size_setCell] at hap
    clear H3 H4 h5 H6 h7 hs4 hg4 e4 hok2 hn2 hwr2
    go_wp2_with (at_builtin; refine wpList_appendI rfl _ _ 48 48 rfl u2 (.slice (some ⟨w3.heap.size, 0, none⟩) 1 1) rfl rfl hap ?_)
    go_ret
    exact ⟨rfl, unhide HF⟩
#print axioms rwrite_calls
end Go.Proofs.Ytlibbkdpkpaglaa
