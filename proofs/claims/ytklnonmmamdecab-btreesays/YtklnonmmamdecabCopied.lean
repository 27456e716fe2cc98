/-
  The contracts of node.copied and Tree.Copy, over the seat's program: the same entries in new nodes, the old ones as they were.
-/
import Derived.Test.YtklnonmmamdecabTreeFacts
import Derived.Deep.RegionLaw
namespace Go.Proofs.Ytklnonmmamdecab
open Go.RowKit Go.Lib
set_option linter.unusedVariables false
set_option linter.unusedSimpArgs false

section
variable {base : Nat} {w0 w : World} {K0 : Nat → Nat}
/-- How Clone ends. -/
def ItemsEnd (base : Nat) (w0 : World) (K0 : Nat → Nat) (its : List Item) (rs : List Res) (e : Ending) (w' : World) : Prop :=
  ∃ v, e = .returned v ∧ Hold base w0 K0 w' (rowI v its :: rs)
theorem hold_cloneAll {rs : List Res} (H : Hold base w0 K0 w rs) {v : Value} {its : List Item} (hm : rowI v its ∈ rs) (hb : base ≤ w.heap.size) (hl : its.length ≤ 100) :
    Calls Try.prog 34 #[v] w fun e w' => ItemsEnd base w0 K0 its rs e w' := by
  have hr : w.ownsRow base 58 3 v its.length (flat its) := H.rowAt hm
  rcases hr.2 with ⟨hv, hn⟩ | ⟨g, cap, cur, hv, _⟩
  · have h0 : its = [] := List.eq_nil_of_length_eq_zero hn
    subst hv h0
    refine (cloneI_nil w).mono ?_
    rintro e w' ⟨rfl, rfl⟩
    exact ⟨_, rfl, H.nilRow 58 3⟩
  · subst hv
    refine (cloneI_calls base g 0 its.length cap (flat its) w (by rw [flat_length]) hl hb (fun j u hu => ?_) (flat_one _)).mono ?_
    · have hj := (List.getElem?_eq_some_iff.1 hu).1
      rw [flat_length] at hj
      rw [Nat.zero_add, hr.cellAt j (by omega)]
      exact hu
    · rintro e w' ⟨v', rfl, hr', ha, hbel⟩
      exact ⟨v', rfl, H.newRow hbel hr' ha⟩
/-- No nodes. -/
theorem Hold.noSubs {rs : List Res} (H : Hold base w0 K0 w rs) (h : Nat) : Hold base w0 K0 w (.subs h [] :: rs) :=
  H.conv (fun x => by simp only [total_cons, foot_subs]; simp [owns]) (fun r hr => by
    rcases List.mem_cons.1 hr with rfl | h
    · exact fun x hx => by simp at hx
    · exact H.sat r h)
/-- One node behind a row. -/
theorem hold_appendOneN (l1 : List Res) {v : Value} {a : List Kid} {l2 : List Res} {vb : Nat} {m : Kid} (H : Hold base w0 K0 w (.cell vb 49 [ptrV m.b] :: (l1 ++ rowN v a :: l2))) (hn : a.length ≤ 90) (ty : TypeId) :
    ∃ v' w', (Builtin.append_ #[51, 51] ty #[v, .slice (some ⟨vb, 0, none⟩) 1 1]).run Try.prog w = .ok v' w' ∧ Hold base w0 K0 w' (l1 ++ rowN v' (a ++ [m]) :: l2) := by
  obtain ⟨i0, hi, hz0, hz1, hz2⟩ := info_parts info49
  have hv : w.ownsRow base 49 1 v a.length (a.map fun y => ptrV y.b) := H.rowAt (by simp [rowN])
  obtain ⟨v', w', hr, ho, hg, _, ha⟩ := run_append_own_at (P := Try.prog) w base 51 ty 49 i0 _ 1 8 Try.underlying51 hi hz0 hz1 hz2 rfl (by decide) v a.length _ hv ⟨vb, 0, none⟩ 1 1 [ptrV m.b] rfl (fun j u hj => by
      rw [Addr.add_lit, Nat.zero_add]
      exact H.cellAt (t := 49) (vs := [ptrV m.b]) (by simp) hj) (fun u hu => by simp at hu; subst hu; rfl) (by unfold maxLen; omega) (by omega) (H.low (b := vb) (t := 49) (vs := [ptrV m.b]) (by simp))
  refine ⟨v', w', hr, ?_⟩
  have e1 : (a.map fun y => ptrV y.b) ++ [ptrV m.b] = (a ++ [m]).map fun y => ptrV y.b := by simp
  have e2 : a.length + 1 = (a ++ [m]).length := by simp
  rw [e1, e2] at ho
  exact (H.forget []).grow l1 hg ho (ha.imp id fun h => ⟨_, h, Nat.le_refl _⟩)
end

/-- A call of a function with one argument, as one step of a region that draws. -/
theorem step_call1I {P : Program} {ops : Array Oper} {o : Oper} {a : Act} {w : World} {K : Act → World → Prop} {Q : Exit → Act → World → Prop} {E : Prop}
    (hg : o.guard = none) (f : FuncId) {fn : Func} (hfn : P.funcs[f]? = some fn) (hnm : ¬ (fn.name = "runtime.NumGoroutine")) (hbd : ¬ (fn.body = none)) (x : Operand) (t : TypeId) (hop : o.op = Op.call { callee := Callee.value (Operand.func f), args := #[x], argTypes := #[t] })
    (v : Value) (hx : a.eval x = v) {R : Ending → World → Prop} (hc : Calls P f #[v] w R) (hK : ∀ e w', R e w' → ∃ u, e = .returned u ∧ K (a.put o.dst u) w') :
    if Region.wanted o (yielded ops a.tmps) = true then Oper.wp P o a w K Q else E := by
  have hw : Region.wanted o (yielded ops a.tmps) = true := by simp [Region.wanted, hg]
  rw [if_pos hw]
  unfold Oper.wp
  have hr : (execOp a.eval o).run P w = .ok (.enter f #[v]) w := by
    simp [execOp, hop, resolve, invoke, hx, Act.eval, Deferred.ofValue, callFunc, Result.andThen, hfn, hnm, hbd]
    rw [← hx]
    cases x <;> simp [Act.eval, Array.getD_eq_getD_getElem?]
  rw [hr, Oper.upon_enter]
  refine hc.mono ?_
  intro e w' hr
  obtain ⟨u, rfl, hk⟩ := hK e w' hr
  exact hk

theorem nm27 : ¬ (Try.f27.name = "runtime.NumGoroutine") := by decide
theorem bd27 : ¬ (Try.f27.body = none) := by intro h; cases h
theorem Hold.copyIn {base : Nat} {w0 w : World} {K0 : Nat → Nat} {h : Nat} {kk kk' : Kid} {A B C D E F : Res} {ks' ks1 ks2 : List Kid} {l2 : List Res} (H : Hold base w0 K0 w (.sub h kk' :: .sub h kk :: A :: B :: C :: .subs h ks' :: D :: E :: F :: .subs h (ks1 ++ ks2) :: l2)) : Hold base w0 K0 w (A :: B :: C :: .subs h (ks' ++ [kk']) :: D :: E :: F :: .subs h (ks1 ++ kk :: ks2) :: l2) := by
  have s1 : Sub base w h kk' := H.sat (.sub h kk') (by simp)
  have s2 : Sub base w h kk := H.sat (.sub h kk) (by simp)
  have s3 : ∀ x ∈ ks', Sub base w h x := H.sat (.subs h ks') (by simp)
  have s4 : ∀ x ∈ ks1 ++ ks2, Sub base w h x := H.sat (.subs h (ks1 ++ ks2)) (by simp)
  refine H.conv (fun x => ?_) (fun r hr => ?_)
  · simp only [total_cons, foot_sub, foot_subs, owns_append, owns_cons, owns_nil]
    omega
  · simp only [List.mem_cons] at hr
    rcases hr with rfl | rfl | rfl | rfl | rfl | rfl | rfl | rfl | hr
    · exact H.sat _ (by simp)
    · exact H.sat _ (by simp)
    · exact H.sat _ (by simp)
    · intro x hx
      simp at hx
      rcases hx with h1 | rfl
      · exact s3 x h1
      · exact s1
    · exact H.sat _ (by simp)
    · exact H.sat _ (by simp)
    · exact H.sat _ (by simp)
    · intro x hx
      simp at hx
      rcases hx with h1 | rfl | h1
      · exact s4 x (by simp [h1])
      · exact s2
      · exact s4 x (by simp [h1])
    · exact H.sat r (by simp [hr])

/-- How copied ends. -/
def CopyEnd (base : Nat) (w0 : World) (K0 : Nat → Nat) (h : Nat) (k : Kid) (l2 : List Res) (e : Ending) (w' : World) : Prop :=
  ∃ k' : Kid, e = .returned (.pointer (some ⟨k'.b, 0, none⟩)) ∧ k'.c = k.c ∧ k'.L = k.L ∧ Hold base w0 K0 w' (.sub h k' :: .sub h k :: l2)
def CopySpec (h : Nat) : Prop := ∀ (base : Nat) (w0 : World) (K0 : Nat → Nat) (w : World) (k : Kid) (l2 : List Res), Hold base w0 K0 w (.sub h k :: l2) → k.c ≤ 3 →
  Calls Try.prog 27 #[.pointer (some ⟨k.b, 0, none⟩)] w fun e w' => CopyEnd base w0 K0 h k l2 e w'

set_option maxRecDepth 100000 in
set_option maxHeartbeats 4000000 in
theorem copied_step (h : Nat) (ih : 0 < h → CopySpec (h - 1)) : CopySpec h := by
  intro base w0 K0 w k l2 H hc
  obtain ⟨its, kids, v0, v1, hcc, hL, hsh, hfit, hown, H1⟩ := Hold.openk [] H
  simp only [List.nil_append] at H1
  have q0 : w.cell? ⟨k.b, 0, none⟩ = some v0 := H1.cellAt (t := 53) (vs := [v0, v1]) (by simp [nodeR]) rfl
  have hbw : base ≤ w.heap.size := H1.low (b := k.b) (t := 53) (vs := [v0, v1]) (by simp [nodeR])
  obtain ⟨N, hN⟩ : ∃ N, kids.length = N := ⟨_, rfl⟩
  have hN4 : N ≤ 4 := by
    rcases hsh with ⟨_, h0⟩ | ⟨_, h0⟩
    · rw [← hN, h0]; simp
    · omega
  have r1 : w.ownsRow base 49 1 v1 N (kids.map fun y => ptrV y.b) := by rw [← hN]; exact H1.rowAt (by simp [rowN])
  obtain ⟨p1, cap1, hv1⟩ := row_len r1
  subst hv1
  have e1 := hold_cloneAll H1 (v := v0) (its := its) (by simp) hbw (by omega)
  have E1 := hide e1
  have IH := hide ih
  have Hcc := hide hcc
  have HL := hide hL
  have Hsh := hide hsh
  have Hfit := hide hfit
  have Hown := hide hown
  have HN := hide hN
  clear e1 ih hcc hL hsh hfit hown hN r1 H H1
  go_enter Try.func27, Try.ntmps27
  go_wp2_with fail
  refine (unhide E1).mono ?_
  rintro e w2 ⟨v0', rfl, H2⟩
  obtain ⟨p0, c0, hv0'⟩ := row_len (H2.rowAt (v := v0') (e := 58) (k := 3) (n := its.length) (xs := flat its) (by simp [rowI]))
  subst hv0'
  have hbw2 : base ≤ w2.heap.size := H2.low (b := k.b) (t := 53) (vs := [v0, .slice p1 N cap1]) (by simp [nodeR])
  have H3 := H2.made hbw2 53 [.slice p0 its.length c0, .slice none 0 0]
  have c1 : ∀ o, (w2.alloc o).cell? ⟨k.b, 1, none⟩ = some (.slice p1 N cap1) := fun o => (H2.alloc o).cellAt (t := 53) (vs := [v0, .slice p1 N cap1]) (by simp [nodeR]) rfl
  obtain ⟨nb, hnb⟩ : ∃ nb, w2.heap.size = nb := ⟨_, rfl⟩
  have H4 : Hold base w0 K0 (w2.alloc (.cells #[.slice p0 its.length c0, .slice none 0 0] 53)) (nodeR nb (.slice p0 its.length c0) (.slice none 0 0) :: rowI (.slice p0 its.length c0) its :: rowN (.slice none 0 0) [] :: .subs (h - 1) [] :: nodeR k.b v0 (.slice p1 N cap1) :: rowI v0 its :: rowN (.slice p1 N cap1) kids :: .subs (h - 1) kids :: l2) := by
    rw [← hnb]
    exact (((H3.noSubs (h - 1)).nilRow 49 1).front [_, _, _]).front [_, _, _]
  have HH4 := hide H4
  clear H2 H3 H4 E1 q0
  go_wp2_with fail
  go_loopg [18] (N + 1) (fun g vi wr => ∃ (i : Nat) (p' : Option Addr) (c' : Nat) (ks' : List Kid), N - i < g ∧ i ≤ N ∧ vi = .int .i64 i ∧ Hid (ks'.length = i ∧ ks'.map Kid.L = (kids.take i).map Kid.L ∧ ∀ x ∈ ks', Fit x) ∧ Hid (Hold base w0 K0 wr (nodeR nb (.slice p0 its.length c0) (.slice p' i c') :: rowI (.slice p0 its.length c0) its :: rowN (.slice p' i c') ks' :: .subs (h - 1) ks' :: nodeR k.b v0 (.slice p1 N cap1) :: rowI v0 its :: rowN (.slice p1 N cap1) kids :: .subs (h - 1) kids :: l2)))
  case atStart => exact ⟨0, none, 0, [], by omega, by omega, rfl, ⟨rfl, rfl, fun x hx => by simp at hx⟩, HH4⟩
  case round =>
    obtain ⟨i, p', c', ks', hg, hi, rfl, HK, HR⟩ := hrel
    by_cases hin : i < N
    · have hz : (i : Int) < (N : Int) := by omega
      have hhp : 0 < h := by
        rcases unhide Hsh with ⟨_, h0⟩ | ⟨h0, _⟩
        · have := unhide HN; rw [h0] at this; simp at this; omega
        · exact h0
      obtain ⟨kk, hkk⟩ : ∃ kk, kids[i]? = some kk := ⟨_, List.getElem?_eq_getElem (by have := unhide HN; omega)⟩
      have hsplit : kids = kids.take i ++ kk :: kids.drop (i + 1) := by
        obtain ⟨hlt, rfl⟩ := List.getElem?_eq_some_iff.1 hkk
        rw [← List.drop_eq_getElem_cons hlt, List.take_append_drop]
      obtain ⟨ks1, hks1⟩ : ∃ a, kids.take i = a := ⟨_, rfl⟩
      obtain ⟨ks2, hks2⟩ : ∃ a, kids.drop (i + 1) = a := ⟨_, rfl⟩
      rw [hks1, hks2] at hsplit
      have r1 : wr.ownsRow base 49 1 (.slice p1 N cap1) N (kids.map fun y => ptrV y.b) := by have := (unhide HR).rowAt (v := .slice p1 N cap1) (e := 49) (k := 1) (n := kids.length) (xs := kids.map fun y => ptrV y.b) (by simp [rowN]); rwa [unhide HN] at this
      obtain ⟨g1, cap', e1, _⟩ := row_shape r1 (by omega)
      injection e1 with e1 _ e2
      subst e1 e2
      have pc := ptr_cell r1 hkk
      have q1 : wr.cell? ⟨nb, 1, none⟩ = some (.slice p' i c') := (unhide HR).cellAt (t := 53) (vs := [.slice p0 its.length c0, .slice p' i c']) (by simp [nodeR]) rfl
      have hfk : Fit kk := unhide Hfit kk (List.mem_of_getElem? hkk)
      have H5 : Hold base w0 K0 wr ([nodeR nb (.slice p0 its.length c0) (.slice p' i c'), rowI (.slice p0 its.length c0) its, rowN (.slice p' i c') ks', .subs (h - 1) ks', nodeR k.b v0 (.slice (some ⟨g1, 0, none⟩) N cap1), rowI v0 its, rowN (.slice (some ⟨g1, 0, none⟩) N cap1) kids] ++ .subs (h - 1) (ks1 ++ kk :: ks2) :: l2) := by rw [← hsplit]; exact unhide HR
      have H6 := (H5.take _).front _
      have eC : ∀ wx, Hold base w0 K0 wx (.sub (h - 1) kk :: ([nodeR nb (.slice p0 its.length c0) (.slice p' i c'), rowI (.slice p0 its.length c0) its, rowN (.slice p' i c') ks', .subs (h - 1) ks', nodeR k.b v0 (.slice (some ⟨g1, 0, none⟩) N cap1), rowI v0 its, rowN (.slice (some ⟨g1, 0, none⟩) N cap1) kids] ++ .subs (h - 1) (ks1 ++ ks2) :: l2)) → Calls Try.prog 27 #[.pointer (some ⟨kk.b, 0, none⟩)] wx fun e w' => CopyEnd base w0 K0 (h - 1) kk ([nodeR nb (.slice p0 its.length c0) (.slice p' i c'), rowI (.slice p0 its.length c0) its, rowN (.slice p' i c') ks', .subs (h - 1) ks', nodeR k.b v0 (.slice (some ⟨g1, 0, none⟩) N cap1), rowI v0 its, rowN (.slice (some ⟨g1, 0, none⟩) N cap1) kids] ++ .subs (h - 1) (ks1 ++ ks2) :: l2) e w' := fun wx hx => unhide IH hhp base w0 K0 wx kk _ hx hfk.2
      have eA : ∀ (w5 : World) (kk' : Kid), Hold base w0 K0 w5 (.sub (h - 1) kk' :: .sub (h - 1) kk :: ([nodeR nb (.slice p0 its.length c0) (.slice p' i c'), rowI (.slice p0 its.length c0) its, rowN (.slice p' i c') ks', .subs (h - 1) ks', nodeR k.b v0 (.slice (some ⟨g1, 0, none⟩) N cap1), rowI v0 its, rowN (.slice (some ⟨g1, 0, none⟩) N cap1) kids] ++ .subs (h - 1) (ks1 ++ ks2) :: l2)) → ∃ p6 c6 w6, (Builtin.append_ #[51, 51] 51 #[.slice p' i c', .slice (some ⟨w5.heap.size, 0, none⟩) 1 1]).run Try.prog (w5.alloc (.cells #[.pointer (some ⟨kk'.b, 0, none⟩)] 49)) = .ok (.slice p6 (i + 1) c6) w6 ∧ Hold base w0 K0 w6 ([.sub (h - 1) kk', .sub (h - 1) kk, nodeR nb (.slice p0 its.length c0) (.slice p' i c'), rowI (.slice p0 its.length c0) its] ++ rowN (.slice p6 (i + 1) c6) (ks' ++ [kk']) :: [.subs (h - 1) ks', nodeR k.b v0 (.slice (some ⟨g1, 0, none⟩) N cap1), rowI v0 its, rowN (.slice (some ⟨g1, 0, none⟩) N cap1) kids] ++ .subs (h - 1) (ks1 ++ ks2) :: l2) := by
        intro w5 kk' hx
        have hb5 : base ≤ w5.heap.size := hx.low (b := nb) (t := 53) (vs := [.slice p0 its.length c0, .slice p' i c']) (by simp [nodeR])
        have hx2 := hx.made hb5 49 [.pointer (some ⟨kk'.b, 0, none⟩)]
        obtain ⟨v', w', hrun, hold⟩ := hold_appendOneN (m := kk') [.sub (h - 1) kk', .sub (h - 1) kk, nodeR nb (.slice p0 its.length c0) (.slice p' i c'), rowI (.slice p0 its.length c0) its] hx2 (by have := (unhide HK).1; omega) 51
        have r6 := hold.rowAt (v := v') (e := 49) (k := 1) (n := (ks' ++ [kk']).length) (xs := (ks' ++ [kk']).map fun y => ptrV y.b) (by simp [rowN])
        obtain ⟨p6, c6, hv6⟩ := row_len r6
        rw [List.length_append, (unhide HK).1] at hv6
        rw [hv6] at hrun hold
        exact ⟨p6, c6, w', hrun, hold⟩
      have EC := hide eC
      have EA := hide eA
      have H6' := hide H6
      have Hs := hide hsplit
      have Hk1 := hide hks1
      have Hkk := hide hkk
      clear eC eA H5 H6 hsplit hks1 hks2 hkk r1 hfk
      go_wp2_with fail
      go_region_law (first
        | (refine step_call1I rfl 27 Try.func27 nm27 bd27 _ 49 rfl (.pointer (some ⟨kk.b, 0, none⟩)) (by simp [Act.eval, Act.put]) (unhide EC _ (unhide H6').drew) ?_
           rintro e w5 ⟨kk', rfl, hc5, hL5, H5⟩
           refine ⟨_, rfl, ?_⟩
           have k5 : w5.cell? ⟨nb, 1, none⟩ = some (.slice p' i c') := H5.cellAt (t := 53) (vs := [.slice p0 its.length c0, .slice p' i c']) (by simp [nodeR]) rfl
           have k5a : ∀ o, (w5.alloc o).cell? ⟨nb, 1, none⟩ = some (.slice p' i c') := fun o => Lib.cell?_alloc_some _ k5
           have Hc5 := hide hc5
           have HL5 := hide hL5
           have H5' := hide H5
           clear H5 hc5 hL5)
        | (obtain ⟨p6, c6, w6, hr6, H7⟩ := unhide EA w5 kk' (unhide H5')
           have k6 : w6.cell? ⟨nb, 1, none⟩ = some (.slice p' i c') := H7.cellAt (t := 53) (vs := [.slice p0 its.length c0, .slice p' i c']) (by simp [nodeR]) rfl
           have kf6 : w6.frozen? ⟨nb, 1, none⟩ = false := H7.frozenAt (t := 53) (vs := [.slice p0 its.length c0, .slice p' i c']) (by simp [nodeR]) 1
           have H7' := hide H7
           clear H7
           refine step_append_runI rfl _ _ 51 51 rfl (.slice p' i c') (.slice (some ⟨w5.heap.size, 0, none⟩) 1 1) (by simp [Act.eval, Act.put]) (by simp [Act.eval, Act.put]) hr6 ?_
           clear hr6))
      all_goals
        go_wp2_with fail
        go_roundg (N - i)
        case measure => omega
        case rel =>
          refine ⟨i + 1, p6, c6, ks' ++ [kk'], by omega, by omega, by simp, ?_, ?_⟩
          · obtain ⟨h1, h2, h3⟩ := unhide HK
            refine ⟨by simp [h1], ?_, fun x hx => ?_⟩
            · rw [List.map_append, h2, List.take_add_one, unhide Hkk]
              simp [unhide HL5]
            · simp at hx
              rcases hx with h | rfl
              · exact h3 x h
              · have := unhide Hfit kk (List.mem_of_getElem? (unhide Hkk))
                exact ⟨by rw [unhide Hc5]; exact this.1, by rw [unhide Hc5]; exact this.2⟩
          · have h8 := (unhide H7').store [.sub (h - 1) kk', .sub (h - 1) kk] 1 (.slice p6 (i + 1) c6) [.slice p0 its.length c0, .slice p6 (i + 1) c6] rfl
            have h9 := h8.copyIn
            rw [← unhide Hs] at h9
            exact h9
    · have hz : ¬ ((i : Int) < (N : Int)) := by omega
      have hiN : i = N := by omega
      subst hiN
      obtain ⟨h1, h2, h3⟩ := unhide HK
      rw [List.take_of_length_le (by have := unhide HN; omega)] at h2
      have hsh' : Shape h its ks' := by
        rcases unhide Hsh with ⟨h4, h5⟩ | ⟨h4, h5⟩
        · refine .inl ⟨h4, List.eq_nil_of_length_eq_zero ?_⟩
          have := unhide HN
          rw [h5] at this
          simp at this
          omega
        · exact .inr ⟨h4, by have := unhide HN; omega⟩
      obtain ⟨k', hb', hc', hL', H'⟩ := Hold.shut [] (unhide HR) hsh' h3
      have H'' := Hold.shutk [.sub h k'] H' (unhide Hcc) (unhide HL) (unhide Hsh) (unhide Hfit) (unhide Hown)
      have HE : Hid (CopyEnd base w0 K0 h k l2 (.returned (.pointer (some ⟨nb, 0, none⟩))) wr) := ⟨k', by rw [hb'], by rw [hc', unhide Hcc], by rw [hL', unhide HL, h2], H''⟩
      clear h1 h2 h3 hsh' hb' hc' hL' H' H''
      go_wp2_with fail
      go_ret
      exact unhide HE

theorem copied_all (h : Nat) : CopySpec h := by
  induction h with
  | zero => exact copied_step 0 (fun h => absurd h (by omega))
  | succ h ih => exact copied_step (h + 1) (fun _ => ih)

/-- How Copy ends. -/
def TreeCopyEnd (base : Nat) (w0 : World) (K0 : Nat → Nat) (tb : Nat) (L : List Item) (l2 : List Res) (e : Ending) (w' : World) : Prop :=
  ∃ tb' h' k', e = .returned (.pointer (some ⟨tb', 0, none⟩)) ∧ k'.L = L ∧ k'.c ≤ 3 ∧ (h' = 0 ∨ 1 ≤ k'.c) ∧ TreeIn base w0 K0 w' tb L (.cell tb' 55 [ptrV k'.b] :: .sub h' k' :: l2)

set_option maxRecDepth 100000 in
theorem treeCopy_calls (base : Nat) (w0 : World) (K0 : Nat → Nat) (w : World) (tb : Nat) (L : List Item) (l2 : List Res) (HT : TreeIn base w0 K0 w tb L l2) :
    Calls Try.prog 14 #[.pointer (some ⟨tb, 0, none⟩)] w fun e w' => TreeCopyEnd base w0 K0 tb L l2 e w' := by
  obtain ⟨hs, h, k, hL, hc, hc1, H⟩ := HT
  have q0 : w.cell? ⟨tb, 0, none⟩ = some (.pointer (some ⟨k.b, 0, none⟩)) := H.cellAt (t := 55) (vs := [ptrV k.b]) (by simp) rfl
  have e1 := copied_all h base w0 K0 w k _ (H.front [_]) hc
  have E1 := hide e1
  have HL := hide hL
  have HS := hide hs
  have Hc1 := hide hc1
  clear e1 hL hs hc1 H
  go_enter Try.func14, Try.ntmps14
  go_wp2_with fail
  refine (unhide E1).mono ?_
  rintro e w2 ⟨k', rfl, hc', hL', H2⟩
  have hb2 : base ≤ w2.heap.size := H2.low (b := tb) (t := 55) (vs := [ptrV k.b]) (by simp)
  have H3 := H2.made hb2 55 [ptrV k'.b]
  have HE : Hid (TreeCopyEnd base w0 K0 tb L l2 (.returned (.pointer (some ⟨w2.heap.size, 0, none⟩))) (w2.alloc (.cells #[.pointer (some ⟨k'.b, 0, none⟩)] 55))) := by
    refine ⟨w2.heap.size, h, k', rfl, by rw [hL', unhide HL], by omega, ?_, unhide HS, h, k, unhide HL, hc, unhide Hc1, ?_⟩
    · rw [hc']; exact unhide Hc1
    · exact (H3.front [_, _]).front [_, _, _]
  clear hc' hL' H2 H3 E1
  go_wp2_with fail
  go_ret
  exact unhide HE
#print axioms treeCopy_calls
end Go.Proofs.Ytklnonmmamdecab
