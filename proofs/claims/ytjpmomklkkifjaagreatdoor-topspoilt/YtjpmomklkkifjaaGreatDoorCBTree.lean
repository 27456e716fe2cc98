import Derived.Test.YtjpmomklkkifjaaGreatDoorCBPutFacts
set_option maxRecDepth 100000
set_option linter.unusedVariables false
set_option linter.unusedSimpArgs false
namespace Go.Proofs.YtjpmomklkkifjaaGreatDoor.T
open Go.RowKit Go.Lib
def PutEnd (base : Nat) (w0 : World) (K0 : Nat → Nat) (h : Nat) (k : Kid) (it : Item) (l2 : List Res) (e : Ending) (w' : World) : Prop :=
  e = .returned (.tuple #[]) ∧ ∃ k' : Kid, k'.b = k.b ∧ k'.L = putL k.L it ∧ k.c ≤ k'.c ∧ k'.c ≤ k.c + 1 ∧ Hold base w0 K0 w' (.sub h k' :: l2)
def PutSpec (h : Nat) : Prop := ∀ (base : Nat) (w0 : World) (K0 : Nat → Nat) (w : World) (k : Kid) (it : Item) (l2 : List Res), Hold base w0 K0 w (.sub h k :: l2) → Sorted k.L → k.c ≤ 3 →
  Calls Tryz.prog 190 #[.pointer (some ⟨k.b, 0, none⟩), .agg #[.string it.key, .string it.name, .int .i64 it.node]] w fun e w' => PutEnd base w0 K0 h k it l2 e w'
theorem store_item {base : Nat} {w0 w : World} {K0 : Nat → Nat} (l1 : List Res) {g n cap : Nat} {a c : List Item} {x it : Item} {l2 : List Res} (H : Hold base w0 K0 w (l1 ++ rowI (.slice (some ⟨g, 0, none⟩) n cap) (a ++ x :: c) :: l2)) {i : Nat} (hi : a.length = i) (hn : (a ++ x :: c).length = n) :
    Hold base w0 K0 (((w.setCell ⟨g, i * 3, none⟩ (.string it.key)).setCell ⟨g, i * 3 + 1, none⟩ (.string it.name)).setCell ⟨g, i * 3 + 2, none⟩ (.int .i64 it.node)) (l1 ++ rowI (.slice (some ⟨g, 0, none⟩) n cap) (a ++ it :: c) :: l2) := by
  have hr : w.ownsRow base 190 3 (.slice (some ⟨g, 0, none⟩) n cap) n (flat (a ++ x :: c)) := by have := H.rowAt (v := .slice (some ⟨g, 0, none⟩) n cap) (e := 190) (k := 3) (n := (a ++ x :: c).length) (xs := flat (a ++ x :: c)) (by simp [rowI]); rwa [hn] at this
  obtain ⟨r1, g1⟩ := hr.stored (i * 3) (.string it.key)
  obtain ⟨r2, g2⟩ := r1.stored (i * 3 + 1) (.string it.name)
  obtain ⟨r3, g3⟩ := r2.stored (i * 3 + 2) (.int .i64 it.node)
  rw [flat_set _ i it (by simp; omega)] at r3
  have e1 : (a ++ x :: c).set i it = a ++ it :: c := by rw [← hi, List.set_append_right _ _ (Nat.le_refl _)]; simp
  rw [e1] at r3
  have e2 : n = (a ++ it :: c).length := by rw [← hn]; simp
  have := H.grow l1 ((g1.trans g2).trans g3) r3 (.inl rfl)
  show Hold base w0 K0 _ (l1 ++ Res.row _ 190 3 (a ++ it :: c).length (flat (a ++ it :: c)) :: l2)
  rw [← e2]
  exact this
set_option maxRecDepth 100000 in
set_option maxHeartbeats 4000000 in
theorem put_step (h : Nat) (ih : 0 < h → PutSpec (h - 1)) (base : Nat) (w0 : World) (K0 : Nat → Nat) (w : World) (k : Kid) (it : Item) (l2 : List Res) (H : Hold base w0 K0 w (.sub h k :: l2)) (hs : Sorted k.L) (hc : k.c ≤ 3) :
    Calls Tryz.prog 190 #[.pointer (some ⟨k.b, 0, none⟩), .agg #[.string it.key, .string it.name, .int .i64 it.node]] w fun e w' => PutEnd base w0 K0 h k it l2 e w' := by
  obtain ⟨its, kids, v0, v1, hcc, hL, hsh, hfit, H1⟩ := H.open []
  simp only [List.nil_append] at H1
  obtain ⟨b, hb⟩ : ∃ b, k.b = b := ⟨_, rfl⟩
  rw [hb] at H1 ⊢
  rw [hcc] at hc
  rw [hL] at hs
  have hbw : base ≤ w.heap.size := H1.low (b := b) (t := 188) (vs := [v0, v1]) (by simp [nodeR])
  have H2 := H1.made hbw 190 (cellsOf it)
  have e1 := find_calls b v0 its it.key _ (H2.cellAt (b := b) (t := 188) (vs := [v0, v1]) (by simp [nodeR]) (j := 0) rfl) base (H2.rowAt (by simp [rowI])) (hsh.sorted hs) (by omega)
  have E1 := hide e1
  have HH := hide H2
  have IH := hide ih
  have HS := hide hs
  have HL := hide hL
  have Hsh := hide hsh
  have Hfit := hide hfit
  have Hcc := hide hcc
  have Hb := hide hb
  clear H H1 H2 e1 ih hs hL hsh hfit hcc hb
  go_enter Tryz.func190, Tryz.ntmps190
  go_wp2_with fail
  refine (unhide E1).mono ?_
  rintro e w2 ⟨at', is', rfl, hF, hB⟩
  have H3 := hide ((unhide HH).below hB)
  clear HH hB E1
  generalize w.heap.size = xb at H3 hbw ⊢
  obtain ⟨n0, hn0⟩ : ∃ n0, its.length = n0 := ⟨_, rfl⟩
  rcases hF.split with ⟨rfl, a, x, c, rfl, ha, hx, hlow⟩ | ⟨rfl, a, c, rfl, ha, hlow, hhigh⟩
  · have h3 := unhide H3
    have r0 : w2.ownsRow base 190 3 v0 n0 (flat (a ++ x :: c)) := by rw [← hn0]; exact h3.rowAt (by simp [rowI])
    have han : at' < n0 := by rw [← hn0, ← ha]; simp
    obtain ⟨g0, cap0, rfl, hc0, hm0⟩ := row_shape r0 (by omega)
    have q0 : w2.cell? ⟨b, 0, none⟩ = some (.slice (some ⟨g0, 0, none⟩) n0 cap0) := h3.cellAt (t := 188) (vs := [.slice (some ⟨g0, 0, none⟩) n0 cap0, v1]) (by simp [nodeR]) rfl
    have q1 : w2.cell? ⟨xb, 0, none⟩ = some (.string it.key) := h3.cellAt (t := 190) (vs := cellsOf it) (by simp) rfl
    have q2 : w2.cell? ⟨xb, 1, none⟩ = some (.string it.name) := h3.cellAt (t := 190) (vs := cellsOf it) (by simp) rfl
    have q3 : w2.cell? ⟨xb, 2, none⟩ = some (.int .i64 it.node) := h3.cellAt (t := 190) (vs := cellsOf it) (by simp) rfl
    obtain ⟨s1, s2, s3⟩ := item_cell r0 (j := at') (x := x) (by rw [← ha]; simp)
    have f1 := r0.frozenAt (at' * 3)
    have f2 := r0.frozenAt (at' * 3 + 1)
    have f3 := r0.frozenAt (at' * 3 + 2)
    have hz : (at' : Int) < (n0 : Int) := by omega
    have HA := hide ha
    have HX := hide hx
    have HN := hide hn0
    clear h3 r0 hF hlow ha hx hn0
    go_wp2_with fail
    go_big_region
    go_wp2_with fail
    refine bodyPost_ret (results_none rfl _ _ _) rfl ?_
    have H4 := (store_item [.cell xb 190 (cellsOf it), nodeR b (.slice (some ⟨g0, 0, none⟩) n0 cap0) v1] (it := it) (unhide H3) (unhide HA) (unhide HN)).drew.forget []
    have hsh' : Shape h (a ++ it :: c) kids := by rcases unhide Hsh with ⟨h1, h2⟩ | ⟨h1, h2⟩; exact .inl ⟨h1, h2⟩; exact .inr ⟨h1, by simpa using h2⟩
    obtain ⟨k', b1, n1, L1, H5⟩ := H4.shut [] (h := h) hsh' (unhide Hfit)
    refine ⟨rfl, k', by rw [b1]; exact (unhide Hb).symm, ?_, by rw [n1, unhide Hcc]; simp, by rw [n1, unhide Hcc]; simp, H5⟩
    obtain ⟨A, C, e⟩ := inter_set a c (kids.map Kid.L) (by
      rcases unhide Hsh with ⟨h1, h2⟩ | ⟨h1, h2⟩
      · exact .inl (by rw [h2]; rfl)
      · exact .inr (by simp at h2 ⊢; omega))
    have hs := unhide HS
    rw [L1, unhide HL, e x, e it]
    rw [e x] at hs
    exact (hs.putL_here (unhide HX)).symm
  · have h3 := unhide H3
    have q1 : w2.cell? ⟨b, 1, none⟩ = some v1 := h3.cellAt (t := 188) (vs := [v0, v1]) (by simp [nodeR]) rfl
    have r1 : w2.ownsRow base 128 1 v1 kids.length (kids.map fun y => ptrV y.b) := h3.rowAt (by simp [rowN])
    have hk5 : kids.length ≤ 100 := by rcases unhide Hsh with ⟨h1, h2⟩ | ⟨h1, h2⟩; rw [h2]; simp; rw [h2]; omega
    have e2 := leaf_calls b v0 v1 kids.length w2 q1 base _ r1 hk5
    have E2 := hide e2
    have HA := hide ha
    have HN := hide hn0
    have Hlow := hide hlow
    have Hhigh := hide hhigh
    have hn3 : n0 ≤ 3 := by rw [← hn0]; exact hc
    clear e2 ha hn0 hlow hhigh hF hc
    rcases unhide Hsh with ⟨h0, hk0⟩ | ⟨h0, hk0⟩
    · -- a leaf
      subst hk0
      have q0 : w2.cell? ⟨b, 0, none⟩ = some v0 := h3.cellAt (t := 188) (vs := [v0, v1]) (by simp [nodeR]) rfl
      have p1 : w2.cell? ⟨xb, 0, none⟩ = some (.string it.key) := h3.cellAt (t := 190) (vs := cellsOf it) (by simp) rfl
      have p2 : w2.cell? ⟨xb, 1, none⟩ = some (.string it.name) := h3.cellAt (t := 190) (vs := cellsOf it) (by simp) rfl
      have p3 : w2.cell? ⟨xb, 2, none⟩ = some (.int .i64 it.node) := h3.cellAt (t := 190) (vs := cellsOf it) (by simp) rfl
      have hbw2 : base ≤ w2.heap.size := h3.low (b := b) (t := 188) (vs := [v0, v1]) (by simp [nodeR])
      have Hm : Hid (Hold base w0 K0 (w2.alloc (.cells #[Value.string it.key, Value.string it.name, Value.int .i64 it.node] 190)) (.cell w2.heap.size 190 (cellsOf it) :: _)) := h3.made hbw2 190 (cellsOf it)
      have e3 : ∀ wx, Hold base w0 K0 wx (.cell w2.heap.size 190 (cellsOf it) :: ([.cell xb 190 (cellsOf it), nodeR b v0 v1] ++ rowI v0 (a ++ c) :: (rowN v1 [] :: .subs (h - 1) [] :: l2))) → Calls Tryz.prog 211 #[v0, .int .i64 at', .slice (some ⟨w2.heap.size, 0, none⟩) 1 1] wx fun e w' => RowEnd base w0 K0 (n0 + 1) _ e w' := fun wx hx => hold_insertI _ hx (unhide HA) (unhide HN) (by omega)
      have E3 := hide e3
      have hca : ∀ o, (w2.alloc o).cell? ⟨b, 0, none⟩ = some v0 := fun o => Lib.cell?_alloc_some _ q0
      clear e3 r1 q1 h3 hk5
      go_wp2_with fail
      refine (unhide E2).mono ?_
      rintro e w3 ⟨rfl, rfl⟩
      simp only [List.length_nil, decide_true]
      go_wp2_with fail
      go_region_with ((go_at_call 211; refine (unhide E3 _ ?_).mono ?_; exact (unhide Hm).drew; rintro e w4 ⟨g4, cap4, rfl, hc4, hm4, H5⟩; have k0 : w4.cell? ⟨b, 0, none⟩ = some v0 := H5.cellAt (t := 188) (vs := [v0, v1]) (by simp [nodeR]) rfl; have kf : w4.frozen? ⟨b, 0, none⟩ = false := H5.frozenAt (t := 188) (vs := [v0, v1]) (by simp [nodeR]) 0; have H5' := hide H5; clear H5))
      all_goals
        go_wp2_with fail
        refine bodyPost_ret (results_none rfl _ _ _) rfl ?_
        have H6 := ((unhide H5').store [.cell xb 190 (cellsOf it)] 0 (.slice (some ⟨g4, 0, none⟩) (n0 + 1) cap4) _ rfl).forget []
        simp only [List.nil_append, List.cons_append, List.set_cons_zero] at H6
        obtain ⟨k', b1, n1, L1, H7⟩ := H6.shut [] (h := h) (.inl ⟨h0, rfl⟩) (by simp)
        refine ⟨rfl, k', by rw [b1]; exact (unhide Hb).symm, ?_, by rw [n1, unhide Hcc]; simp, by rw [n1, unhide Hcc]; simp; omega, H7⟩
        rw [L1, unhide HL]
        simp only [List.map_nil, inter_nil]
        exact (putL_at a c (unhide Hlow) (unhide Hhigh)).symm
    · -- nodes below
      have hat : at' < kids.length := by have := unhide HA; rw [hk0, List.length_append]; omega
      obtain ⟨ks1, kk, ks2, rfl, hks1⟩ : ∃ ks1 kk ks2, kids = ks1 ++ kk :: ks2 ∧ ks1.length = at' := ⟨kids.take at', kids[at'], kids.drop (at' + 1), by rw [← List.drop_eq_getElem_cons hat, List.take_append_drop], by rw [List.length_take]; omega⟩
      obtain ⟨N, hN⟩ : ∃ N, (ks1 ++ kk :: ks2).length = N := ⟨_, rfl⟩
      rw [hN] at r1 hk5 hat
      obtain ⟨g1, cap1, rfl, hc1, hm1⟩ := row_shape r1 (by omega)
      have p0 := ptr_cell r1 (j := at') (k := kk) (by rw [← hks1]; simp)
      have p1 : w2.cell? ⟨xb, 0, none⟩ = some (.string it.key) := h3.cellAt (t := 190) (vs := cellsOf it) (by simp) rfl
      have p2 : w2.cell? ⟨xb, 1, none⟩ = some (.string it.name) := h3.cellAt (t := 190) (vs := cellsOf it) (by simp) rfl
      have p3 : w2.cell? ⟨xb, 2, none⟩ = some (.int .i64 it.node) := h3.cellAt (t := 190) (vs := cellsOf it) (by simp) rfl
      have hl12 : a.length = (ks1.map Kid.L).length ∧ c.length = (ks2.map Kid.L).length := by
        have := unhide HA
        simp only [List.length_append, List.length_cons] at hk0
        simp only [List.length_map]
        omega
      have hpm := put_mid (l := kk.L) hl12.1 hl12.2 (by have := unhide HS; simpa using this) (unhide Hlow) (unhide Hhigh)
      have hfk : Fit kk := unhide Hfit kk (by simp)
      have e3 : ∀ wx, Hold base w0 K0 wx (.cell xb 190 (cellsOf it) :: nodeR b v0 (.slice (some ⟨g1, 0, none⟩) N cap1) :: rowI v0 (a ++ c) :: rowN (.slice (some ⟨g1, 0, none⟩) N cap1) (ks1 ++ kk :: ks2) :: .subs (h - 1) (ks1 ++ kk :: ks2) :: l2) →
          Calls Tryz.prog 190 #[.pointer (some ⟨kk.b, 0, none⟩), .agg #[.string it.key, .string it.name, .int .i64 it.node]] wx fun e w' => PutEnd base w0 K0 (h - 1) kk it (nodeR b v0 (.slice (some ⟨g1, 0, none⟩) N cap1) :: rowI v0 (a ++ c) :: rowN (.slice (some ⟨g1, 0, none⟩) N cap1) (ks1 ++ kk :: ks2) :: .subs (h - 1) (ks1 ++ ks2) :: l2) e w' := fun wx hx =>
        unhide IH h0 base w0 K0 wx kk it _ (((hx.forget []).take [nodeR b v0 (.slice (some ⟨g1, 0, none⟩) N cap1), rowI v0 (a ++ c), rowN (.slice (some ⟨g1, 0, none⟩) N cap1) (ks1 ++ kk :: ks2)]).front [nodeR b v0 (.slice (some ⟨g1, 0, none⟩) N cap1), rowI v0 (a ++ c), rowN (.slice (some ⟨g1, 0, none⟩) N cap1) (ks1 ++ kk :: ks2)]) hpm.2 hfk.2
      have E3 := hide e3
      have Hpm := hide hpm
      have Hl12 := hide hl12
      have Hks1 := hide hks1
      have HNN := hide hN
      have hatz : (at' : Int) < (N : Int) := by omega
      have hd : decide ((ks1 ++ kk :: ks2).length = 0) = false := by simp
      have Hd := hide hd
      have Hk0 := hide hk0
      have hfk1 := hfk.1
      have hfk2 := hfk.2
      clear e3 hpm hl12 hks1 hN r1 h3 hd hk0 hfk
      go_wp2_with fail
      refine (unhide E2).mono ?_
      rintro e w3 ⟨rfl, rfl⟩
      rw [unhide Hd]
      go_wp2_with fail
      go_cut [] from 13 (fun wc => Hid (∃ k2 : Kid, k2.b = kk.b ∧ k2.L = putL kk.L it ∧ kk.c ≤ k2.c ∧ k2.c ≤ kk.c + 1 ∧ Hold base w0 K0 wc (.sub (h - 1) k2 :: nodeR b v0 (.slice (some ⟨g1, 0, none⟩) N cap1) :: rowI v0 (a ++ c) :: rowN (.slice (some ⟨g1, 0, none⟩) N cap1) (ks1 ++ kk :: ks2) :: .subs (h - 1) (ks1 ++ ks2) :: l2)))
      case first =>
        go_region_with ((go_at_call 190; refine (unhide E3 _ ?_).mono ?_; exact (unhide H3).drew; rintro e w4 ⟨rfl, hP⟩; have HP := hide hP; clear hP))
        all_goals (go_wp2_with fail; go_meet; exact HP)
      case rest =>
      obtain ⟨k2, hb2, hL2, hc2, hc3, H4⟩ := unhide hcut
      clear hcut E3 E2 q1 p0 p1 p2 p3
      have hrn : rowN (.slice (some ⟨g1, 0, none⟩) N cap1) (ks1 ++ kk :: ks2) = rowN (.slice (some ⟨g1, 0, none⟩) N cap1) (ks1 ++ k2 :: ks2) := rowN_congr (by simp [hb2])
      rw [hrn] at H4
      have q1 : wc.cell? ⟨b, 1, none⟩ = some (.slice (some ⟨g1, 0, none⟩) N cap1) := H4.cellAt (t := 188) (vs := [v0, .slice (some ⟨g1, 0, none⟩) N cap1]) (by simp [nodeR]) rfl
      have r1 : wc.ownsRow base 128 1 (.slice (some ⟨g1, 0, none⟩) N cap1) N ((ks1 ++ k2 :: ks2).map fun y => ptrV y.b) := by
        have h5 : wc.ownsRow base 128 1 (.slice (some ⟨g1, 0, none⟩) N cap1) (ks1 ++ k2 :: ks2).length ((ks1 ++ k2 :: ks2).map fun y => ptrV y.b) := H4.rowAt (by simp [rowN])
        have h6 : (ks1 ++ k2 :: ks2).length = N := by rw [← unhide HNN]; simp
        rwa [h6] at h5
      have p0 := ptr_cell r1 (j := at') (k := k2) (by rw [← unhide Hks1]; simp)
      obtain ⟨oits, okids, o0, o1, hoc, _, _, _, HO⟩ := H4.open []
      have e4 := over_calls k2.b o0 oits.length wc (HO.cellAt (b := k2.b) (t := 188) (vs := [o0, o1]) (by simp [nodeR]) (j := 0) rfl) base (flat oits) (HO.rowAt (by simp [rowI])) (by omega)
      rw [← hoc, hb2] at e4
      rw [hb2] at p0
      have E4 := hide e4
      have H5 : Hold base w0 K0 wc (nodeR b v0 (.slice (some ⟨g1, 0, none⟩) N cap1) :: rowI v0 (a ++ c) :: rowN (.slice (some ⟨g1, 0, none⟩) N cap1) (ks1 ++ k2 :: ks2) :: .subs (h - 1) (ks1 ++ k2 :: ks2) :: l2) := by
        have h5 := ((H4.front [_, _, _]).front [_, _, _]).front [_, _, _]
        exact h5.give [nodeR b v0 (.slice (some ⟨g1, 0, none⟩) N cap1), rowI v0 (a ++ c), rowN (.slice (some ⟨g1, 0, none⟩) N cap1) (ks1 ++ k2 :: ks2)] ks1 ks2
      have HL2 := hide hL2
      have HH5 := hide H5
      have HK := hide H4
      clear e4 HO hoc H4 H5 r1 hrn hL2 hb2
      by_cases hov : 3 < k2.c
      · have hd2 : decide (3 < k2.c) = true := by simp [hov]
        rw [hd2] at E4
        have e5 := split_calls base w0 K0 wc b (h - 1) at' a c ks1 ks2 k2 v0 (.slice (some ⟨g1, 0, none⟩) N cap1) l2 (unhide HH5) (unhide HA) (unhide Hks1) (by have := unhide HN; omega) (by have h1 := unhide HNN; simp only [List.length_append, List.length_cons] at h1; have h2 := unhide Hk0; simp only [List.length_append, List.length_cons] at h2; have h3 := unhide HN; simp only [List.length_append] at h3; omega) (by omega)
        have E5 := hide e5
        clear e5 hd2
        go_wp2_with fail
        refine (unhide E4).mono ?_
        rintro e w5 ⟨rfl, rfl⟩
        go_wp2_with fail
        refine (unhide E5).mono ?_
        rintro e w6 ⟨rfl, m, c1, c2, u0, u1, hcL, f1, f2, H6⟩
        have HcL := hide hcL
        have HH6 := hide H6
        clear hcL H6
        go_wp2_with fail
        go_end0
        obtain ⟨k', b1, n1, L1, H7⟩ := (unhide HH6).shut [] (h := h) (.inr ⟨h0, by have h1 := unhide Hk0; simp only [List.length_append, List.length_cons] at h1 ⊢; omega⟩) (fun x hx => by
          simp only [List.mem_append, List.mem_cons] at hx
          rcases hx with hx | rfl | rfl | hx
          · exact unhide Hfit x (by simp [hx])
          · exact f1
          · exact f2
          · exact unhide Hfit x (by simp [hx]))
        have hl12 := unhide Hl12
        refine ⟨rfl, k', by rw [b1]; exact (unhide Hb).symm, ?_, by rw [n1, unhide Hcc]; simp, by rw [n1, unhide Hcc]; simp; omega, H7⟩
        rw [L1, unhide HL]
        simp only [List.map_append, List.map_cons]
        rw [inter_up hl12.1 hl12.2, (unhide Hpm).1, ← unhide HL2, unhide HcL]
      · have hd2 : decide (3 < k2.c) = false := by simp [hov]
        rw [hd2] at E4
        clear hd2
        go_wp2_with fail
        refine (unhide E4).mono ?_
        rintro e w5 ⟨rfl, rfl⟩
        go_wp2_with fail
        go_end0
        obtain ⟨k', b1, n1, L1, H7⟩ := (unhide HH5).shut [] (h := h) (.inr ⟨h0, by have h1 := unhide Hk0; simp only [List.length_append, List.length_cons] at h1 ⊢; omega⟩) (fun x hx => by
          simp only [List.mem_append, List.mem_cons] at hx
          rcases hx with hx | rfl | hx
          · exact unhide Hfit x (by simp [hx])
          · exact ⟨by omega, by omega⟩
          · exact unhide Hfit x (by simp [hx]))
        refine ⟨rfl, k', by rw [b1]; exact (unhide Hb).symm, ?_, by rw [n1, unhide Hcc]; exact Nat.le_refl _, by rw [n1, unhide Hcc]; exact Nat.le_succ _, H7⟩
        rw [L1, unhide HL]
        simp only [List.map_append, List.map_cons]
        rw [(unhide Hpm).1, unhide HL2]
theorem put_spec : ∀ h, PutSpec h
  | 0 => fun base w0 K0 w k it l2 H hs hc => put_step 0 (fun h => absurd h (Nat.lt_irrefl 0)) base w0 K0 w k it l2 H hs hc
  | h + 1 => fun base w0 K0 w k it l2 H hs hc => put_step (h + 1) (fun _ => put_spec h) base w0 K0 w k it l2 H hs hc
end Go.Proofs.YtjpmomklkkifjaaGreatDoor.T
namespace Go.Proofs.YtjpmomklkkifjaaGreatDoor.T
open Go.RowKit Go.Lib
theorem Hold.lit {base : Nat} {w0 w : World} {K0 : Nat → Nat} {rs : List Res} (h : Hold base w0 K0 w rs) (hb : base ≤ w.heap.size) (e : TypeId) (k n : Nat) (xs : List Value) (hl : xs.length = n * k) (hn : n ≤ 100) : Hold base w0 K0 (w.alloc (.cells xs.toArray e)) (.row (.slice (some ⟨w.heap.size, 0, none⟩) n n) e k n xs :: rs) :=
  h.new ((Kept.refl _ w).alloc _) (by have := World.ownsRow_lit (base := base) (e := e) (size := k) w xs.toArray n hb (by unfold maxLen; omega) (by simpa using hl); show (w.alloc (.cells xs.toArray e)).ownsRow base e k _ n xs; simpa using this) (fun x hx => by have := blkN_pos.1 hx; rw [show (Value.slice (some ⟨w.heap.size, 0, none⟩) n n).ownBlock = some w.heap.size from rfl] at this; have := Option.some.inj this; omega) (blkN_le _)
def TreeIn (base : Nat) (w0 : World) (K0 : Nat → Nat) (w : World) (tb : Nat) (L : List Item) (l2 : List Res) : Prop :=
  Sorted L ∧ ∃ h k, k.L = L ∧ k.c ≤ 3 ∧ (h = 0 ∨ 1 ≤ k.c) ∧ Hold base w0 K0 w (.cell tb 130 [ptrV k.b] :: .sub h k :: l2)
theorem new_calls (base : Nat) (w0 : World) (K0 : Nat → Nat) (w : World) (l2 : List Res) (H : Hold base w0 K0 w l2) (hb : base ≤ w.heap.size) :
    Calls Tryz.prog 149 #[] w fun e w' => ∃ tb, e = .returned (.pointer (some ⟨tb, 0, none⟩)) ∧ TreeIn base w0 K0 w' tb [] l2 := by
  have H1 := (H.made hb 188 [.slice none 0 0, .slice none 0 0])
  have H2 := H1.made (w := w.alloc _) (by simp; omega) 130 [ptrV w.heap.size]
  have HH := hide H2
  clear H H1 H2
  go_enter Tryz.func149, Tryz.ntmps149
  go_wp2_with fail
  go_ret
  refine ⟨w.heap.size + 1, rfl, List.Pairwise.nil, ?_⟩
  have H3 := unhide HH
  have H4 : Hold base w0 K0 _ ([.cell (w.heap.size + 1) 130 [ptrV w.heap.size]] ++ nodeR w.heap.size (.slice none 0 0) (.slice none 0 0) :: rowI (.slice none 0 0) [] :: rowN (.slice none 0 0) [] :: .subs (0 - 1) [] :: l2) := H3.conv (fun x => by
      simp only [total_append, total_cons, total_nil, nodeR, rowI, rowN, foot_cell, foot_row, foot_subs, owns_nil, World.size_alloc]
      have : blkN (.slice none 0 0) x = 0 := rfl
      omega) (fun r hr => by
      simp only [List.mem_append, List.mem_cons, List.mem_nil_iff, or_false, List.mem_singleton] at hr
      rcases hr with rfl | rfl | rfl | rfl | rfl | hr
      · exact H3.sat _ (by simp)
      · exact H3.sat _ (by simp [nodeR])
      · exact World.ownsRow_nil _ _ _ _
      · exact World.ownsRow_nil _ _ _ _
      · intro x hx; simp at hx
      · exact H3.sat _ (by simp [hr]))
  obtain ⟨k, b1, n1, L1, H5⟩ := H4.shut [.cell (w.heap.size + 1) 130 [ptrV w.heap.size]] (h := 0) (.inl ⟨rfl, rfl⟩) (by simp)
  refine ⟨0, k, by rw [L1]; rfl, by rw [n1]; simp, .inl rfl, ?_⟩
  rw [b1]
  exact H5
def TreePutEnd (base : Nat) (w0 : World) (K0 : Nat → Nat) (tb : Nat) (L : List Item) (it : Item) (l2 : List Res) (e : Ending) (w' : World) : Prop :=
  e = .returned (.tuple #[]) ∧ TreeIn base w0 K0 w' tb (putL L it) l2
set_option maxRecDepth 100000 in
set_option maxHeartbeats 4000000 in
theorem treePut_calls (base : Nat) (w0 : World) (K0 : Nat → Nat) (w : World) (tb : Nat) (L : List Item) (it : Item) (l2 : List Res) (HT : TreeIn base w0 K0 w tb L l2) (hk : it.key.toList.isEmpty = false) :
    Calls Tryz.prog 150 #[.pointer (some ⟨tb, 0, none⟩), .string it.key, .agg #[.string it.name, .int .i64 it.node]] w fun e w' => TreePutEnd base w0 K0 tb L it l2 e w' := by
  obtain ⟨hs, h, k, hL, hc, hc1, H⟩ := HT
  have hbw : base ≤ w.heap.size := H.low (b := tb) (t := 130) (vs := [ptrV k.b]) (by simp)
  have H1 := H.made hbw 38 [.string it.name, .int .i64 it.node]
  obtain ⟨xb, hxb⟩ : ∃ xb, w.heap.size = xb := ⟨_, rfl⟩
  have e1 : ∀ wx, Hold base w0 K0 wx (.cell xb 38 [.string it.name, .int .i64 it.node] :: .cell tb 130 [ptrV k.b] :: .sub h k :: l2) → Calls Tryz.prog 190 #[.pointer (some ⟨k.b, 0, none⟩), .agg #[.string it.key, .string it.name, .int .i64 it.node]] wx fun e w' => PutEnd base w0 K0 h k it (.cell tb 130 [ptrV k.b] :: l2) e w' := fun wx hx =>
    put_spec h base w0 K0 wx k it _ ((hx.forget []).front [.cell tb 130 [ptrV k.b]]) (by rw [hL]; exact hs) hc
  have E1 := hide e1
  have HL := hide hL
  have HS := hide hs
  have Hc1 := hide hc1
  have HH1 := hide H1
  clear e1 hL hs hc1 H H1
  go_enter Tryz.func150, Tryz.ntmps150
  go_wp2_with fail
  rw [hxb] at HH1
  generalize hw1 : w.alloc (Obj.cells #[Value.string it.name, Value.int IntKind.i64 it.node] 38) = w1 at HH1 ⊢
  have H2 : Hold base w0 K0 w1 (.cell xb 38 [.string it.name, .int .i64 it.node] :: .cell tb 130 [ptrV k.b] :: .sub h k :: l2) := by
    exact unhide HH1
  have q0 : w1.cell? ⟨tb, 0, none⟩ = some (.pointer (some ⟨k.b, 0, none⟩)) := H2.cellAt (t := 130) (vs := [ptrV k.b]) (by simp) rfl
  have q1 : w1.cell? ⟨xb, 0, none⟩ = some (.string it.name) := H2.cellAt (t := 38) (vs := [.string it.name, .int .i64 it.node]) (by simp) rfl
  have q2 : w1.cell? ⟨xb, 1, none⟩ = some (.int .i64 it.node) := H2.cellAt (t := 38) (vs := [.string it.name, .int .i64 it.node]) (by simp) rfl
  have HH2 := hide H2
  clear H2 HH1 hw1 hxb
  go_cut [] from 6 (fun wc => Hid (∃ k2 : Kid, k2.b = k.b ∧ k2.L = putL k.L it ∧ k.c ≤ k2.c ∧ k2.c ≤ k.c + 1 ∧ Hold base w0 K0 wc (.sub h k2 :: .cell tb 130 [ptrV k.b] :: l2)))
  case first =>
    go_region_with ((go_at_call 190; refine (unhide E1 _ ?_).mono ?_; exact (unhide HH2).drew; rintro e w4 ⟨rfl, hP⟩; have HP := hide hP; clear hP))
    all_goals (go_wp2_with fail; go_meet; exact HP)
  case rest =>
  obtain ⟨k2, hb2, hL2, hc2, hc3, H4⟩ := unhide hcut
  clear hcut E1 q0 q1 q2
  rw [← hb2] at H4
  obtain ⟨oits, okids, o0, o1, hoc, _, _, _, HO⟩ := H4.open []
  have e4 := over_calls k2.b o0 oits.length wc (HO.cellAt (b := k2.b) (t := 188) (vs := [o0, o1]) (by simp [nodeR]) (j := 0) rfl) base (flat oits) (HO.rowAt (by simp [rowI])) (by omega)
  rw [← hoc] at e4
  have E4 := hide e4
  have q0 : wc.cell? ⟨tb, 0, none⟩ = some (.pointer (some ⟨k2.b, 0, none⟩)) := H4.cellAt (t := 130) (vs := [ptrV k2.b]) (by simp) rfl
  have q1 : wc.frozen? ⟨tb, 0, none⟩ = false := H4.frozenAt (t := 130) (vs := [ptrV k2.b]) (by simp) 0
  have hlt : tb < wc.heap.size := (Array.getElem?_eq_some_iff.1 (H4.sat (.cell tb 130 [ptrV k2.b]) (by simp)).2).1
  have hbw2 : base ≤ wc.heap.size := H4.low (b := tb) (t := 130) (vs := [ptrV k2.b]) (by simp)
  have HL2 := hide hL2
  have HK := hide H4
  have Hb2 := hide hb2
  clear e4 HO hoc H4 hL2 hb2
  by_cases hov : 3 < k2.c
  · have hd2 : decide (3 < k2.c) = true := by simp [hov]
    rw [hd2] at E4
    have h5 := (unhide HK).store [.sub h k2] 0 (ptrV (wc.heap.size + 1)) _ rfl
    have h6 := h5.lit (by simpa using hbw2) 128 1 1 [ptrV k2.b] rfl (by omega)
    have h7 := h6.made (by simp; omega) 188 [.slice none 0 0, .slice (some ⟨wc.heap.size, 0, none⟩) 1 1]
    simp only [World.size_alloc, World.size_setCell, List.cons_append, List.nil_append, List.set_cons_zero] at h7
    have H5 := hide h7
    clear hd2 h5 h6 h7
    go_wp2_with fail
    refine (unhide E4).mono ?_
    rintro e w5 ⟨rfl, rfl⟩
    go_wp2_with fail
    have e5 := split_calls base w0 K0 _ (w5.heap.size + 1) h 0 [] [] [] [] k2 (.slice none 0 0) (.slice (some ⟨w5.heap.size, 0, none⟩) 1 1) (.cell tb 130 [ptrV (w5.heap.size + 1)] :: l2) ((unhide H5).conv (fun x => by
        simp only [List.nil_append, total_cons, nodeR, rowI, rowN, foot_cell, foot_row, foot_sub, foot_subs, owns_cons, owns_nil]
        have : blkN (.slice none 0 0) x = 0 := rfl
        omega) (fun r hr => by
        have hs := (unhide H5).sat
        simp only [List.nil_append, List.mem_cons] at hr
        rcases hr with rfl | rfl | rfl | rfl | rfl | hr
        · exact hs _ (by simp [nodeR])
        · exact World.ownsRow_nil _ _ _ _
        · exact hs _ (by simp [rowN])
        · intro x hx
          simp at hx
          subst hx
          exact hs (.sub h x) (by simp)
        · exact hs _ (by simp)
        · exact hs _ (by simp [hr]))) rfl rfl (by simp) (by simp) (by omega)
    refine e5.mono ?_
    rintro e w6 ⟨rfl, m, c1, c2, u0, u1, hcL, f1, f2, H6⟩
    have HcL := hide hcL
    have HH6 := hide H6
    clear hcL H6 e5
    go_wp2_with fail
    go_end0
    obtain ⟨k', b1, n1, L1, H7⟩ := (unhide HH6).shut [] (h := h + 1) (.inr ⟨by omega, rfl⟩) (fun x hx => by
      simp only [List.nil_append, List.mem_cons, List.mem_nil_iff, or_false] at hx
      rcases hx with rfl | rfl
      · exact f1
      · exact f2)
    refine ⟨rfl, putL_sorted (unhide HS), h + 1, k', ?_, by rw [n1]; simp, .inr (by rw [n1]; simp), ?_⟩
    · rw [L1, ← unhide HL, ← unhide HL2, unhide HcL]
      rfl
    · rw [b1]
      exact H7.front [_]
  · have hd2 : decide (3 < k2.c) = false := by simp [hov]
    rw [hd2] at E4
    clear hd2
    go_wp2_with fail
    refine (unhide E4).mono ?_
    rintro e w5 ⟨rfl, rfl⟩
    go_wp2_with fail
    go_end0
    refine ⟨rfl, putL_sorted (unhide HS), h, k2, by rw [unhide HL2, unhide HL], by omega, ?_, (unhide HK).front [_]⟩
    rcases unhide Hc1 with h1 | h1
    · exact .inl h1
    · exact .inr (by omega)
end Go.Proofs.YtjpmomklkkifjaaGreatDoor.T
