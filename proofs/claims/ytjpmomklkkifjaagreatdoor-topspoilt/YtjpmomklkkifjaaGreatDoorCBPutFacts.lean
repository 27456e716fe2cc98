import Derived.Test.YtjpmomklkkifjaaGreatDoorCBActs
import Derived.Deep.RegionWith
import Derived.Deep.CutRange
import Derived.Deep.QuietTactic
import Derived.BigQuiet
import Derived.BigRegion
import Derived.Test.YtjpmomklkkifjaaGreatDoorCBOwn
import Derived.Test.YtjpmomklkkifjaaGreatDoorCBSearch
set_option maxRecDepth 100000
set_option linter.unusedVariables false
set_option linter.unusedSimpArgs false
namespace Go.Proofs.YtjpmomklkkifjaaGreatDoor.T
open Go.RowKit Go.Lib
def SplitEnd (base : Nat) (w0 : World) (K0 : Nat → Nat) (b h : Nat) (is1 is2 : List Item) (ks1 ks2 : List Kid) (c : Kid) (l2 : List Res) (e : Ending) (w' : World) : Prop :=
  e = .returned (.tuple #[]) ∧ ∃ m c1 c2 v0 v1, c.L = c1.L ++ m :: c2.L ∧ Fit c1 ∧ Fit c2 ∧ Hold base w0 K0 w' (nodeR b v0 v1 :: rowI v0 (is1 ++ m :: is2) :: rowN v1 (ks1 ++ c1 :: c2 :: ks2) :: .subs h (ks1 ++ c1 :: c2 :: ks2) :: l2)
theorem split_fin {base : Nat} {w0 w : World} {K0 : Nat → Nat} {b h cb hb : Nat} {L0 LB VH HB V0 V1 : Value} {a1 a2 m a4 : Item} {ck1 ck2 ks1 ks2 : List Kid} {is1 is2 : List Item} {c : Kid} {l2 : List Res} (hcb : c.b = cb)
    (H : Hold base w0 K0 w (nodeR cb L0 LB :: rowI L0 [a1, a2] :: rowN LB ck1 :: .subs (h - 1) ck1 :: nodeR hb VH HB :: rowI VH [a4] :: rowN HB ck2 :: .subs (h - 1) ck2 :: nodeR b V0 V1 :: rowI V0 (is1 ++ m :: is2) :: rowN V1 (ks1 ++ c :: ⟨hb, 0, [], fun _ => 0⟩ :: ks2) :: .subs h (ks1 ++ ks2) :: l2))
    (s1 : Shape h [a1, a2] ck1) (s2 : Shape h [a4] ck2) (f1 : ∀ x ∈ ck1, Fit x) (f2 : ∀ x ∈ ck2, Fit x) (hL : c.L = inter [a1, a2, m, a4] ((ck1 ++ ck2).map Kid.L)) :
    SplitEnd base w0 K0 b h is1 is2 ks1 ks2 c l2 (.returned (.tuple #[])) w := by
  obtain ⟨c1, b1, n1, L1, H1⟩ := H.shut [] (h := h) s1 f1
  obtain ⟨c2, b2, n2, L2, H2⟩ := H1.shut [.sub h c1] (h := h) s2 f2
  simp only [List.cons_append, List.nil_append] at H2
  refine ⟨rfl, m, c1, c2, V0, V1, ?_, ?_, ?_, ?_⟩
  · rw [hL, L1, L2, List.map_append]
    rcases s1 with ⟨h1, rfl⟩ | ⟨h1, l1⟩
    · rcases s2 with ⟨h2, rfl⟩ | ⟨h2, l2⟩
      · rfl
      · omega
    · rcases s2 with ⟨h2, rfl⟩ | ⟨h2, l2⟩
      · omega
      · exact inter_two [a1, a2] _ m [a4] _ (by simpa using l1) (by simpa using l2)
  · unfold Fit; rw [n1]; simp
  · unfold Fit; rw [n2]; simp
  · have e : rowN V1 (ks1 ++ c :: ⟨hb, 0, [], fun _ => 0⟩ :: ks2) = rowN V1 (ks1 ++ c1 :: c2 :: ks2) := rowN_congr (by simp [b1, b2, hcb])
    rw [e] at H2
    have H3 := ((H2.front [.sub h c1, .sub h c2]).front [_, .sub h c1, .sub h c2]).front [_, _, .sub h c1, .sub h c2]
    simp only [List.cons_append, List.nil_append] at H3
    have H4 := H3.give [rowN V1 (ks1 ++ c1 :: c2 :: ks2), rowI V0 (is1 ++ m :: is2), nodeR b V0 V1, .sub h c1] ks1 ks2
    have H5 := H4.give [rowN V1 (ks1 ++ c1 :: c2 :: ks2), rowI V0 (is1 ++ m :: is2), nodeR b V0 V1] ks1 (c2 :: ks2)
    exact (H5.front [_]).front [_, _]
set_option maxRecDepth 100000 in
set_option maxHeartbeats 4000000 in
theorem split_calls (base : Nat) (w0 : World) (K0 : Nat → Nat) (w : World) (b h i : Nat) (is1 is2 : List Item) (ks1 ks2 : List Kid) (c : Kid) (v0 v1 : Value) (l2 : List Res)
    (H : Hold base w0 K0 w (nodeR b v0 v1 :: rowI v0 (is1 ++ is2) :: rowN v1 (ks1 ++ c :: ks2) :: .subs h (ks1 ++ c :: ks2) :: l2))
    (hi1 : is1.length = i) (hk1 : ks1.length = i) (hl : (is1 ++ is2).length ≤ 50) (hl2 : ks2.length ≤ 40) (hc : c.c = 4) :
    Calls Tryz.prog 192 #[.pointer (some ⟨b, 0, none⟩), .int .i64 i] w fun e w' => SplitEnd base w0 K0 b h is1 is2 ks1 ks2 c l2 e w' := by
  have H1 := H.take [nodeR b v0 v1, rowI v0 (is1 ++ is2), rowN v1 (ks1 ++ c :: ks2)]
  obtain ⟨cits, ckids, u0, u1, hcc, hcL, hsh, hfit, H2⟩ := H1.open [nodeR b v0 v1, rowI v0 (is1 ++ is2), rowN v1 (ks1 ++ c :: ks2)]
  simp only [List.cons_append, List.nil_append] at H2
  clear H H1
  have r1 : w.ownsRow base 128 1 v1 (ks1 ++ c :: ks2).length ((ks1 ++ c :: ks2).map fun y => ptrV y.b) := H2.rowAt (by simp [rowN])
  have r2 : w.ownsRow base 190 3 u0 cits.length (flat cits) := H2.rowAt (by simp [rowI])
  obtain ⟨N, hN⟩ : ∃ N, (ks1 ++ c :: ks2).length = N := ⟨_, rfl⟩
  have hiN : i < N := by rw [← hN, List.length_append, hk1]; simp
  have hN50 : N ≤ 91 := by rw [← hN, List.length_append, hk1]; simp at hl ⊢; omega
  rw [hN] at r1
  obtain ⟨g1, cap1, rfl, hc1, hm1⟩ := row_shape r1 (by omega)
  rw [← hcc, hc] at r2
  obtain ⟨gu, capu, rfl, hcu, hmu⟩ := row_shape r2 (by omega)
  have p1 := ptr_cell r1 (j := i) (k := c) (by rw [← hk1]; simp)
  have q1 : w.cell? ⟨b, 1, none⟩ = some (.slice (some ⟨g1, 0, none⟩) N cap1) := H2.cellAt (t := 188) (vs := [v0, .slice (some ⟨g1, 0, none⟩) N cap1]) (by simp [nodeR]) rfl
  have q2 : w.cell? ⟨c.b, 0, none⟩ = some (.slice (some ⟨gu, 0, none⟩) 4 capu) := H2.cellAt (t := 188) (vs := [.slice (some ⟨gu, 0, none⟩) 4 capu, u1]) (by simp [nodeR]) rfl
  obtain ⟨a1, a2, m, a4, hcits⟩ : ∃ a1 a2 m a4, cits = [a1, a2, m, a4] := by
    rw [hc] at hcc
    match cits, hcc with
    | [a1, a2, m, a4], _ => exact ⟨a1, a2, m, a4, rfl⟩
  subst hcits
  have hbw : base ≤ w.heap.size := H2.low (b := b) (t := 188) (vs := [v0, .slice (some ⟨g1, 0, none⟩) N cap1]) (by simp [nodeR])
  have e1 := hold_cloneI H2 (g := gu) (cap := capu) (a := [a1, a2, m]) (m := [a4]) (c := []) (n := 4) (o := 9) (k := 1) (cc := capu - 3) (by simp) hbw rfl rfl rfl (by omega) (by omega)
  have E1 := hide e1
  have HN := hide hN
  have HcL := hide hcL
  have Hsh := hide hsh
  have Hfit := hide hfit
  obtain ⟨n0, hn0⟩ : ∃ n0, (is1 ++ is2).length = n0 := ⟨_, rfl⟩
  rw [hn0] at hl
  have Hn0 := hide hn0
  have Hi1 := hide hi1
  have Hk1 := hide hk1
  have Hl2 := hide hl2
  have hiz : (i : Int) < (N : Int) := by omega
  have hc3 : ¬ (capu = 3) := by omega
  clear e1 H2 r1 r2 hN hcL hsh hfit hn0 hi1 hk1 hl2 hcc hc
  go_enter Tryz.func192, Tryz.ntmps192
  go_wp2_with fail
  refine (unhide E1).mono ?_
  rintro e w1 ⟨gh, caph, rfl, hch, hmh, H3⟩
  have hb1 := H3.low (b := b) (t := 188) (vs := [v0, .slice (some ⟨g1, 0, none⟩) N cap1]) (by simp [nodeR])
  have H4 := hide (H3.made hb1 188 [.slice (some ⟨gh, 0, none⟩) 1 caph, .slice none 0 0])
  have q1' := hide q1
  clear H3 E1 p1 q1 q2 hb1
  go_wp2_with fail
  generalize hw2 : w1.alloc (Obj.cells #[Value.slice (some ⟨gh, 0, none⟩) 1 caph, Value.slice none 0 0] 188) = w2 at H4 ⊢
  generalize hhb : w1.heap.size = hb at H4 ⊢
  clear hw2 hhb q1'
  have h4 := unhide H4
  have q0 : w2.cell? ⟨b, 0, none⟩ = some v0 := h4.cellAt (t := 188) (vs := [v0, .slice (some ⟨g1, 0, none⟩) N cap1]) (by simp [nodeR]) rfl
  have q2 : w2.cell? ⟨c.b, 0, none⟩ = some (.slice (some ⟨gu, 0, none⟩) 4 capu) := h4.cellAt (t := 188) (vs := [.slice (some ⟨gu, 0, none⟩) 4 capu, u1]) (by simp [nodeR]) rfl
  have r2 : w2.ownsRow base 190 3 (.slice (some ⟨gu, 0, none⟩) 4 capu) 4 (flat [a1, a2, m, a4]) := h4.rowAt (by simp [rowI])
  obtain ⟨s1, s2, s3⟩ := item_cell r2 (j := 2) (x := m) rfl
  have hne1 : c.b ≠ b := fun e => by
    have h5 := h4.uniq b
    simp only [total_cons, nodeR, rowI, rowN, foot_cell, foot_row, e, one_self] at h5
    omega
  have hne2 : gu ≠ b := fun e => by
    have h5 := h4.uniq b
    have h6 : blkN (.slice (some ⟨gu, 0, none⟩) 4 capu) b = 1 := blkN_self (by rw [← e]; rfl)
    simp only [total_cons, nodeR, rowI, rowN, foot_cell, foot_row, one_self, h6] at h5
    omega
  have hca : ∀ o, (w2.alloc o).cell? ⟨b, 0, none⟩ = some v0 := fun o => Lib.cell?_alloc_some _ q0
  clear r2 h4
  have e2 : ∀ wx, Hold base w0 K0 wx (.cell w2.heap.size 190 (cellsOf m) :: ([.cell hb 188 [.slice (some ⟨gh, 0, none⟩) 1 caph, .slice none 0 0], rowI (.slice (some ⟨gh, 0, none⟩) 1 caph) [a4], nodeR b v0 (.slice (some ⟨g1, 0, none⟩) N cap1)] ++ rowI v0 (is1 ++ is2) :: (rowN (.slice (some ⟨g1, 0, none⟩) N cap1) (ks1 ++ c :: ks2) :: nodeR c.b (.slice (some ⟨gu, 0, none⟩) 4 capu) u1 :: rowI (.slice (some ⟨gu, 0, none⟩) 4 capu) [a1, a2, m, a4] :: rowN u1 ckids :: .subs (h - 1) ckids :: .subs h (ks1 ++ ks2) :: l2))) →
      Calls Tryz.prog 211 #[v0, .int .i64 i, .slice (some ⟨w2.heap.size, 0, none⟩) 1 1] wx fun e w' => RowEnd base w0 K0 (n0 + 1) _ e w' := fun wx hx => hold_insertI _ hx (unhide Hi1) (unhide Hn0) (by omega)
  have E2 := hide e2
  have hbw2 : base ≤ w2.heap.size := (unhide H4).low (b := b) (t := 188) (vs := [v0, .slice (some ⟨g1, 0, none⟩) N cap1]) (by simp [nodeR])
  have Hm : Hid (Hold base w0 K0 (w2.alloc (.cells #[Value.string m.key, Value.string m.name, Value.int .i64 m.node] 190)) (.cell w2.heap.size 190 (cellsOf m) :: _)) := (unhide H4).made hbw2 190 (cellsOf m)
  clear e2
  go_cut [] from 7 (fun wc => Hid (∃ g3 cap3, n0 + 1 ≤ cap3 ∧ Hold base w0 K0 wc ([.cell hb 188 [.slice (some ⟨gh, 0, none⟩) 1 caph, .slice none 0 0], rowI (.slice (some ⟨gh, 0, none⟩) 1 caph) [a4]] ++ nodeR b (.slice (some ⟨g3, 0, none⟩) (n0 + 1) cap3) (.slice (some ⟨g1, 0, none⟩) N cap1) :: rowI (.slice (some ⟨g3, 0, none⟩) (n0 + 1) cap3) (is1 ++ m :: is2) :: rowN (.slice (some ⟨g1, 0, none⟩) N cap1) (ks1 ++ c :: ks2) :: nodeR c.b (.slice (some ⟨gu, 0, none⟩) 4 capu) u1 :: rowI (.slice (some ⟨gu, 0, none⟩) 4 capu) [a1, a2, m, a4] :: rowN u1 ckids :: .subs (h - 1) ckids :: .subs h (ks1 ++ ks2) :: l2)))
  case first =>
    go_region_with ((go_at_call 211; refine (unhide E2 _ ?_).mono ?_; exact (unhide Hm).drew; rintro e w3 ⟨g3, cap3, rfl, hc3', hm3, H5⟩; have k0 : w3.cell? ⟨b, 0, none⟩ = some v0 := H5.cellAt (t := 188) (vs := [v0, .slice (some ⟨g1, 0, none⟩) N cap1]) (by simp [nodeR]) rfl; have kf : w3.frozen? ⟨b, 0, none⟩ = false := H5.frozenAt (t := 188) (vs := [v0, .slice (some ⟨g1, 0, none⟩) N cap1]) (by simp [nodeR]) 0; have H5' := hide H5; clear H5))
    all_goals (go_wp2_with fail; go_meet; exact ⟨_, _, hc3', (unhide H5').store [.cell hb 188 [.slice (some ⟨gh, 0, none⟩) 1 caph, .slice none 0 0], rowI (.slice (some ⟨gh, 0, none⟩) 1 caph) [a4]] 0 _ _ rfl⟩)
  case rest =>
  obtain ⟨g3, cap3, hcp3, H6⟩ := unhide hcut
  simp only [List.cons_append, List.nil_append] at H6
  clear hcut E2 Hm H4 q0 q2 s1 s2 s3 hne1 hne2 hca hbw2
  have q1 : wc.cell? ⟨b, 1, none⟩ = some (.slice (some ⟨g1, 0, none⟩) N cap1) := H6.cellAt (t := 188) (vs := [.slice (some ⟨g3, 0, none⟩) (n0 + 1) cap3, .slice (some ⟨g1, 0, none⟩) N cap1]) (by simp [nodeR]) rfl
  have hbw2 : base ≤ wc.heap.size := H6.low (b := hb) (t := 188) (vs := [.slice (some ⟨gh, 0, none⟩) 1 caph, .slice none 0 0]) (by simp)
  have e3 := hold_insertN [.cell hb 188 [.slice (some ⟨gh, 0, none⟩) 1 caph, .slice none 0 0], rowI (.slice (some ⟨gh, 0, none⟩) 1 caph) [a4], nodeR b (.slice (some ⟨g3, 0, none⟩) (n0 + 1) cap3) (.slice (some ⟨g1, 0, none⟩) N cap1), rowI (.slice (some ⟨g3, 0, none⟩) (n0 + 1) cap3) (is1 ++ m :: is2)] (vc := 1) (a := ks1 ++ [c]) (c := ks2) (m := ⟨hb, 0, [], fun _ => 0⟩) (i := i + 1) (n := N) (by have := H6.made hbw2 128 [ptrV hb]; simpa using this) (by have := unhide Hk1; simp; omega) (by have := unhide HN; simp at this ⊢; omega) (by omega)
  rw [show ((i + 1 : Nat) : Int) = (i : Int) + 1 from by omega] at e3
  have E3 := hide e3
  clear e3 H6
  go_wp2_with fail
  refine (unhide E3).mono ?_
  rintro e w4 ⟨g4, cap4, rfl, hc4, hm4, H7⟩
  simp only [List.cons_append, List.nil_append, List.append_assoc] at H7
  have k1 : w4.cell? ⟨b, 1, none⟩ = some (.slice (some ⟨g1, 0, none⟩) N cap1) := H7.cellAt (t := 188) (vs := [.slice (some ⟨g3, 0, none⟩) (n0 + 1) cap3, .slice (some ⟨g1, 0, none⟩) N cap1]) (by simp [nodeR]) rfl
  have kf : w4.frozen? ⟨b, 1, none⟩ = false := H7.frozenAt (t := 188) (vs := [.slice (some ⟨g3, 0, none⟩) (n0 + 1) cap3, .slice (some ⟨g1, 0, none⟩) N cap1]) (by simp [nodeR]) 1
  have k2 : w4.cell? ⟨c.b, 0, none⟩ = some (.slice (some ⟨gu, 0, none⟩) 4 capu) := H7.cellAt (t := 188) (vs := [.slice (some ⟨gu, 0, none⟩) 4 capu, u1]) (by simp [nodeR]) rfl
  have H8 := H7.store [.cell hb 188 [.slice (some ⟨gh, 0, none⟩) 1 caph, .slice none 0 0], rowI (.slice (some ⟨gh, 0, none⟩) 1 caph) [a4]] 1 (.slice (some ⟨g4, 0, none⟩) (N + 1) cap4) _ rfl
  simp only [List.cons_append, List.nil_append, List.set_cons_succ, List.set_cons_zero] at H8
  have e4 := hold_cloneI H8 (g := gu) (cap := capu) (a := []) (m := [a1, a2]) (c := [m, a4]) (n := 4) (o := 0) (k := 2) (cc := capu) (by simp) (H8.low (b := hb) (t := 188) (vs := [.slice (some ⟨gh, 0, none⟩) 1 caph, .slice none 0 0]) (by simp)) rfl rfl rfl (by omega) (by omega)
  have E4 := hide e4
  clear e4 H8 H7 E3 q1
  go_wp2_with fail
  refine (unhide E4).mono ?_
  rintro e w5 ⟨g5, cap5, rfl, hc5, hm5, H9⟩
  have k3 : w5.cell? ⟨c.b, 0, none⟩ = some (.slice (some ⟨gu, 0, none⟩) 4 capu) := H9.cellAt (t := 188) (vs := [.slice (some ⟨gu, 0, none⟩) 4 capu, u1]) (by simp [nodeR]) rfl
  have kf3 : w5.frozen? ⟨c.b, 0, none⟩ = false := H9.frozenAt (t := 188) (vs := [.slice (some ⟨gu, 0, none⟩) 4 capu, u1]) (by simp [nodeR]) 0
  have H10 := H9.store [rowI (.slice (some ⟨g5, 0, none⟩) 2 cap5) [a1, a2], .cell hb 188 [.slice (some ⟨gh, 0, none⟩) 1 caph, .slice none 0 0], rowI (.slice (some ⟨gh, 0, none⟩) 1 caph) [a4], nodeR b (.slice (some ⟨g3, 0, none⟩) (n0 + 1) cap3) (.slice (some ⟨g4, 0, none⟩) (N + 1) cap4), rowI (.slice (some ⟨g3, 0, none⟩) (n0 + 1) cap3) (is1 ++ m :: is2), rowN (.slice (some ⟨g4, 0, none⟩) (N + 1) cap4) (ks1 ++ c :: ⟨hb, 0, [], fun _ => 0⟩ :: ks2)] 0 (.slice (some ⟨g5, 0, none⟩) 2 cap5) _ rfl
  simp only [List.cons_append, List.nil_append, List.set_cons_succ, List.set_cons_zero] at H10
  have k4 := H10.cellAt (b := c.b) (t := 188) (vs := [.slice (some ⟨g5, 0, none⟩) 2 cap5, u1]) (by simp) (j := 1) (v := u1) rfl
  have r4 : (w5.setCell ⟨c.b, 0, none⟩ (.slice (some ⟨g5, 0, none⟩) 2 cap5)).ownsRow base 128 1 u1 ckids.length (ckids.map fun y => ptrV y.b) := H10.rowAt (by simp [rowN])
  have hck : ckids.length ≤ 100 := by rcases unhide Hsh with ⟨_, h0⟩ | ⟨_, h0⟩; rw [h0]; simp; rw [h0]; simp
  have e5 := leaf_calls c.b v0 u1 ckids.length _ k4 base _ r4 hck
  have E5 := hide e5
  have Hck := hide hck
  clear E4 e5 k4 hck k1 kf k2 H9
  rcases unhide Hsh with ⟨h0, hk0⟩ | ⟨h0, hk0⟩
  · subst hk0
    have H11 := hide H10
    clear H10 r4
    go_wp2_with fail
    refine (unhide E5).mono ?_
    rintro e w6 ⟨rfl, rfl⟩
    simp only [List.length_nil, decide_true]
    go_wp2_with fail
    go_end0
    refine split_fin (hb := hb) (cb := c.b) rfl (L0 := .slice (some ⟨g5, 0, none⟩) 2 cap5) (LB := u1) (VH := .slice (some ⟨gh, 0, none⟩) 1 caph) (HB := .slice none 0 0) (V0 := .slice (some ⟨g3, 0, none⟩) (n0 + 1) cap3) (V1 := .slice (some ⟨g4, 0, none⟩) (N + 1) cap4) (a1 := a1) (a2 := a2) (m := m) (a4 := a4) (ck1 := []) (ck2 := []) ((unhide H11).conv (fun x => ?_) (fun r hr => ?_)) (.inl ⟨h0, rfl⟩) (.inl ⟨h0, rfl⟩) (by simp) (by simp) (unhide HcL)
    · simp only [total_cons, nodeR, rowI, rowN, foot_cell, foot_row, foot_sub, foot_subs, owns_nil]
      have : blkN (.slice none 0 0) x = 0 := rfl
      omega
    · have hs := (unhide H11).sat
      simp only [List.mem_cons] at hr
      rcases hr with rfl | rfl | rfl | rfl | rfl | rfl | rfl | rfl | rfl | rfl | rfl | rfl | hr
      · exact hs _ (by simp [nodeR])
      · exact hs _ (by simp)
      · exact hs _ (by simp)
      · exact hs _ (by simp)
      · exact hs _ (by simp [nodeR])
      · exact hs _ (by simp)
      · exact World.ownsRow_nil _ _ _ _
      · exact hs _ (by simp)
      · exact hs _ (by simp)
      · exact hs _ (by simp)
      · exact hs _ (by simp)
      · exact hs _ (by simp)
      · exact hs _ (by simp [hr])
  · obtain ⟨y1, y2, y3, y4, y5, hck5⟩ : ∃ y1 y2 y3 y4 y5, ckids = [y1, y2, y3, y4, y5] := by
      match ckids, hk0 with
      | [y1, y2, y3, y4, y5], _ => exact ⟨y1, y2, y3, y4, y5, rfl⟩
    subst hck5
    simp only [List.length_cons, List.length_nil] at r4
    obtain ⟨g6, cap6, rfl, hc6, hm6⟩ := row_shape r4 (by omega)
    have H11 := hide H10
    clear H10 r4
    go_wp2_with fail
    refine (unhide E5).mono ?_
    rintro e w6 ⟨rfl, hw6⟩
    have hd : decide ([y1, y2, y3, y4, y5].length = 0) = false := rfl
    rw [hd]
    rw [← hw6] at H11
    clear hw6 hd E5 k3 kf3
    have h11 := unhide H11
    have q1 : w6.cell? ⟨c.b, 1, none⟩ = some (.slice (some ⟨g6, 0, none⟩) 5 cap6) := h11.cellAt (t := 188) (vs := [.slice (some ⟨g5, 0, none⟩) 2 cap5, .slice (some ⟨g6, 0, none⟩) 5 cap6]) (by simp) rfl
    have e6 := hold_cloneN h11 (g := g6) (cap := cap6) (a := [y1, y2, y3]) (m := [y4, y5]) (c := []) (n := 5) (o := 3) (k := 2) (cc := cap6 - 3) (by simp) (h11.low (b := hb) (t := 188) (vs := [.slice (some ⟨gh, 0, none⟩) 1 caph, .slice none 0 0]) (by simp)) rfl rfl rfl (by omega) (by omega)
    have E6 := hide e6
    have hc63 : ¬ (cap6 = 3) := by omega
    clear e6 h11
    go_wp2_with fail
    refine (unhide E6).mono ?_
    rintro e w7 ⟨g7, cap7, rfl, hc7, hm7, H12⟩
    have p1 : w7.cell? ⟨hb, 1, none⟩ = some (.slice none 0 0) := H12.cellAt (t := 188) (vs := [.slice (some ⟨gh, 0, none⟩) 1 caph, .slice none 0 0]) (by simp) rfl
    have p2 : w7.frozen? ⟨hb, 1, none⟩ = false := H12.frozenAt (t := 188) (vs := [.slice (some ⟨gh, 0, none⟩) 1 caph, .slice none 0 0]) (by simp) 1
    have H13 := H12.store [rowN (.slice (some ⟨g7, 0, none⟩) 2 cap7) [y4, y5], rowI (.slice (some ⟨g5, 0, none⟩) 2 cap5) [a1, a2]] 1 (.slice (some ⟨g7, 0, none⟩) 2 cap7) _ rfl
    simp only [List.cons_append, List.nil_append, List.set_cons_succ, List.set_cons_zero] at H13
    have p3 := H13.cellAt (b := c.b) (t := 188) (vs := [.slice (some ⟨g5, 0, none⟩) 2 cap5, .slice (some ⟨g6, 0, none⟩) 5 cap6]) (by simp) (j := 1) (v := .slice (some ⟨g6, 0, none⟩) 5 cap6) rfl
    have e7 := hold_cloneN H13 (g := g6) (cap := cap6) (a := []) (m := [y1, y2, y3]) (c := [y4, y5]) (n := 5) (o := 0) (k := 3) (cc := cap6) (by simp) (H13.low (b := hb) (t := 188) (vs := [.slice (some ⟨gh, 0, none⟩) 1 caph, .slice (some ⟨g7, 0, none⟩) 2 cap7]) (by simp)) rfl rfl rfl (by omega) (by omega)
    have hne : ¬ (c.b = hb) := fun e => by
      have h5 := H12.uniq hb
      simp only [total_cons, nodeR, rowI, rowN, foot_cell, foot_row, e, one_self] at h5
      omega
    have p4 : w7.cell? ⟨c.b, 1, none⟩ = some (.slice (some ⟨g6, 0, none⟩) 5 cap6) := H12.cellAt (t := 188) (vs := [.slice (some ⟨g5, 0, none⟩) 2 cap5, .slice (some ⟨g6, 0, none⟩) 5 cap6]) (by simp) rfl
    have E7 := hide e7
    clear e7 H12 H13 E6 q1 H11
    go_wp2_with fail
    refine (unhide E7).mono ?_
    rintro e w8 ⟨g8, cap8, rfl, hc8, hm8, H14⟩
    have p5 : w8.cell? ⟨c.b, 1, none⟩ = some (.slice (some ⟨g6, 0, none⟩) 5 cap6) := H14.cellAt (t := 188) (vs := [.slice (some ⟨g5, 0, none⟩) 2 cap5, .slice (some ⟨g6, 0, none⟩) 5 cap6]) (by simp) rfl
    have p6 : w8.frozen? ⟨c.b, 1, none⟩ = false := H14.frozenAt (t := 188) (vs := [.slice (some ⟨g5, 0, none⟩) 2 cap5, .slice (some ⟨g6, 0, none⟩) 5 cap6]) (by simp) 1
    have H15 := H14.store [rowN (.slice (some ⟨g8, 0, none⟩) 3 cap8) [y1, y2, y3], rowN (.slice (some ⟨g7, 0, none⟩) 2 cap7) [y4, y5], rowI (.slice (some ⟨g5, 0, none⟩) 2 cap5) [a1, a2], .cell hb 188 [.slice (some ⟨gh, 0, none⟩) 1 caph, .slice (some ⟨g7, 0, none⟩) 2 cap7], rowI (.slice (some ⟨gh, 0, none⟩) 1 caph) [a4], nodeR b (.slice (some ⟨g3, 0, none⟩) (n0 + 1) cap3) (.slice (some ⟨g4, 0, none⟩) (N + 1) cap4), rowI (.slice (some ⟨g3, 0, none⟩) (n0 + 1) cap3) (is1 ++ m :: is2), rowN (.slice (some ⟨g4, 0, none⟩) (N + 1) cap4) (ks1 ++ c :: ⟨hb, 0, [], fun _ => 0⟩ :: ks2)] 1 (.slice (some ⟨g8, 0, none⟩) 3 cap8) _ rfl
    simp only [List.cons_append, List.nil_append, List.set_cons_succ, List.set_cons_zero] at H15
    have H16 := hide H15
    clear H15 H14 E7
    go_wp2_with fail
    go_end0
    refine split_fin (hb := hb) (cb := c.b) rfl (L0 := .slice (some ⟨g5, 0, none⟩) 2 cap5) (LB := .slice (some ⟨g8, 0, none⟩) 3 cap8) (VH := .slice (some ⟨gh, 0, none⟩) 1 caph) (HB := .slice (some ⟨g7, 0, none⟩) 2 cap7) (V0 := .slice (some ⟨g3, 0, none⟩) (n0 + 1) cap3) (V1 := .slice (some ⟨g4, 0, none⟩) (N + 1) cap4) (a1 := a1) (a2 := a2) (m := m) (a4 := a4) (ck1 := [y1, y2, y3]) (ck2 := [y4, y5]) ((unhide H16).conv (fun x => ?_) (fun r hr => ?_)) (.inr ⟨h0, rfl⟩) (.inr ⟨h0, rfl⟩) (fun x hx => unhide Hfit x (by simp at hx ⊢; rcases hx with h | h | h <;> simp [h])) (fun x hx => unhide Hfit x (by simp at hx ⊢; rcases hx with h | h <;> simp [h])) (unhide HcL)
    · simp only [total_cons, nodeR, rowI, rowN, foot_cell, foot_row, foot_sub, foot_subs, owns_nil, owns_cons]
      omega
    · have hs := (unhide H16).sat
      have hsub : ∀ x ∈ [y1, y2, y3, y4, y5], Sub base _ (h - 1) x := hs (.subs (h - 1) [y1, y2, y3, y4, y5]) (by simp)
      simp only [List.mem_cons] at hr
      rcases hr with rfl | rfl | rfl | rfl | rfl | rfl | rfl | rfl | rfl | rfl | rfl | rfl | hr
      · exact hs _ (by simp [nodeR])
      · exact hs _ (by simp)
      · exact hs _ (by simp)
      · exact fun x hx => hsub x (by simp at hx ⊢; rcases hx with h | h | h <;> simp [h])
      · exact hs _ (by simp [nodeR])
      · exact hs _ (by simp)
      · exact hs _ (by simp)
      · exact fun x hx => hsub x (by simp at hx ⊢; rcases hx with h | h <;> simp [h])
      · exact hs _ (by simp)
      · exact hs _ (by simp)
      · exact hs _ (by simp)
      · exact hs _ (by simp)
      · exact hs _ (by simp [hr])
end Go.Proofs.YtjpmomklkkifjaaGreatDoor.T
namespace Go.Proofs.YtjpmomklkkifjaaGreatDoor.T
theorem inter_set : ∀ (a : List Item) (c : List Item) (ls : List (List Item)), (ls = [] ∨ ls.length = a.length + c.length + 2) → ∃ A C, ∀ y, inter (a ++ y :: c) ls = A ++ y :: C
  | a, c, [], _ => ⟨a, c, fun y => by rw [inter_nil]⟩
  | [], c, l :: ls, _ => ⟨l, inter c ls, fun y => rfl⟩
  | i :: a, c, l :: ls, h => by
    have h' : ls.length = a.length + c.length + 2 := by rcases h with h | h <;> simp at h; omega
    obtain ⟨A, C, e⟩ := inter_set a c ls (.inr h')
    exact ⟨l ++ i :: A, C, fun y => by simp only [List.cons_append, inter]; rw [e y]; simp⟩
theorem Sorted.putL_here {it x : Item} {A C : List Item} (h : Sorted (A ++ x :: C)) (hx : x.key = it.key) : putL (A ++ x :: C) it = A ++ it :: C :=
  putL_same A C (fun i hi => by rw [← hx]; exact (List.pairwise_append.1 h).2.2 i hi x (by simp)) hx
theorem put_mid {a c : List Item} {x y : List (List Item)} {l : List Item} {it : Item} (h1 : a.length = x.length) (h2 : c.length = y.length) (hs : Sorted (inter (a ++ c) (x ++ l :: y))) (ha : ∀ i ∈ a, kLt i.key it.key) (hc : ∀ i ∈ c, kLt it.key i.key) :
    putL (inter (a ++ c) (x ++ l :: y)) it = inter (a ++ c) (x ++ putL l it :: y) ∧ Sorted l := by
  rw [inter_split a x c l y h1 h2] at hs ⊢
  rw [inter_split a x c _ y h1 h2]
  have hp := pre_low h1 (t := l ++ post c y) (by rw [← List.append_assoc]; exact hs) ha
  have hq := post_high h2 hs hc
  exact ⟨by rw [List.append_assoc, putL_low _ _ hp, putL_high _ _ hq]; simp, hs.mid⟩
theorem inter_up {a c : List Item} {x y : List (List Item)} {l1 l2 : List Item} {m : Item} (h1 : a.length = x.length) (h2 : c.length = y.length) : inter (a ++ m :: c) (x ++ l1 :: l2 :: y) = inter (a ++ c) (x ++ (l1 ++ m :: l2) :: y) := by
  rw [inter_split a x (m :: c) l1 (l2 :: y) h1 (by simp [h2]), inter_split a x c _ y h1 h2]
  simp [post]
theorem Shape.sorted {h : Nat} {its : List Item} {kids : List Kid} (hs : Shape h its kids) (hL : Sorted (inter its (kids.map Kid.L))) : Sorted its :=
  hL.items (by rcases hs with ⟨_, rfl⟩ | ⟨_, hl⟩; exact .inl rfl; exact .inr (by simpa using hl))
theorem Found.split {its : List Item} {key : ByteArray} {at' : Nat} {is' : Bool} (h : Found its key at' is') :
    (is' = true ∧ ∃ a x c, its = a ++ x :: c ∧ a.length = at' ∧ x.key = key ∧ ∀ i ∈ a, kLt i.key key) ∨ (is' = false ∧ ∃ a c, its = a ++ c ∧ a.length = at' ∧ (∀ i ∈ a, kLt i.key key) ∧ ∀ i ∈ c, kLt key i.key) := by
  obtain ⟨hl, ha, hr⟩ := h
  rcases hr with ⟨h1, x, hx, hk⟩ | ⟨h1, hc⟩
  · left
    obtain ⟨hlt, rfl⟩ := List.getElem?_eq_some_iff.1 hx
    exact ⟨h1, its.take at', its[at'], its.drop (at' + 1), by rw [← List.drop_eq_getElem_cons hlt, List.take_append_drop], by rw [List.length_take]; omega, hk, ha⟩
  · right
    exact ⟨h1, its.take at', its.drop at', (List.take_append_drop _ _).symm, by rw [List.length_take]; omega, ha, hc⟩
end Go.Proofs.YtjpmomklkkifjaaGreatDoor.T
