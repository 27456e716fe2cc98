/-
  The contract of node.dropLast, over the seat's program: the entry with the highest key goes.
-/
import Derived.Test.YtklnonmmamdecabMend
import Derived.Laws.ResultCell
namespace Go.Proofs.Ytklnonmmamdecab
open Go.RowKit Go.Lib
set_option linter.unusedVariables false
set_option linter.unusedSimpArgs false

/-- How dropLast ends. -/
def DropLastEnd (base : Nat) (w0 : World) (K0 : Nat → Nat) (h : Nat) (k : Kid) (l2 : List Res) (e : Ending) (w' : World) : Prop :=
  ∃ (x : Item) (k' : Kid), e = .returned (.agg #[.string x.key, .string x.name, .int .i64 x.node]) ∧ k'.b = k.b ∧ k.L = k'.L ++ [x] ∧ k'.c ≤ k.c ∧ k.c ≤ k'.c + 1 ∧ Hold base w0 K0 w' (.sub h k' :: l2)
def DropLastSpec (h : Nat) : Prop := ∀ (base : Nat) (w0 : World) (K0 : Nat → Nat) (w : World) (k : Kid) (l2 : List Res), Hold base w0 K0 w (.sub h k :: l2) → 1 ≤ k.c → k.c ≤ 3 →
  Calls Try.prog 38 #[.pointer (some ⟨k.b, 0, none⟩)] w fun e w' => DropLastEnd base w0 K0 h k l2 e w'

theorem results_item {fn : Func} {p : Tmp} (h : fn.results = #[.cell p 58]) (tmps : Array Value) (w : World) (g : Nat) (t : TypeId) (a b c : Value)
    (hp : tmps.getD p undef = .pointer (some ⟨g, 0, none⟩)) (hg : w.heap[g]? = some (.cells #[a, b, c] t (0, 0))) :
    (results fn tmps).run Try.prog w = .ok (.agg #[a, b, c]) w :=
  results_cell_row h tmps w g t #[a, b, c] (0, 0) _ hp hg Try.underlying58 rfl (by kernel_rfl)

def zItem : List Value := [.string ⟨#[]⟩, .string ⟨#[]⟩, .int .i64 0]

set_option maxRecDepth 100000 in
set_option maxHeartbeats 4000000 in
theorem dropLast_leaf (base : Nat) (w0 : World) (K0 : Nat → Nat) (w : World) (k : Kid) (l2 : List Res) (H : Hold base w0 K0 w (.sub 0 k :: l2)) (hc1 : 1 ≤ k.c) (hc3 : k.c ≤ 3) :
    Calls Try.prog 38 #[.pointer (some ⟨k.b, 0, none⟩)] w fun e w' => DropLastEnd base w0 K0 0 k l2 e w' := by
  obtain ⟨its, kids, v0, v1, hcc, hL, hsh, hfit, H1⟩ := H.open []
  simp only [List.nil_append] at H1
  have hk0 : kids = [] := by rcases hsh with ⟨_, h⟩ | ⟨h, _⟩; exact h; omega
  subst hk0
  obtain ⟨b, hb⟩ : ∃ b, k.b = b := ⟨_, rfl⟩
  rw [hb] at H1 ⊢
  obtain ⟨a, x, hits⟩ : ∃ a x, its = a ++ [x] := ⟨its.dropLast, its.getLast (by intro h; rw [h] at hcc; simp at hcc; omega), (List.dropLast_concat_getLast _).symm⟩
  subst hits
  obtain ⟨i, hi⟩ : ∃ i, a.length = i := ⟨_, rfl⟩
  obtain ⟨n, hn⟩ : ∃ n, (a ++ [x]).length = n := ⟨_, rfl⟩
  have hni : n = i + 1 := by rw [← hn]; simp [hi]
  have hbw : base ≤ w.heap.size := H1.low (b := b) (t := 53) (vs := [v0, v1]) (by simp [nodeR])
  have H2 := H1.made hbw 58 zItem
  obtain ⟨rb, hrb⟩ : ∃ rb, w.heap.size = rb := ⟨_, rfl⟩
  have r0 : w.ownsRow base 58 3 v0 n (flat (a ++ [x])) := by rw [← hn]; exact H1.rowAt (by simp [rowI])
  obtain ⟨g0, cap0, rfl, hc0, hm0⟩ := row_shape r0 (by omega)
  generalize hw1 : w.alloc (.cells zItem.toArray 58) = w1 at H2
  rw [hrb] at H2
  have q0 : w1.cell? ⟨b, 0, none⟩ = some (.slice (some ⟨g0, 0, none⟩) n cap0) := H2.cellAt (t := 53) (vs := [.slice (some ⟨g0, 0, none⟩) n cap0, v1]) (by simp [nodeR]) rfl
  have q1 : w1.cell? ⟨b, 1, none⟩ = some v1 := H2.cellAt (t := 53) (vs := [.slice (some ⟨g0, 0, none⟩) n cap0, v1]) (by simp [nodeR]) rfl
  have e1 := leaf_calls b (.slice none 0 0) v1 0 w1 q1 base [] (H2.rowAt (by simp [rowN])) (by omega)
  have rr : w1.ownsRow base 58 3 (.slice (some ⟨g0, 0, none⟩) n cap0) n (flat (a ++ [x])) := by rw [← hn]; exact H2.rowAt (by simp [rowI, hn])
  obtain ⟨s1, s2, s3⟩ := item_cell rr (j := i) (x := x) (by rw [← hi]; simp)
  have E1 := hide e1
  have HH2 := hide H2
  have zq : (n : Int) - 1 = (i : Int) := by omega
  have hiz : (i : Int) < (n : Int) := by omega
  have hn3 : n ≤ 3 := by omega
  have hca : ∀ o, (w1.alloc o).cell? ⟨b, 0, none⟩ = some (.slice (some ⟨g0, 0, none⟩) n cap0) := fun o => Lib.cell?_alloc_some _ q0
  have Hn := hide hn
  have Hni := hide hni
  have Hi := hide hi
  have HL := hide hL
  have Hcc := hide hcc
  have Hb := hide hb
  have hw1' : w.alloc (Obj.cells #[Value.string ⟨#[]⟩, Value.string ⟨#[]⟩, Value.int IntKind.i64 0] 58) = w1 := hw1
  clear e1 H H1 H2 hn hni hi hL hcc hb hsh hfit r0 rr hw1
  go_enter Try.func38, Try.ntmps38
  go_wp2_with fail
  clear hw1' hrb
  refine (unhide E1).mono ?_
  rintro e w2 ⟨rfl, rfl⟩
  simp only [decide_true]
  go_wp2_with fail
  have hbw2 : base ≤ w2.heap.size := (unhide HH2).low (b := rb) (t := 58) (vs := zItem) (by simp)
  have H3 := (unhide HH2).made hbw2 58 (cellsOf x)
  have e3 := hold_deleteI [.cell w2.heap.size 58 (cellsOf x), .cell rb 58 zItem, nodeR b (.slice (some ⟨g0, 0, none⟩) n cap0) v1] (a := a) (m := x) (c := []) H3 (unhide Hi) (unhide Hn) (by omega)
  rw [show ((i : Int) + 1) = (n : Int) from by have := unhide Hni; omega] at e3
  generalize hlb : w2.heap.size = lb at e3 ⊢
  refine e3.mono ?_
  clear e3 H3 hlb
  rintro e w4 ⟨g4, cap4, rfl, hc4, hm4, H4⟩
  simp only [List.cons_append, List.nil_append, List.append_nil] at H4
  have k0 : w4.cell? ⟨b, 0, none⟩ = some (.slice (some ⟨g0, 0, none⟩) n cap0) := H4.cellAt (t := 53) (vs := [.slice (some ⟨g0, 0, none⟩) n cap0, v1]) (by simp [nodeR]) rfl
  have kf : w4.frozen? ⟨b, 0, none⟩ = false := H4.frozenAt (t := 53) (vs := [.slice (some ⟨g0, 0, none⟩) n cap0, v1]) (by simp [nodeR]) 0
  have H5 := H4.store [.cell lb 58 (cellsOf x), .cell rb 58 zItem] 0 (.slice (some ⟨g4, 0, none⟩) (n - 1) cap4) _ rfl
  simp only [List.cons_append, List.nil_append, List.set_cons_zero] at H5
  obtain ⟨w5, hw5⟩ : ∃ w5, w4.setCell ⟨b, 0, none⟩ (.slice (some ⟨g4, 0, none⟩) (n - 1) cap4) = w5 := ⟨_, rfl⟩
  rw [hw5] at H5
  have l0 : w5.cell? ⟨lb, 0, none⟩ = some (.string x.key) := H5.cellAt (t := 58) (vs := cellsOf x) (by simp) rfl
  have l1 : w5.cell? ⟨lb, 1, none⟩ = some (.string x.name) := H5.cellAt (t := 58) (vs := cellsOf x) (by simp) rfl
  have l2' : w5.cell? ⟨lb, 2, none⟩ = some (.int .i64 x.node) := H5.cellAt (t := 58) (vs := cellsOf x) (by simp) rfl
  have m0 : w5.cell? ⟨rb, 0, none⟩ = some (.string ⟨#[]⟩) := H5.cellAt (t := 58) (vs := zItem) (by simp) rfl
  have m1 : w5.cell? ⟨rb, 1, none⟩ = some (.string ⟨#[]⟩) := H5.cellAt (t := 58) (vs := zItem) (by simp) rfl
  have m2 : w5.cell? ⟨rb, 2, none⟩ = some (.int .i64 0) := H5.cellAt (t := 58) (vs := zItem) (by simp) rfl
  have f0 : w5.frozen? ⟨rb, 0, none⟩ = false := H5.frozenAt (t := 58) (vs := zItem) (by simp) 0
  have f1 : w5.frozen? ⟨rb, 1, none⟩ = false := H5.frozenAt (t := 58) (vs := zItem) (by simp) 1
  have f2 : w5.frozen? ⟨rb, 2, none⟩ = false := H5.frozenAt (t := 58) (vs := zItem) (by simp) 2
  have H6 := hide (((H5.store [.cell lb 58 (cellsOf x)] 0 (.string x.key) _ rfl).store [.cell lb 58 (cellsOf x)] 1 (.string x.name) _ rfl).store [.cell lb 58 (cellsOf x)] 2 (.int .i64 x.node) _ rfl)
  clear H4 H5 HH2 E1 q0 q1 s1 s2 s3 hca
  go_wp2_with fail
  have h6 := unhide H6
  simp only [List.cons_append, List.nil_append, List.set_cons_zero, List.set_cons_succ, zItem] at h6
  refine bodyPost_ret (results_item (p := 2) rfl _ _ rb 58 (.string x.key) (.string x.name) (.int .i64 x.node) rfl (h6.sat (.cell rb 58 [.string x.key, .string x.name, .int .i64 x.node]) (by simp)).2) rfl ?_
  have h7 := (h6.forget []).forget []
  obtain ⟨k', b1, n1, L1, h8⟩ := h7.shut [] (h := 0) (.inl ⟨rfl, rfl⟩) (by simp)
  refine ⟨x, k', rfl, by rw [b1]; exact (unhide Hb).symm, ?_, ?_, ?_, h8⟩
  · rw [unhide HL, L1]
    simp [inter_nil]
  · rw [n1, unhide Hcc]; simp
  · rw [n1, unhide Hcc]; simp

set_option maxRecDepth 100000 in
set_option maxHeartbeats 4000000 in
theorem dropLast_inner (h : Nat) (ih : DropLastSpec h) (base : Nat) (w0 : World) (K0 : Nat → Nat) (w : World) (k : Kid) (l2 : List Res) (H : Hold base w0 K0 w (.sub (h + 1) k :: l2)) (hc1 : 1 ≤ k.c) (hc3 : k.c ≤ 3) :
    Calls Try.prog 38 #[.pointer (some ⟨k.b, 0, none⟩)] w fun e w' => DropLastEnd base w0 K0 (h + 1) k l2 e w' := by
  obtain ⟨its, kids, v0, v1, hcc, hL, hsh, hfit, H1⟩ := H.open []
  simp only [List.nil_append, Nat.add_sub_cancel] at H1
  have hk0 : kids.length = its.length + 1 := by rcases hsh with ⟨h, _⟩ | ⟨_, h⟩; omega; exact h
  obtain ⟨b, hb⟩ : ∃ b, k.b = b := ⟨_, rfl⟩
  rw [hb] at H1 ⊢
  obtain ⟨ks, kk, hkids⟩ : ∃ ks kk, kids = ks ++ [kk] := ⟨kids.dropLast, kids.getLast (by intro h; rw [h] at hk0; simp at hk0), (List.dropLast_concat_getLast _).symm⟩
  subst hkids
  obtain ⟨n, hn⟩ : ∃ n, its.length = n := ⟨_, rfl⟩
  have hks : ks.length = n := by simp at hk0; omega
  have hbw : base ≤ w.heap.size := H1.low (b := b) (t := 53) (vs := [v0, v1]) (by simp [nodeR])
  have H2 := H1.made hbw 58 zItem
  obtain ⟨rb, hrb⟩ : ∃ rb, w.heap.size = rb := ⟨_, rfl⟩
  have r0 : w.ownsRow base 58 3 v0 n (flat its) := by rw [← hn]; exact H1.rowAt (by simp [rowI])
  obtain ⟨g0, cap0, rfl, hc0, hm0⟩ := row_shape r0 (by omega)
  generalize hw1 : w.alloc (.cells zItem.toArray 58) = w1 at H2
  rw [hrb] at H2
  have r1 : w1.ownsRow base 49 1 v1 (n + 1) ((ks ++ [kk]).map fun y => ptrV y.b) := by rw [show n + 1 = (ks ++ [kk]).length by simp [hks]]; exact H2.rowAt (by simp [rowN])
  obtain ⟨g1, cap1, rfl, hcp1, hm1⟩ := row_shape r1 (by omega)
  have p1 := ptr_cell r1 (j := n) (k := kk) (by rw [← hks]; simp)
  have q0 : w1.cell? ⟨b, 0, none⟩ = some (.slice (some ⟨g0, 0, none⟩) n cap0) := H2.cellAt (t := 53) (vs := [.slice (some ⟨g0, 0, none⟩) n cap0, .slice (some ⟨g1, 0, none⟩) (n + 1) cap1]) (by simp [nodeR]) rfl
  have q1 : w1.cell? ⟨b, 1, none⟩ = some (.slice (some ⟨g1, 0, none⟩) (n + 1) cap1) := H2.cellAt (t := 53) (vs := [.slice (some ⟨g0, 0, none⟩) n cap0, .slice (some ⟨g1, 0, none⟩) (n + 1) cap1]) (by simp [nodeR]) rfl
  have e1 := leaf_calls b (.slice none 0 0) _ (n + 1) w1 q1 base _ r1 (by omega)
  rw [show decide (n + 1 = 0) = false from by simp] at e1
  have hfk : Fit kk := hfit kk (by simp)
  have h3 := (H2.take [.cell rb 58 zItem, nodeR b (.slice (some ⟨g0, 0, none⟩) n cap0) (.slice (some ⟨g1, 0, none⟩) (n + 1) cap1), rowI (.slice (some ⟨g0, 0, none⟩) n cap0) its, rowN (.slice (some ⟨g1, 0, none⟩) (n + 1) cap1) (ks ++ [kk])]).front [.cell rb 58 zItem, nodeR b (.slice (some ⟨g0, 0, none⟩) n cap0) (.slice (some ⟨g1, 0, none⟩) (n + 1) cap1), rowI (.slice (some ⟨g0, 0, none⟩) n cap0) its, rowN (.slice (some ⟨g1, 0, none⟩) (n + 1) cap1) (ks ++ [kk])]
  simp only [List.cons_append, List.nil_append] at h3
  have e2 := ih base w0 K0 w1 kk _ h3 hfk.1 hfk.2
  have E1 := hide e1
  have E2 := hide e2
  have hn3 : n ≤ 3 := by omega
  have hn1 : 1 ≤ n := by omega
  have hnz : (n : Int) < (n : Int) + 1 := by omega
  have Hn := hide hn
  have Hks := hide hks
  have HL := hide hL
  have Hcc := hide hcc
  have Hb := hide hb
  have Hfit := hide hfit
  have hfk3 := hfk.2
  have hw1' : w.alloc (Obj.cells #[Value.string ⟨#[]⟩, Value.string ⟨#[]⟩, Value.int IntKind.i64 0] 58) = w1 := hw1
  clear e1 e2 H H1 H2 hn hks hL hcc hb hsh hfit r0 r1 hw1 ih h3 hk0 hfk
  go_enter Try.func38, Try.ntmps38
  go_wp2_with fail
  clear hw1' hrb
  refine (unhide E1).mono ?_
  rintro e w2 ⟨rfl, rfl⟩
  go_wp2_with fail
  refine (unhide E2).mono ?_
  rintro e w3 ⟨x, kk', rfl, hb2, hLx, hcx1, hcx2, H4⟩
  have H5 : Hold base w0 K0 w3 (.cell rb 58 zItem :: nodeR b (.slice (some ⟨g0, 0, none⟩) n cap0) (.slice (some ⟨g1, 0, none⟩) (n + 1) cap1) :: rowI (.slice (some ⟨g0, 0, none⟩) n cap0) its :: rowN (.slice (some ⟨g1, 0, none⟩) (n + 1) cap1) (ks ++ [kk']) :: .subs h (ks ++ [kk']) :: l2) := by
    have e : rowN (.slice (some ⟨g1, 0, none⟩) (n + 1) cap1) (ks ++ [kk]) = rowN (.slice (some ⟨g1, 0, none⟩) (n + 1) cap1) (ks ++ [kk']) := rowN_congr (by simp [hb2])
    rw [e] at H4
    have h5 := (((H4.front [_, _, _, _]).front [_, _, _, _]).front [_, _, _, _]).front [_, _, _, _]
    have h6 := h5.give [_, _, _, _] (h := h) ks []
    exact h6
  have hb3 : base ≤ w3.heap.size := H5.low (b := rb) (t := 58) (vs := zItem) (by simp)
  have H6 := H5.made hb3 58 (cellsOf x)
  generalize hlb : w3.heap.size = lb at H6 ⊢
  generalize hw4 : w3.alloc (.cells (cellsOf x).toArray 58) = w4 at H6
  have hw4' : w3.alloc (Obj.cells #[Value.string x.key, Value.string x.name, Value.int IntKind.i64 x.node] 58) = w4 := hw4
  have e5 := mend_calls base w0 K0 w4 b h n its (ks ++ [kk']) kk' (.slice (some ⟨g0, 0, none⟩) n cap0) (.slice (some ⟨g1, 0, none⟩) (n + 1) cap1) (.cell lb 58 (cellsOf x) :: .cell rb 58 zItem :: l2) (H6.conv (fun y => by simp only [total_cons]; omega) (fun r hr => H6.sat r (by
      simp only [List.mem_cons] at hr ⊢
      rcases hr with h | h | h | h | h | h | h
      · exact .inr (.inr (.inl h))
      · exact .inr (.inr (.inr (.inl h)))
      · exact .inr (.inr (.inr (.inr (.inl h))))
      · exact .inr (.inr (.inr (.inr (.inr (.inl h)))))
      · exact .inl h
      · exact .inr (.inl h)
      · exact .inr (.inr (.inr (.inr (.inr (.inr h)))))))) (by have h1 := unhide Hks; have h2 := unhide Hn; simp; omega) (by have := unhide Hn; omega) (by have := unhide Hn; omega) (by rw [← unhide Hks]; simp) (by omega) (fun j y hj hjn => by
      have h1 : j < ks.length := by
        have h2 := (List.getElem?_eq_some_iff.1 hj).1
        have h3 := unhide Hks
        simp at h2; omega
      rw [List.getElem?_append_left h1] at hj
      exact unhide Hfit y (by simp [List.mem_of_getElem? hj]))
  have E5 := hide e5
  have HLx := hide hLx
  clear e5 H4 H5 H6 E1 E2 hw4 hLx q0 q1 p1
  go_wp2_with fail
  refine (unhide E5).mono ?_
  clear hw4' hlb
  rintro e w6 ⟨rfl, its', kids', V0, V1, hM, hlen1, hlen2, hkl, hfit', H7⟩
  have l0 : w6.cell? ⟨lb, 0, none⟩ = some (.string x.key) := H7.cellAt (t := 58) (vs := cellsOf x) (by simp) rfl
  have l1 : w6.cell? ⟨lb, 1, none⟩ = some (.string x.name) := H7.cellAt (t := 58) (vs := cellsOf x) (by simp) rfl
  have l2' : w6.cell? ⟨lb, 2, none⟩ = some (.int .i64 x.node) := H7.cellAt (t := 58) (vs := cellsOf x) (by simp) rfl
  have m0 : w6.cell? ⟨rb, 0, none⟩ = some (.string ⟨#[]⟩) := H7.cellAt (t := 58) (vs := zItem) (by simp) rfl
  have m1 : w6.cell? ⟨rb, 1, none⟩ = some (.string ⟨#[]⟩) := H7.cellAt (t := 58) (vs := zItem) (by simp) rfl
  have m2 : w6.cell? ⟨rb, 2, none⟩ = some (.int .i64 0) := H7.cellAt (t := 58) (vs := zItem) (by simp) rfl
  have f0 : w6.frozen? ⟨rb, 0, none⟩ = false := H7.frozenAt (t := 58) (vs := zItem) (by simp) 0
  have f1 : w6.frozen? ⟨rb, 1, none⟩ = false := H7.frozenAt (t := 58) (vs := zItem) (by simp) 1
  have f2 : w6.frozen? ⟨rb, 2, none⟩ = false := H7.frozenAt (t := 58) (vs := zItem) (by simp) 2
  have H8 := (((H7.store [nodeR b V0 V1, rowI V0 its', rowN V1 kids', .subs h kids', .cell lb 58 (cellsOf x)] 0 (.string x.key) _ rfl).store [nodeR b V0 V1, rowI V0 its', rowN V1 kids', .subs h kids', .cell lb 58 (cellsOf x)] 1 (.string x.name) _ rfl).store [nodeR b V0 V1, rowI V0 its', rowN V1 kids', .subs h kids', .cell lb 58 (cellsOf x)] 2 (.int .i64 x.node) _ rfl)
  have HH8 := hide H8
  have HM := hide hM
  have Hl1 := hide hlen1
  have Hl2 := hide hlen2
  have Hkl := hide hkl
  have Hfit2 := hide hfit'
  clear H7 H8 hM hlen1 hlen2 hkl hfit' E5
  go_wp2_with fail
  have h6 := unhide HH8
  simp only [List.cons_append, List.nil_append, List.set_cons_zero, List.set_cons_succ, zItem] at h6
  refine bodyPost_ret (results_item (p := 2) rfl _ _ rb 58 (.string x.key) (.string x.name) (.int .i64 x.node) rfl (h6.sat (.cell rb 58 [.string x.key, .string x.name, .int .i64 x.node]) (by simp)).2) rfl ?_
  have h7 := (h6.forget [nodeR b V0 V1, rowI V0 its', rowN V1 kids', .subs h kids']).forget [nodeR b V0 V1, rowI V0 its', rowN V1 kids', .subs h kids']
  obtain ⟨k', b1, n1, L1, h8⟩ := h7.shut [] (h := h + 1) (.inr ⟨by omega, unhide Hkl⟩) (unhide Hfit2)
  refine ⟨x, k', rfl, by rw [b1]; exact (unhide Hb).symm, ?_, ?_, ?_, h8⟩
  · rw [unhide HL, L1, unhide HM]
    have hl : its.length = (ks.map Kid.L).length := by have h1 := unhide Hn; have h2 := unhide Hks; simp; omega
    have e1 := inter_split its (ks.map Kid.L) [] kk.L [] hl rfl
    have e2 := inter_split its (ks.map Kid.L) [] kk'.L [] hl rfl
    simp only [List.append_nil] at e1 e2
    simp only [List.map_append, List.map_cons, List.map_nil]
    rw [e1, e2, unhide HLx]
    simp [post]
  · rw [n1, unhide Hcc]; exact unhide Hl1
  · rw [n1, unhide Hcc]; exact unhide Hl2

theorem dropLast_spec : ∀ h, DropLastSpec h
  | 0 => fun base w0 K0 w k l2 H h1 h3 => dropLast_leaf base w0 K0 w k l2 H h1 h3
  | h + 1 => fun base w0 K0 w k l2 H h1 h3 => dropLast_inner h (dropLast_spec h) base w0 K0 w k l2 H h1 h3

#print axioms dropLast_spec
end Go.Proofs.Ytklnonmmamdecab
