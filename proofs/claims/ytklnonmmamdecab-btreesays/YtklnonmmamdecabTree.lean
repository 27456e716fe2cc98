/-
  The contracts of btree.New and Tree.Put, over the seat's program.
-/
import Derived.Test.YtklnonmmamdecabPut
namespace Go.Proofs.Ytklnonmmamdecab
open Go.RowKit Go.Lib
set_option linter.unusedVariables false
set_option linter.unusedSimpArgs false

/-- A row laid in a new block. -/
theorem Hold.lit {base : Nat} {w0 w : World} {K0 : Nat → Nat} {rs : List Res} (h : Hold base w0 K0 w rs) (hb : base ≤ w.heap.size) (e : TypeId) (k n : Nat) (xs : List Value) (hl : xs.length = n * k) (hn : n ≤ 100) : Hold base w0 K0 (w.alloc (.cells xs.toArray e)) (.row (.slice (some ⟨w.heap.size, 0, none⟩) n n) e k n xs :: rs) :=
  h.new ((Kept.refl _ w).alloc _) (by have := World.ownsRow_lit (base := base) (e := e) (size := k) w xs.toArray n hb (by unfold maxLen; omega) (by simpa using hl); show (w.alloc (.cells xs.toArray e)).ownsRow base e k _ n xs; simpa using this) (fun x hx => by have := blkN_pos.1 hx; rw [show (Value.slice (some ⟨w.heap.size, 0, none⟩) n n).ownBlock = some w.heap.size from rfl] at this; have := Option.some.inj this; omega) (blkN_le _)

/-- A tree with its entries, in their order. -/
def TreeIn (base : Nat) (w0 : World) (K0 : Nat → Nat) (w : World) (tb : Nat) (L : List Item) (l2 : List Res) : Prop :=
  Sorted L ∧ ∃ h k, k.L = L ∧ k.c ≤ 3 ∧ (h = 0 ∨ 1 ≤ k.c) ∧ Hold base w0 K0 w (.cell tb 55 [ptrV k.b] :: .sub h k :: l2)

theorem new_calls (base : Nat) (w0 : World) (K0 : Nat → Nat) (w : World) (l2 : List Res) (H : Hold base w0 K0 w l2) (hb : base ≤ w.heap.size) :
    Calls Try.prog 8 #[] w fun e w' => ∃ tb, e = .returned (.pointer (some ⟨tb, 0, none⟩)) ∧ TreeIn base w0 K0 w' tb [] l2 := by
  have H1 := (H.made hb 53 [.slice none 0 0, .slice none 0 0])
  have H2 := H1.made (w := w.alloc _) (by simp; omega) 55 [ptrV w.heap.size]
  have HH := hide H2
  clear H H1 H2
  go_enter Try.func8, Try.ntmps8
  go_wp2_with fail
  go_ret
  refine ⟨w.heap.size + 1, rfl, List.Pairwise.nil, ?_⟩
  have H3 := unhide HH
  have H4 : Hold base w0 K0 _ ([.cell (w.heap.size + 1) 55 [ptrV w.heap.size]] ++ nodeR w.heap.size (.slice none 0 0) (.slice none 0 0) :: rowI (.slice none 0 0) [] :: rowN (.slice none 0 0) [] :: .subs (0 - 1) [] :: l2) := H3.conv (fun x => by
      simp only [total_append, total_cons, total_nil, nodeR, rowI, rowN, foot_cell, foot_row, foot_subs, owns_nil, World.size_alloc]
      have : blkN (.slice none 0 0) x = 0 := rfl
      omega) (fun r hr => by
      simp only [List.mem_append, List.mem_cons, List.mem_nil_iff, or_false, List.mem_singleton] at hr
      rcases hr with rfl | rfl | rfl | rfl | rfl | hr
      · exact H3.sat _ (by simp)
      · exact H3.sat _ (by simp [nodeR])
      · exact World.ownsRow_nil _ _ _ _
      · exact World.ownsRow_nil _ _ _ _
      · intro x hx; simp at hx
      · exact H3.sat _ (by simp [hr]))
  obtain ⟨k, b1, n1, L1, H5⟩ := H4.shut [.cell (w.heap.size + 1) 55 [ptrV w.heap.size]] (h := 0) (.inl ⟨rfl, rfl⟩) (by simp)
  refine ⟨0, k, by rw [L1]; rfl, by rw [n1]; simp, .inl rfl, ?_⟩
  rw [b1]
  exact H5

/-- How Put ends. -/
def TreePutEnd (base : Nat) (w0 : World) (K0 : Nat → Nat) (tb : Nat) (L : List Item) (it : Item) (l2 : List Res) (e : Ending) (w' : World) : Prop :=
  e = .returned (.tuple #[]) ∧ TreeIn base w0 K0 w' tb (putL L it) l2

set_option maxRecDepth 100000 in
set_option maxHeartbeats 4000000 in
theorem treePut_calls (base : Nat) (w0 : World) (K0 : Nat → Nat) (w : World) (tb : Nat) (L : List Item) (it : Item) (l2 : List Res) (HT : TreeIn base w0 K0 w tb L l2) (hk : it.key.toList.isEmpty = false) :
    Calls Try.prog 9 #[.pointer (some ⟨tb, 0, none⟩), .string it.key, .agg #[.string it.name, .int .i64 it.node]] w fun e w' => TreePutEnd base w0 K0 tb L it l2 e w' := by
  obtain ⟨hs, h, k, hL, hc, hc1, H⟩ := HT
  have hbw : base ≤ w.heap.size := H.low (b := tb) (t := 55) (vs := [ptrV k.b]) (by simp)
  have H1 := H.made hbw 33 [.string it.name, .int .i64 it.node]
  obtain ⟨xb, hxb⟩ : ∃ xb, w.heap.size = xb := ⟨_, rfl⟩
  have e1 : ∀ wx, Hold base w0 K0 wx (.cell xb 33 [.string it.name, .int .i64 it.node] :: .cell tb 55 [ptrV k.b] :: .sub h k :: l2) → Calls Try.prog 22 #[.pointer (some ⟨k.b, 0, none⟩), .agg #[.string it.key, .string it.name, .int .i64 it.node]] wx fun e w' => PutEnd base w0 K0 h k it (.cell tb 55 [ptrV k.b] :: l2) e w' := fun wx hx =>
    put_spec h base w0 K0 wx k it _ ((hx.forget []).front [.cell tb 55 [ptrV k.b]]) (by rw [hL]; exact hs) hc
  have E1 := hide e1
  have HL := hide hL
  have HS := hide hs
  have Hc1 := hide hc1
  have HH1 := hide H1
  clear e1 hL hs hc1 H H1
  go_enter Try.func9, Try.ntmps9
  go_wp2_with fail
  rw [hxb] at HH1
  generalize hw1 : w.alloc (Obj.cells #[Value.string it.name, Value.int IntKind.i64 it.node] 33) = w1 at HH1 ⊢
  have H2 : Hold base w0 K0 w1 (.cell xb 33 [.string it.name, .int .i64 it.node] :: .cell tb 55 [ptrV k.b] :: .sub h k :: l2) := by
    exact unhide HH1
  have q0 : w1.cell? ⟨tb, 0, none⟩ = some (.pointer (some ⟨k.b, 0, none⟩)) := H2.cellAt (t := 55) (vs := [ptrV k.b]) (by simp) rfl
  have q1 : w1.cell? ⟨xb, 0, none⟩ = some (.string it.name) := H2.cellAt (t := 33) (vs := [.string it.name, .int .i64 it.node]) (by simp) rfl
  have q2 : w1.cell? ⟨xb, 1, none⟩ = some (.int .i64 it.node) := H2.cellAt (t := 33) (vs := [.string it.name, .int .i64 it.node]) (by simp) rfl
  have HH2 := hide H2
  clear H2 HH1 hw1 hxb
  go_cut [] from 6 (fun wc => Hid (∃ k2 : Kid, k2.b = k.b ∧ k2.L = putL k.L it ∧ k.c ≤ k2.c ∧ k2.c ≤ k.c + 1 ∧ Hold base w0 K0 wc (.sub h k2 :: .cell tb 55 [ptrV k.b] :: l2)))
  case first =>
    go_region_with ((go_at_call 22; refine (unhide E1 _ ?_).mono ?_; exact (unhide HH2).drew; rintro e w4 ⟨rfl, hP⟩; have HP := hide hP; clear hP))
    all_goals (go_wp2_with fail; go_meet; exact HP)
  case rest =>
  obtain ⟨k2, hb2, hL2, hc2, hc3, H4⟩ := unhide hcut
  clear hcut E1 q0 q1 q2
  rw [← hb2] at H4
  obtain ⟨oits, okids, o0, o1, hoc, _, _, _, HO⟩ := H4.open []
  have e4 := over_calls k2.b o0 oits.length wc (HO.cellAt (b := k2.b) (t := 53) (vs := [o0, o1]) (by simp [nodeR]) (j := 0) rfl) base (flat oits) (HO.rowAt (by simp [rowI])) (by omega)
  rw [← hoc] at e4
  have E4 := hide e4
  have q0 : wc.cell? ⟨tb, 0, none⟩ = some (.pointer (some ⟨k2.b, 0, none⟩)) := H4.cellAt (t := 55) (vs := [ptrV k2.b]) (by simp) rfl
  have q1 : wc.frozen? ⟨tb, 0, none⟩ = false := H4.frozenAt (t := 55) (vs := [ptrV k2.b]) (by simp) 0
  have hlt : tb < wc.heap.size := (Array.getElem?_eq_some_iff.1 (H4.sat (.cell tb 55 [ptrV k2.b]) (by simp)).2).1
  have hbw2 : base ≤ wc.heap.size := H4.low (b := tb) (t := 55) (vs := [ptrV k2.b]) (by simp)
  have HL2 := hide hL2
  have HK := hide H4
  have Hb2 := hide hb2
  clear e4 HO hoc H4 hL2 hb2
  by_cases hov : 3 < k2.c
  · have hd2 : decide (3 < k2.c) = true := by simp [hov]
    rw [hd2] at E4
    have h5 := (unhide HK).store [.sub h k2] 0 (ptrV (wc.heap.size + 1)) _ rfl
    have h6 := h5.lit (by simpa using hbw2) 49 1 1 [ptrV k2.b] rfl (by omega)
    have h7 := h6.made (by simp; omega) 53 [.slice none 0 0, .slice (some ⟨wc.heap.size, 0, none⟩) 1 1]
    simp only [World.size_alloc, World.size_setCell, List.cons_append, List.nil_append, List.set_cons_zero] at h7
    have H5 := hide h7
    clear hd2 h5 h6 h7
    go_wp2_with fail
    refine (unhide E4).mono ?_
    rintro e w5 ⟨rfl, rfl⟩
    go_wp2_with fail
    have e5 := split_calls base w0 K0 _ (w5.heap.size + 1) h 0 [] [] [] [] k2 (.slice none 0 0) (.slice (some ⟨w5.heap.size, 0, none⟩) 1 1) (.cell tb 55 [ptrV (w5.heap.size + 1)] :: l2) ((unhide H5).conv (fun x => by
        simp only [List.nil_append, total_cons, nodeR, rowI, rowN, foot_cell, foot_row, foot_sub, foot_subs, owns_cons, owns_nil]
        have : blkN (.slice none 0 0) x = 0 := rfl
        omega) (fun r hr => by
        have hs := (unhide H5).sat
        simp only [List.nil_append, List.mem_cons] at hr
        rcases hr with rfl | rfl | rfl | rfl | rfl | hr
        · exact hs _ (by simp [nodeR])
        · exact World.ownsRow_nil _ _ _ _
        · exact hs _ (by simp [rowN])
        · intro x hx
          simp at hx
          subst hx
          exact hs (.sub h x) (by simp)
        · exact hs _ (by simp)
        · exact hs _ (by simp [hr]))) rfl rfl (by simp) (by simp) (by omega)
    refine e5.mono ?_
    rintro e w6 ⟨rfl, m, c1, c2, u0, u1, hcL, f1, f2, H6⟩
    have HcL := hide hcL
    have HH6 := hide H6
    clear hcL H6 e5
    go_wp2_with fail
    go_end0
    obtain ⟨k', b1, n1, L1, H7⟩ := (unhide HH6).shut [] (h := h + 1) (.inr ⟨by omega, rfl⟩) (fun x hx => by
      simp only [List.nil_append, List.mem_cons, List.mem_nil_iff, or_false] at hx
      rcases hx with rfl | rfl
      · exact f1
      · exact f2)
    refine ⟨rfl, putL_sorted (unhide HS), h + 1, k', ?_, by rw [n1]; simp, .inr (by rw [n1]; simp), ?_⟩
    · rw [L1, ← unhide HL, ← unhide HL2, unhide HcL]
      rfl
    · rw [b1]
      exact H7.front [_]
  · have hd2 : decide (3 < k2.c) = false := by simp [hov]
    rw [hd2] at E4
    clear hd2
    go_wp2_with fail
    refine (unhide E4).mono ?_
    rintro e w5 ⟨rfl, rfl⟩
    go_wp2_with fail
    go_end0
    refine ⟨rfl, putL_sorted (unhide HS), h, k2, by rw [unhide HL2, unhide HL], by omega, ?_, (unhide HK).front [_]⟩
    rcases unhide Hc1 with h1 | h1
    · exact .inl h1
    · exact .inr (by omega)
#print axioms treePut_calls
end Go.Proofs.Ytklnonmmamdecab
