/-
  The contract of jobcaseref.Put, over the seat's program.
-/
import Derived.Test.YtklnonmmamdecabRef
namespace Go.Proofs.Ytklnonmmamdecab
open Go.RowKit Go.Lib
set_option linter.unusedVariables false
set_option linter.unusedSimpArgs false

/-- What has been laid when so many have been gone through. -/
def PutInv (l : List Item) (it : Item) (i : Nat) (out : List Item) : Bool → Prop
  | true => putL l it = out ++ dropL (l.drop i) it.key
  | false => out = l.take i ∧ ∀ x ∈ l.take i, kLt x.key it.key

theorem putInv_low {l : List Item} {it x : Item} {i : Nat} {out : List Item} (h : PutInv l it i out false) (hx : l[i]? = some x) (hk : kLt x.key it.key) : PutInv l it (i + 1) (out ++ [x]) false := by
  obtain ⟨rfl, h2⟩ := h
  refine ⟨(take_at hx).symm, fun y hy => ?_⟩
  rw [take_at hx] at hy
  simp at hy
  rcases hy with h | rfl
  · exact h2 y h
  · exact hk
theorem high_after {l : List Item} {x : Item} {i : Nat} (hs : Sorted l) (hx : l[i]? = some x) : ∀ y ∈ l.drop (i + 1), kLt x.key y.key := by
  have h1 : Sorted (l.take i ++ x :: l.drop (i + 1)) := by rw [← split_at hx]; exact hs
  exact (List.pairwise_cons.1 (List.pairwise_append.1 h1).2.1).1
theorem putInv_here {l : List Item} {it x : Item} {i : Nat} {out : List Item} (hs : Sorted l) (h : PutInv l it i out false) (hx : l[i]? = some x) (hk : x.key = it.key) : PutInv l it (i + 1) (out ++ [it]) true := by
  obtain ⟨rfl, h2⟩ := h
  have h3 := high_after hs hx
  show putL l it = _
  have e : putL l it = putL (l.take i ++ x :: l.drop (i + 1)) it := by rw [← split_at hx]
  rw [e, putL_same _ _ h2 hk, dropL_none (fun y hy e => kLt_ne (h3 y hy) (by rw [e, hk]))]
  simp
theorem putInv_high {l : List Item} {it x : Item} {i : Nat} {out : List Item} (hs : Sorted l) (h : PutInv l it i out false) (hx : l[i]? = some x) (hk : kLt it.key x.key) : PutInv l it (i + 1) (out ++ [it] ++ [x]) true := by
  obtain ⟨rfl, h2⟩ := h
  have h3 := high_after hs hx
  have h4 : ∀ y ∈ l.drop i, kLt it.key y.key := fun y hy => by
    rw [drop_at hx] at hy
    rcases List.mem_cons.1 hy with rfl | h
    · exact hk
    · exact kLt_trans hk (h3 y h)
  show putL l it = _
  have e : putL l it = putL (l.take i ++ l.drop i) it := by rw [List.take_append_drop]
  rw [e, putL_at _ _ h2 h4, dropL_none (fun y hy e => kLt_ne (kLt_trans hk (h3 y hy)) e.symm), drop_at hx]
  simp
theorem putInv_laid {l : List Item} {it x : Item} {i : Nat} {out : List Item} (h : PutInv l it i out true) (hx : l[i]? = some x) : PutInv l it (i + 1) (if x.key = it.key then out else out ++ [x]) true := by
  have h1 : putL l it = out ++ dropL (l.drop i) it.key := h
  show putL l it = _
  rw [h1, drop_at hx]
  by_cases hk : x.key = it.key
  · simp [dropL, hk]
  · simp [dropL, hk]
theorem putInv_end {l : List Item} {it : Item} {out : List Item} (h : PutInv l it l.length out false) : putL l it = out ++ [it] := by
  obtain ⟨rfl, h2⟩ := h
  rw [List.take_length] at h2 ⊢
  have := putL_low l [] h2
  simpa [putL] using this
theorem putInv_done {l : List Item} {it : Item} {out : List Item} (h : PutInv l it l.length out true) : putL l it = out := by
  have h1 : putL l it = out ++ dropL (l.drop l.length) it.key := h
  rw [h1, List.drop_length]
  simp [dropL]
theorem putInv_start (l : List Item) (it : Item) : PutInv l it 0 [] false := ⟨rfl, fun x hx => by simp at hx⟩

def PutRel (base : Nat) (w0 : World) (K0 : Nat → Nat) (l : List Item) (it : Item) (eb n : Nat) (rs : List Res) (g : Nat) (v7 v8 vi : Value) (wr : World) : Prop :=
  ∃ (i : Nat) (out : List Item) (laid : Bool), n - i < g ∧ i ≤ n ∧ vi = .int .i64 i ∧ v8 = .bool laid ∧ out.length ≤ i + 1 ∧ Hid (PutInv l it i out laid) ∧ Hid (Hold base w0 K0 wr (rowP v7 out :: .cell eb 33 [.string it.name, .int .i64 it.node] :: rs))

theorem Hold.pairs {base : Nat} {w0 w : World} {K0 : Nat → Nat} {v : Value} {l : List Item} {rs : List Res} {no : Nat} {x : Item} (h : Hold base w0 K0 w ([] ++ Res.row v 61 3 (no + 1) (flat l ++ [.string x.key, .string x.name, .int .i64 x.node]) :: rs)) (hno : l.length = no) : Hold base w0 K0 w (rowP v (l ++ [x]) :: rs) := by
  rw [flat_snoc] at h
  show Hold base w0 K0 w (.row v 61 3 (l ++ [x]).length (flat (l ++ [x])) :: rs)
  rw [List.length_append, hno]
  exact h

set_option maxRecDepth 100000 in
set_option maxHeartbeats 2000000 in
theorem refPut_calls (base : Nat) (w0 : World) (K0 : Nat → Nat) (w : World) (rs : List Res) (vm : Value) (l : List Item) (it : Item) (H : Hold base w0 K0 w rs) (hm : rowP vm l ∈ rs) (hb : base ≤ w.heap.size) (hl : l.length ≤ 1000) (hs : Sorted l) :
    Calls Try.prog 10 #[vm, .string it.key, .agg #[.string it.name, .int .i64 it.node]] w fun e w' => PairsEnd base w0 K0 (putL l it) rs e w' := by
  have r0 : w.ownsRow base 61 3 vm l.length (flat l) := H.rowAt hm
  obtain ⟨n, hn⟩ : ∃ n, l.length = n := ⟨_, rfl⟩
  rw [hn] at r0 hl
  obtain ⟨p, cap, hvm⟩ := row_len r0
  rw [hvm]
  rw [hvm] at r0 hm
  obtain ⟨i0, hi0, hz0, hz1, hz2⟩ := info_parts info61
  obtain ⟨res, hres⟩ : ∃ res, putL l it = res := ⟨_, rfl⟩
  rw [hres]
  obtain ⟨eb, heb⟩ : ∃ eb, w.heap.size = eb := ⟨_, rfl⟩
  have HM := hide (H.made hb 33 [.string it.name, .int .i64 it.node])
  rw [heb] at HM
  have Hn := hide hn
  have Hm := hide hm
  have Hs := hide hs
  have Hres := hide hres
  clear r0 H hm hvm hn hs hres
  go_enter Try.func10, Try.ntmps10
  go_wp2_with fail
  go_loopg [7, 8, 9] (n + 1) (fun g v7 v8 vi wr => PutRel base w0 K0 l it eb n rs g v7 v8 vi wr)
  case atStart => exact ⟨0, [], false, by omega, by omega, rfl, rfl, by simp, putInv_start l it, (unhide HM).nilRow 61 3⟩
  case round =>
    obtain ⟨i, out, laid, hg, hi, rfl, rfl, hol, HP, HR⟩ := hrel
    have hbr : base ≤ wr.heap.size := (unhide HR).low (b := eb) (t := 33) (vs := [.string it.name, .int .i64 it.node]) (by simp)
    obtain ⟨no, hno⟩ : ∃ no, out.length = no := ⟨_, rfl⟩
    rw [hno] at hol
    have Hno := hide hno
    clear hno
    have c0 : wr.cell? ⟨eb, 0, none⟩ = some (.string it.name) := (unhide HR).cellAt (t := 33) (vs := [.string it.name, .int .i64 it.node]) (by simp) rfl
    have c1 : wr.cell? ⟨eb, 1, none⟩ = some (.int .i64 it.node) := (unhide HR).cellAt (t := 33) (vs := [.string it.name, .int .i64 it.node]) (by simp) rfl
    have eI : ∀ x : Item, (wr.alloc (.cells #[.string x.key, .string x.name, .int .i64 x.node] 61)).ownsRow base 61 3 u7 no (flat out) ∧ Hold base w0 K0 (wr.alloc (.cells #[.string x.key, .string x.name, .int .i64 x.node] 61)) (rowP u7 out :: .cell eb 33 [.string it.name, .int .i64 it.node] :: rs) := fun x => by
      have H1 := (unhide HR).alloc (.cells #[.string x.key, .string x.name, .int .i64 x.node] 61)
      exact ⟨by rw [← unhide Hno]; exact H1.rowAt (List.mem_cons_self ..), H1⟩
    have EI := hide eI
    clear eI
    by_cases hin : i < n
    · have hz : (i : Int) < (n : Int) := by omega
      have r1 : wr.ownsRow base 61 3 (.slice p n cap) n (flat l) := by have := (unhide HR).rowAt (List.mem_cons_of_mem _ (List.mem_cons_of_mem _ (unhide Hm))); rwa [unhide Hn] at this
      obtain ⟨g, cap', e1, _⟩ := row_shape r1 (by omega)
      injection e1 with e1 _ e2
      subst e1 e2
      obtain ⟨x, hx⟩ : ∃ x, l[i]? = some x := ⟨_, List.getElem?_eq_getElem (by have := unhide Hn; omega)⟩
      obtain ⟨t1, t2, t3⟩ := pair_cell r1 hx
      have Hx := hide hx
      clear r1 hx
      cases laid with
      | true =>
        by_cases hk : x.key = it.key
        · have hb1 : (x.key.toList == it.key.toList) = true := by rw [hk]; simp
          have HP' : Hid (PutInv l it (i + 1) out true) := by have := putInv_laid (unhide HP) (unhide Hx); rw [if_pos hk] at this; exact this
          go_wp2_with fail
          go_roundg (n - i)
          case measure => omega
          case rel => exact ⟨i + 1, out, true, by omega, by omega, by simp, rfl, by have := unhide Hno; omega, HP', HR⟩
        · have hb1 : (x.key.toList == it.key.toList) = false := by
            rw [beq_eq_false_iff_ne, Ne, toList_same]; exact hk
          have HP' : Hid (PutInv l it (i + 1) (out ++ [x]) true) := by have := putInv_laid (unhide HP) (unhide Hx); rw [if_neg hk] at this; exact this
          clear hk
          go_wp2_with (at_builtin; refine wpList_append_own_at _ rfl _ _ 27 rfl base 61 i0 (.agg #[.string ⟨#[]⟩, .string ⟨#[]⟩, .int .i64 0]) 3 40 Try.underlying27 hi0 hz0 hz1 hz2 rfl (by decide) _ _ _ rfl (unhide EI x).1 ⟨wr.heap.size, 0, none⟩ 1 1 [.string x.key, .string x.name, .int .i64 x.node] rfl rfl (cell_three_new wr (.string x.key) (.string x.name) (.int .i64 x.node) 61) (fun y hy => by simp at hy; rcases hy with rfl | rfl | rfl <;> rfl) (by unfold maxLen; omega) (by omega) (by simp; omega) ?_; intro v4 w4 hown4 hgrow4 hnil4 hat4; have H5 := hide ((unhide EI x).2.grow [] hgrow4 hown4 (by rcases hat4 with h | h; exact .inl h; exact .inr ⟨_, h, Nat.le_refl _⟩)); clear hown4 hgrow4 hnil4 hat4)
          go_roundg (n - i)
          case measure => omega
          case rel => exact ⟨i + 1, out ++ [x], true, by omega, by omega, by simp, rfl, by simp; have := unhide Hno; omega, HP', (unhide H5).pairs (unhide Hno)⟩
      | false =>
        have hoi : no ≤ i := by rw [← unhide Hno, (unhide HP).1]; simp; omega
        rcases kLt_tri it.key x.key with hk | hk | hk
        · have hb0 : Op.bytesLess it.key.toList x.key.toList = true := by rw [less_kLt]; simp [hk]
          have hb1 : (x.key.toList == it.key.toList) = false := by
            rw [beq_eq_false_iff_ne, Ne, toList_same]; exact (kLt_ne hk).symm
          have HP' : Hid (PutInv l it (i + 1) (out ++ [it] ++ [x]) true) := putInv_high (unhide Hs) (unhide HP) (unhide Hx) hk
          clear hk
          go_upto_region 9 with (at_builtin; refine wpList_append_own_at _ rfl _ _ 27 rfl base 61 i0 (.agg #[.string ⟨#[]⟩, .string ⟨#[]⟩, .int .i64 0]) 3 40 Try.underlying27 hi0 hz0 hz1 hz2 rfl (by decide) _ _ _ rfl (unhide EI it).1 ⟨wr.heap.size, 0, none⟩ 1 1 [.string it.key, .string it.name, .int .i64 it.node] rfl rfl (cell_three_new wr (.string it.key) (.string it.name) (.int .i64 it.node) 61) (fun y hy => by simp at hy; rcases hy with rfl | rfl | rfl <;> rfl) (by unfold maxLen; omega) (by omega) (by simp; omega) ?_; intro v4 w4 hown4 hgrow4 hnil4 hat4; have H5 := hide ((unhide EI it).2.grow [] hgrow4 hown4 (by rcases hat4 with h | h; exact .inl h; exact .inr ⟨_, h, Nat.le_refl _⟩)); clear hown4 hgrow4 hnil4 hat4)
          have H6 := (unhide H5).pairs (unhide Hno)
          have hb4 : base ≤ w4.heap.size := H6.low (b := eb) (t := 33) (vs := [.string it.name, .int .i64 it.node]) (by simp)
          have r4 : w4.ownsRow base 61 3 (.slice (some ⟨g, 0, none⟩) n cap) n (flat l) := by have := H6.rowAt (List.mem_cons_of_mem _ (List.mem_cons_of_mem _ (unhide Hm))); rwa [unhide Hn] at this
          obtain ⟨y1, y2, y3⟩ := pair_cell r4 (unhide Hx)
          have H7 := hide (H6.alloc (.cells #[.string x.key, .string x.name, .int .i64 x.node] 61))
          have r5 : (w4.alloc (.cells #[.string x.key, .string x.name, .int .i64 x.node] 61)).ownsRow base 61 3 v4 (no + 1) (flat (out ++ [it])) := by have := (unhide H7).rowAt (List.mem_cons_self ..); rwa [List.length_append, unhide Hno] at this
          have Hr5 := hide r5
          have Hno2 : Hid ((out ++ [it]).length = no + 1) := by show _ = _; rw [List.length_append, unhide Hno]; rfl
          clear H6 H5 r4 r5 EI HR HP c0 c1 t1 t2 t3
          go_wp2_with (at_builtin; refine wpList_append_own_at _ rfl _ _ 27 rfl base 61 i0 (.agg #[.string ⟨#[]⟩, .string ⟨#[]⟩, .int .i64 0]) 3 40 Try.underlying27 hi0 hz0 hz1 hz2 rfl (by decide) _ _ _ rfl (unhide Hr5) ⟨w4.heap.size, 0, none⟩ 1 1 [.string x.key, .string x.name, .int .i64 x.node] rfl rfl (cell_three_new w4 (.string x.key) (.string x.name) (.int .i64 x.node) 61) (fun y hy => by simp at hy; rcases hy with rfl | rfl | rfl <;> rfl) (by unfold maxLen; omega) (by omega) (by simp; omega) ?_; intro v6 w6 hown4 hgrow4 hnil4 hat4; have H8 := hide ((unhide H7).grow [] hgrow4 hown4 (by rcases hat4 with h | h; exact .inl h; exact .inr ⟨_, h, Nat.le_refl _⟩)); clear hown4 hgrow4 hnil4 hat4)
          go_roundg (n - i)
          case measure => omega
          case rel => exact ⟨i + 1, out ++ [it] ++ [x], true, by omega, by omega, by simp, rfl, by have := unhide Hno2; rw [List.length_append, this]; simp; omega, HP', (unhide H8).pairs (unhide Hno2)⟩
        · have hb0 : Op.bytesLess it.key.toList x.key.toList = false := by rw [less_kLt, ← hk]; simp [kLt_irrefl]
          have hb1 : (x.key.toList == it.key.toList) = true := by rw [hk]; simp
          have hb2 : (it.key.toList == x.key.toList) = true := by rw [hk]; simp
          have HP' : Hid (PutInv l it (i + 1) (out ++ [it]) true) := putInv_here (unhide Hs) (unhide HP) (unhide Hx) hk.symm
          clear hk
          go_wp2_with (at_builtin; refine wpList_append_own_at _ rfl _ _ 27 rfl base 61 i0 (.agg #[.string ⟨#[]⟩, .string ⟨#[]⟩, .int .i64 0]) 3 40 Try.underlying27 hi0 hz0 hz1 hz2 rfl (by decide) _ _ _ rfl (unhide EI it).1 ⟨wr.heap.size, 0, none⟩ 1 1 [.string it.key, .string it.name, .int .i64 it.node] rfl rfl (cell_three_new wr (.string it.key) (.string it.name) (.int .i64 it.node) 61) (fun y hy => by simp at hy; rcases hy with rfl | rfl | rfl <;> rfl) (by unfold maxLen; omega) (by omega) (by simp; omega) ?_; intro v4 w4 hown4 hgrow4 hnil4 hat4; have H5 := hide ((unhide EI it).2.grow [] hgrow4 hown4 (by rcases hat4 with h | h; exact .inl h; exact .inr ⟨_, h, Nat.le_refl _⟩)); have y1 : w4.cell? ⟨g, i * 3, none⟩ = some (.string x.key) := (pair_cell (base := base) (n := n) (cap := cap) (its := l) (by have := (unhide H5).rowAt (List.mem_cons_of_mem _ (List.mem_cons_of_mem _ (unhide Hm))); rwa [unhide Hn] at this) (unhide Hx)).1; clear hown4 hgrow4 hnil4 hat4)
          go_roundg (n - i)
          case measure => omega
          case rel => exact ⟨i + 1, out ++ [it], true, by omega, by omega, by simp, rfl, by simp; have := unhide Hno; omega, HP', (unhide H5).pairs (unhide Hno)⟩
        · have hb0 : Op.bytesLess it.key.toList x.key.toList = false := by rw [less_kLt]; simp [kLt_asymm hk]
          have hb1 : (x.key.toList == it.key.toList) = false := by
            rw [beq_eq_false_iff_ne, Ne, toList_same]; exact kLt_ne hk
          have hb2 : (it.key.toList == x.key.toList) = false := by
            rw [beq_eq_false_iff_ne, Ne, toList_same]; exact (kLt_ne hk).symm
          have HP' : Hid (PutInv l it (i + 1) (out ++ [x]) false) := putInv_low (unhide HP) (unhide Hx) hk
          clear hk
          go_wp2_with (at_builtin; refine wpList_append_own_at _ rfl _ _ 27 rfl base 61 i0 (.agg #[.string ⟨#[]⟩, .string ⟨#[]⟩, .int .i64 0]) 3 40 Try.underlying27 hi0 hz0 hz1 hz2 rfl (by decide) _ _ _ rfl (unhide EI x).1 ⟨wr.heap.size, 0, none⟩ 1 1 [.string x.key, .string x.name, .int .i64 x.node] rfl rfl (cell_three_new wr (.string x.key) (.string x.name) (.int .i64 x.node) 61) (fun y hy => by simp at hy; rcases hy with rfl | rfl | rfl <;> rfl) (by unfold maxLen; omega) (by omega) (by simp; omega) ?_; intro v4 w4 hown4 hgrow4 hnil4 hat4; have H5 := hide ((unhide EI x).2.grow [] hgrow4 hown4 (by rcases hat4 with h | h; exact .inl h; exact .inr ⟨_, h, Nat.le_refl _⟩)); clear hown4 hgrow4 hnil4 hat4)
          go_roundg (n - i)
          case measure => omega
          case rel => exact ⟨i + 1, out ++ [x], false, by omega, by omega, by simp, rfl, by simp; have := unhide Hno; omega, HP', (unhide H5).pairs (unhide Hno)⟩
    · have hz : ¬ ((i : Int) < (n : Int)) := by omega
      have hil : i = l.length := by have := unhide Hn; omega
      rw [hil] at HP
      clear hil
      cases laid with
      | true =>
        have HF : Hid (res = out) := (unhide Hres).symm.trans (putInv_done (unhide HP))
        go_wp2_with fail
        go_ret
        exact ⟨_, rfl, by rw [unhide HF]; exact (unhide HR).forget [_]⟩
      | false =>
        have HF : Hid (res = out ++ [it]) := (unhide Hres).symm.trans (putInv_end (unhide HP))
        go_wp2_with (at_builtin; refine wpList_append_own_at _ rfl _ _ 27 rfl base 61 i0 (.agg #[.string ⟨#[]⟩, .string ⟨#[]⟩, .int .i64 0]) 3 40 Try.underlying27 hi0 hz0 hz1 hz2 rfl (by decide) _ _ _ rfl (unhide EI it).1 ⟨wr.heap.size, 0, none⟩ 1 1 [.string it.key, .string it.name, .int .i64 it.node] rfl rfl (cell_three_new wr (.string it.key) (.string it.name) (.int .i64 it.node) 61) (fun y hy => by simp at hy; rcases hy with rfl | rfl | rfl <;> rfl) (by unfold maxLen; omega) (by omega) (by simp; omega) ?_; intro v4 w4 hown4 hgrow4 hnil4 hat4; have H5 := hide ((unhide EI it).2.grow [] hgrow4 hown4 (by rcases hat4 with h | h; exact .inl h; exact .inr ⟨_, h, Nat.le_refl _⟩)); clear hown4 hgrow4 hnil4 hat4)
        go_ret
        exact ⟨_, rfl, by rw [unhide HF]; exact ((unhide H5).pairs (unhide Hno)).forget [_]⟩
#print axioms refPut_calls
end Go.Proofs.Ytklnonmmamdecab
