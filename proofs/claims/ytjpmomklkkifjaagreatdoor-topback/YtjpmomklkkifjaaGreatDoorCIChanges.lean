/-
  The contract of image.Changes upon two rows that differ in one value at most.
-/
import Derived.Test.YtjpmomklkkifjaaGreatDoorCISort
import Derived.Test.YtjpmomklkkifjaaGreatDoorCIRowF
import Derived.BigQuiet
namespace Go.Proofs.YtjpmomklkkifjaaGreatDoor.T
open Go.RowKit Go.Lib
set_option maxRecDepth 100000
set_option linter.unusedVariables false
set_option linter.unusedSimpArgs false

theorem H0.nilRow {w0 w : World} (h : H0 w0 w []) : H0 w0 w [rowCh (.slice none 0 0) []] := Hold.nilRow h 69 3
theorem H0.appC {w0 w : World} {v : Value} {R : List CH} (h : H0 w0 w [rowCh v R]) {A : Nat} {c : CH} (hc : w.heap[A]? = some (.cells (encC c).toArray 69 (0, 0))) (hn : R.length ≤ 1000) (ty : TypeId) :
    ∃ v' w', (Builtin.append_ #[54, 54] ty #[v, .slice (some ⟨A, 0, none⟩) 1 1]).run Tryz.prog w = .ok v' w' ∧ H0 w0 w' [rowCh v' (R ++ [c])] := by
  obtain ⟨i0, hi, hz0, hz1, hz2⟩ := info_parts infoChange
  have hv : w.ownsRow w0.heap.size 69 3 v R.length (flatC R) := Hold.sat h (rowCh v R) (by simp)
  have hb : w0.heap.size ≤ w.heap.size := (H0.below h).size
  obtain ⟨v', w', hr, ho, hg, _, ha⟩ := run_append_own_at (P := Tryz.prog) w w0.heap.size 54 ty 69 i0 _ 3 40 Tryz.underlying54 hi hz0 hz1 hz2 rfl (by decide) v _ _ hv ⟨A, 0, none⟩ 1 1 (encC c) rfl (fun j u hj => by
    rw [Addr.add_lit, Nat.zero_add, cell_of_row _ _ j _ 69 (0, 0) hc]
    simpa using hj) (fun u hu => by simp [encC] at hu; rcases hu with rfl | rfl | rfl <;> rfl) (by unfold maxLen; omega) (by omega) hb
  refine ⟨v', w', hr, ?_⟩
  rw [← flatC_snoc] at ho
  have e : R.length + 1 = (R ++ [c]).length := by simp
  rw [e] at ho
  exact Hold.grow [] h hg ho (ha.imp id fun h => ⟨_, h, Nat.le_refl _⟩)
theorem H0.alloc4 {w0 w : World} {rs : List Res} (h : H0 w0 w rs) (o : Obj) : H0 w0 (w.alloc o) rs := h.step ((Below.refl _ w).alloc (Nat.le_refl _) o)
theorem mid_get {A B : List CH} {c d x y : CH} {j : Nat} (hx : (A ++ c :: B)[j]? = some x) (hy : (A ++ d :: B)[j]? = some y) : (j ≠ A.length → x = y) ∧ (j = A.length → x = c ∧ y = d) := by
  constructor
  · intro hj
    rcases Nat.lt_or_ge j A.length with h | h
    · rw [List.getElem?_append_left h] at hx hy
      rw [hx] at hy
      exact Option.some.inj hy
    · rw [List.getElem?_append_right h] at hx hy
      obtain ⟨k, hk⟩ : ∃ k, j - A.length = k + 1 := ⟨j - A.length - 1, by omega⟩
      rw [hk, List.getElem?_cons_succ] at hx hy
      rw [hx] at hy
      exact Option.some.inj hy
  · intro hj
    subst hj
    simp at hx hy
    exact ⟨hx.symm, hy.symm⟩

set_option maxHeartbeats 8000000 in
theorem changes_calls {w : World} {b1 b2 n : Nat} {va vb : Value} {A B : List CH} {c d : CH} (ha : w.ownsRow b1 69 3 va n (flatC (A ++ c :: B))) (hb : w.ownsRow b2 69 3 vb n (flatC (A ++ d :: B))) (hk : c.key = d.key) (hg : c.gone = d.gone) (hn : (A ++ c :: B).length = n) (hm : n ≤ 1000) :
    Calls Tryz.prog 30 #[va, vb] w fun e w' => ∃ p m cap, e = .returned (.slice p m cap) ∧ m ≤ 1 ∧ Below w.heap.size w w' := by
  have hn0 : 0 < n := by rw [← hn, List.length_append, List.length_cons]; omega
  have hn2 : (A ++ d :: B).length = n := by rw [← hn]; simp
  obtain ⟨g1, cap1, rfl, hcap1, _⟩ := row_shape ha hn0
  obtain ⟨g2, cap2, rfl, hcap2, _⟩ := row_shape hb hn0
  have HA : Hid (∀ j x, (A ++ c :: B)[j]? = some x → ∀ wx, Below w.heap.size w wx → wx.cell? ⟨g1, j * 3, none⟩ = some (.string x.key) ∧ wx.cell? ⟨g1, j * 3 + 1, none⟩ = some (.string x.val) ∧ wx.cell? ⟨g1, j * 3 + 2, none⟩ = some (.bool x.gone)) := fun j x hx wx hb => by
    obtain ⟨h0, h1, h2⟩ := ch_cell ha hx
    exact ⟨cell_later hb h0, cell_later hb h1, cell_later hb h2⟩
  have HB : Hid (∀ j x, (A ++ d :: B)[j]? = some x → ∀ wx, Below w.heap.size w wx → wx.cell? ⟨g2, j * 3, none⟩ = some (.string x.key) ∧ wx.cell? ⟨g2, j * 3 + 1, none⟩ = some (.string x.val) ∧ wx.cell? ⟨g2, j * 3 + 2, none⟩ = some (.bool x.gone)) := fun j x hx wx hb2 => by
    obtain ⟨h0, h1, h2⟩ := ch_cell hb hx
    exact ⟨cell_later hb2 h0, cell_later hb2 h1, cell_later hb2 h2⟩
  have HE : Hid (∀ j x y, (A ++ c :: B)[j]? = some x → (A ++ d :: B)[j]? = some y → x.key = y.key ∧ x.gone = y.gone ∧ (j ≠ A.length → x.val = y.val)) := fun j x y hx hy => by
    obtain ⟨h1, h2⟩ := mid_get hx hy
    by_cases hj : j = A.length
    · obtain ⟨rfl, rfl⟩ := h2 hj
      exact ⟨hk, hg, fun h => absurd hj h⟩
    · have := h1 hj
      subst this
      exact ⟨rfl, rfl, fun _ => rfl⟩
  have Hn1 := hide hn
  have Hn2 := hide hn2
  obtain ⟨a, hal⟩ : ∃ a, A.length = a := ⟨_, rfl⟩
  rw [hal] at HE
  have HS := hide (H0.nilRow (H0.start w))
  clear ha hb hk hg hn hn2 hal
  go_enter Tryz.func30, Tryz.ntmps30
  go_wp2_with fail
  go_loopg [0, 1, 5] (n + 1) (fun k v0 v1 v5 wr => ∃ (j m : Nat) (p0 p1 : Option Addr) (e0 e1 : Nat), m < k ∧ m + j = n ∧ v0 = .slice p0 m e0 ∧ v1 = .slice p1 m e1 ∧ (0 < m → p0 = some ⟨g1, j * 3, none⟩ ∧ p1 = some ⟨g2, j * 3, none⟩ ∧ e0 + j = cap1 ∧ e1 + j = cap2) ∧ ∃ (R : List CH) (u5 : Value), u5 = v5 ∧ R.length ≤ 1 ∧ (j ≤ a → R.length = 0) ∧ Hid (H0 w wr [rowCh u5 R]))
  case atStart => exact ⟨0, n, _, _, cap1, cap2, by omega, by omega, rfl, rfl, fun _ => ⟨by simp, by simp, by omega, by omega⟩, [], _, rfl, by simp, fun _ => rfl, HS⟩
  case round =>
    obtain ⟨j, m, p0, p1, e0, e1, hkm, hmj, rfl, rfl, hpe, R, u5, rfl, hR1, hR0, HI⟩ := hrel
    clear HS
    by_cases hm0 : 0 < m
    · obtain ⟨rfl, rfl, he0, he1⟩ := hpe hm0
      have hz0 : (0 : Int) < (m : Int) := by omega
      have hz1 : (1 : Int) ≤ (m : Int) := by omega
      have hz2 : ((m : Int) == 0) = false := by simp; omega
      have hjl : j < n := by omega
      obtain ⟨x, hx⟩ : ∃ x, (A ++ c :: B)[j]? = some x := ⟨(A ++ c :: B)[j]'(by rw [unhide Hn1]; exact hjl), List.getElem?_eq_getElem _⟩
      obtain ⟨y, hy⟩ : ∃ y, (A ++ d :: B)[j]? = some y := ⟨(A ++ d :: B)[j]'(by rw [unhide Hn2]; exact hjl), List.getElem?_eq_getElem _⟩
      have hbl := H0.below (unhide HI)
      obtain ⟨hk1, hg1, hv1⟩ := unhide HE j x y hx hy
      have HX : Hid (∀ wx, Below w.heap.size w wx → wx.cell? ⟨g1, j * 3, none⟩ = some (.string x.key) ∧ wx.cell? ⟨g1, j * 3 + 1, none⟩ = some (.string x.val) ∧ wx.cell? ⟨g1, j * 3 + 2, none⟩ = some (.bool x.gone)) := unhide HA j x hx
      have HY : Hid (∀ wx, Below w.heap.size w wx → wx.cell? ⟨g2, j * 3, none⟩ = some (.string y.key) ∧ wx.cell? ⟨g2, j * 3 + 1, none⟩ = some (.string y.val) ∧ wx.cell? ⟨g2, j * 3 + 2, none⟩ = some (.bool y.gone)) := unhide HB j y hy
      obtain ⟨xk, xv, xg⟩ := x
      obtain ⟨yk, yv, yg⟩ := y
      simp only at hk1 hg1 hv1 HX HY
      subst hk1 hg1
      have hless : Op.bytesLess xk.toList xk.toList = false := by rw [less_kLt]; exact decide_eq_false (kLt_irrefl _)
      have x0 := fun q : Later wr => (unhide HX q.wld (hbl.trans (q.bel.mono hbl.size))).1
      have y0 := fun q : Later wr => (unhide HY q.wld (hbl.trans (q.bel.mono hbl.size))).1
      have Hbl := hide hbl
      have HV := hide hv1
      clear hx hy hbl hpe hv1 HA HB HE
      go_wp2_with fail
      refine wp_region_later (by kernel_rfl) (by kernel_rfl) ?_
      repeat (go_big_quiet_step (fail))
      refine wpQuiet_nil ?_
      intro _ hw'
      obtain ⟨uq, hw''⟩ := hw'
      subst hw''
      have hb2 : Below w.heap.size w uq.wld := (unhide Hbl).trans (uq.bel.mono (unhide Hbl).size)
      have H2 : Hid (H0 w uq.wld [rowCh u5 R]) := (unhide HI).step uq.bel
      generalize uq.wld = w2 at hb2 H2
      have x0 := fun q : Later w2 => (unhide HX q.wld (hb2.trans (q.bel.mono hb2.size))).1
      have y0 := fun q : Later w2 => (unhide HY q.wld (hb2.trans (q.bel.mono hb2.size))).1
      have Hb2 := hide hb2
      clear hb2 HI Hbl
      go_wp2_with fail
      refine wp_region_later (by kernel_rfl) (by kernel_rfl) ?_
      repeat (go_big_quiet_step (fail))
      refine wpQuiet_nil ?_
      intro _ hw'
      obtain ⟨uq2, hw''⟩ := hw'
      subst hw''
      have hb3 : Below w.heap.size w uq2.wld := (unhide Hb2).trans (uq2.bel.mono (unhide Hb2).size)
      have H3 : Hid (H0 w uq2.wld [rowCh u5 R]) := (unhide H2).step uq2.bel
      generalize uq2.wld = w3 at hb3 H3
      have x0 := fun q : Later w3 => (unhide HX q.wld (hb3.trans (q.bel.mono hb3.size))).1
      have x1 := fun q : Later w3 => (unhide HX q.wld (hb3.trans (q.bel.mono hb3.size))).2.1
      have x2 := fun q : Later w3 => (unhide HX q.wld (hb3.trans (q.bel.mono hb3.size))).2.2
      have y0 := fun q : Later w3 => (unhide HY q.wld (hb3.trans (q.bel.mono hb3.size))).1
      have y1 := fun q : Later w3 => (unhide HY q.wld (hb3.trans (q.bel.mono hb3.size))).2.1
      have y2 := fun q : Later w3 => (unhide HY q.wld (hb3.trans (q.bel.mono hb3.size))).2.2
      have Hb3 := hide hb3
      have hkk : (xk.toList == xk.toList) = true := by simp
      have hkv : (xv.toList == xv.toList) = true := by simp
      have hgg : (xg == xg) = true := by simp
      clear hb3 H2 Hb2
      cases hbv : (xv.toList == yv.toList) with
      | true =>
        go_wp2_with fail
        refine wp_region_later (by kernel_rfl) (by kernel_rfl) ?_
        repeat (go_big_quiet_step (fail))
        refine wpQuiet_nil ?_
        intro _ hw'
        obtain ⟨uq3, hw''⟩ := hw'
        subst hw''
        have hb4 : Below w.heap.size w uq3.wld := (unhide Hb3).trans (uq3.bel.mono (unhide Hb3).size)
        have H4 : Hid (H0 w uq3.wld [rowCh u5 R]) := (unhide H3).step uq3.bel
        generalize uq3.wld = w4 at hb4 H4
        clear x0 x1 x2 y0 y1 y2
        have Hb4 := hide hb4
        clear hb4 H3 Hb3 HX HY
        go_wp2_with fail
        refine wp_region_later (by kernel_rfl) (by kernel_rfl) ?_
        repeat (go_big_quiet_step (fail))
        refine wpQuiet_nil ?_
        intro _ hw'
        obtain ⟨uq4, hw''⟩ := hw'
        subst hw''
        have H5 : Hid (H0 w uq4.wld [rowCh u5 R]) := (unhide H4).step uq4.bel
        generalize uq4.wld = w5 at H5
        go_wp2_with fail
        all_goals
          go_roundg m
          case measure => omega
          case rel => exact ⟨j + 1, m - 1, _, _, _, _, by omega, by omega, rfl, rfl, fun hh => (by first | (exfalso; omega) | exact ⟨congrArg (fun o => some (⟨g1, o, none⟩ : Addr)) (by omega : _ = (j + 1) * 3), congrArg (fun o => some (⟨g2, o, none⟩ : Addr)) (by omega : _ = (j + 1) * 3), by omega, by omega⟩), R, u5, rfl, hR1, fun h => hR0 (by omega), H5⟩
      | false =>
        have hja : j = a := by
          apply Classical.byContradiction
          intro hne
          rw [unhide HV hne] at hbv
          simp at hbv
        have Hja := hide hja
        clear hja
        go_wp2_with fail
        refine wp_region_later (by kernel_rfl) (by kernel_rfl) ?_
        repeat (go_big_quiet_step (fail))
        refine wpQuiet_nil ?_
        intro _ hw'
        obtain ⟨uq3, hw''⟩ := hw'
        subst hw''
        have hb4 : Below w.heap.size w uq3.wld := (unhide Hb3).trans (uq3.bel.mono (unhide Hb3).size)
        have H4 : Hid (H0 w uq3.wld [rowCh u5 R]) := (unhide H3).step uq3.bel
        generalize uq3.wld = w4 at hb4 H4
        clear x0 x1 x2 y0 y1 y2
        have y0 := (unhide HY w4 hb4).1
        have y1 := (unhide HY w4 hb4).2.1
        have y2 := (unhide HY w4 hb4).2.2
        have h5 := H0.alloc4 (unhide H4) (.cells #[.string xk, .string yv, .bool xg] 69)
        obtain ⟨v6, w6, hap, h6⟩ := H0.appC h5 (c := ⟨xk, yv, xg⟩) (heap_alloc_new w4 _) (by omega) 54
        have HAp := hide hap
        have H6 := hide h6
        clear hb4 H3 Hb3 HX HY h5 hap h6
        go_wp2_with (at_builtin; refine wpList_appendI rfl _ _ 54 54 rfl _ _ rfl rfl (unhide HAp) ?_)
        refine wp_region_later (by kernel_rfl) (by kernel_rfl) ?_
        repeat (go_big_quiet_step (fail))
        refine wpQuiet_nil ?_
        intro _ hw'
        obtain ⟨uq4, hw''⟩ := hw'
        subst hw''
        have H7 : Hid (H0 w uq4.wld [rowCh v6 (R ++ [⟨xk, yv, xg⟩])]) := (unhide H6).step uq4.bel
        generalize uq4.wld = w7 at H7
        have hR2 : (R ++ [(⟨xk, yv, xg⟩ : CH)]).length ≤ 1 := by rw [List.length_append, hR0 (Nat.le_of_eq (unhide Hja))]; exact Nat.le_refl 1
        go_wp2_with fail
        all_goals
          go_roundg m
          case measure => omega
          case rel => exact ⟨j + 1, m - 1, _, _, _, _, by omega, by omega, rfl, rfl, fun hh => (by first | (exfalso; omega) | exact ⟨congrArg (fun o => some (⟨g1, o, none⟩ : Addr)) (by omega : _ = (j + 1) * 3), congrArg (fun o => some (⟨g2, o, none⟩ : Addr)) (by omega : _ = (j + 1) * 3), by omega, by omega⟩), R ++ [(⟨xk, yv, xg⟩ : CH)], v6, rfl, hR2, fun h => (by have := unhide Hja; exfalso; omega), H7⟩
    · have hm1 : m = 0 := by omega
      subst hm1
      obtain ⟨p, cp, rfl⟩ := row_cut (Hold.sat (unhide HI) (rowCh u5 R) (by simp))
      obtain ⟨r, hr⟩ : ∃ r, R.length = r := ⟨_, rfl⟩
      have Hb : Hid (Below w.heap.size w wr) := H0.below (unhide HI)
      rw [hr] at hR1 ⊢
      clear HI hr hpe hR0
      go_wp2_with fail
      go_ret
      exact ⟨_, _, _, rfl, hR1, unhide Hb⟩
end Go.Proofs.YtjpmomklkkifjaaGreatDoor.T
