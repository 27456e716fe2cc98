import Derived.Test.YtjpmomklkkifjaaGreatDoorCIMadeF
import Derived.Test.YtjpmomklkkifjaaGreatDoorCFLater
import Derived.Test.YtjpmomklkkifjaaGreatDoorCILink
import Derived.BigQuiet
import Derived.Deep.QuietTactic
set_option maxRecDepth 100000
set_option linter.unusedVariables false
set_option linter.unusedSimpArgs false
namespace Go.Proofs.YtjpmomklkkifjaaGreatDoor.T
open Go.RowKit
open Go.Maps (Keyed)
variable {w0 w w' : World} {db nb eb : Nat} {D : List DN} {E : List DE} {next : Int} {l : List Res} {A : List (Int × Item)}
def MadeOk (w0 : World) (db nb eb : Nat) (A : List (Int × Item)) (D : List DN) (E : List DE) (next : Int) (nv : DN → NV) : Prop :=
  ∀ d ∈ D, (nv d).id = d.id ∧ ∀ (wx : World) (lx : List Res), H0 w0 wx (dfR db nb eb (mark A D) E next lx) → Calls Tryz.prog 120 #[.pointer (some ⟨db, 0, none⟩), .int .i64 d.id, .pointer (some ⟨d.blk, 0, none⟩)] wx fun e w' =>
    e = .returned (.tuple #[.agg #[.int .i64 (nv d).id, .int .i64 (nv d).kind, .int .i64 (nv d).up, .int .i64 (nv d).links, .string (nv d).text], .bool true]) ∧ H0 w0 w' (dfR db nb eb (mark A D) E next lx) ∧ Below wx.heap.size wx w'
theorem H0.nilRow33 {rs : List Res} (h : H0 w0 w rs) : H0 w0 w (rowNd (.slice none 0 0) [] :: rs) := Hold.nilRow h 33 5
theorem H0.appN (l1 : List Res) {l2 : List Res} {v : Value} {L : List NV} (h : H0 w0 w (l1 ++ rowNd v L :: l2)) {X : Nat} {u : NV} (hc : w.heap[X]? = some (.cells (encN u).toArray 33 (0, 0))) (hn : L.length ≤ 1000) (ty : TypeId) :
    ∃ v' w', (Builtin.append_ #[27, 27] ty #[v, .slice (some ⟨X, 0, none⟩) 1 1]).run Tryz.prog w = .ok v' w' ∧ H0 w0 w' (l1 ++ rowNd v' (L ++ [u]) :: l2) ∧ w.grownBy w' v.ownBlock := by
  obtain ⟨i0, hi, hz0, hz1, hz2⟩ := info_parts infoNode
  have hv : w.ownsRow w0.heap.size 33 5 v L.length (flatN L) := Hold.sat h (rowNd v L) (by simp)
  have hb : w0.heap.size ≤ w.heap.size := (H0.below h).size
  obtain ⟨v', w', hr, ho, hg, _, ha⟩ := run_append_own_at (P := Tryz.prog) w w0.heap.size 27 ty 33 i0 _ 5 48 Tryz.underlying27 hi hz0 hz1 hz2 rfl (by decide) v _ _ hv ⟨X, 0, none⟩ 1 1 (encN u) rfl (fun j x hj => by
    rw [Addr.add_lit, Nat.zero_add, cell_of_row _ _ j _ 33 (0, 0) hc]
    simpa using hj) (fun x hx => by simp [encN] at hx; rcases hx with rfl | rfl | rfl | rfl | rfl <;> rfl) (by unfold maxLen; omega) (by omega) hb
  refine ⟨v', w', hr, ?_, hg⟩
  rw [← flatN_snoc] at ho
  have e2 : L.length + 1 = (L ++ [u]).length := by simp
  rw [e2] at ho
  exact Hold.grow l1 h hg ho (ha.imp id fun h => ⟨_, h, Nat.le_refl _⟩)
theorem tg_apart {rb : Nat} {v : Value} {L : List NV} (h : H0 w0 w (rowNd v L :: someB rb :: dfR db nb eb (mark A D) E next l)) : some nb ≠ v.ownBlock ∧ some rb ≠ v.ownBlock := by
  constructor
  · intro e1
    have h1 := Hold.uniq h nb
    have h2 : 0 < blkN v nb := blkN_pos.2 e1.symm
    have h3 : (Res.obj nb (P.IsMapP ((mark A D).map DN.pv))).foot nb = 1 := one_self _
    simp only [dfR, total_cons, total_append] at h1
    have h4 : (rowNd v L).foot nb = blkN v nb := rfl
    omega
  · intro e1
    have h1 := Hold.uniq h rb
    have h2 : 0 < blkN v rb := blkN_pos.2 e1.symm
    have h3 : (someB rb).foot rb = 1 := one_self _
    simp only [dfR, total_cons, total_append] at h1
    have h4 : (rowNd v L).foot rb = blkN v rb := rfl
    omega
theorem df_push2 {a b : Res} (h : H0 w0 w (a :: b :: dfR db nb eb D E next l)) : H0 w0 w (dfR db nb eb D E next (a :: b :: l)) := H0.perm h (dfR_front.trans (dfR_front.cons a))
theorem df_pop2 {a b : Res} (h : H0 w0 w (dfR db nb eb D E next (a :: b :: l))) : H0 w0 w (a :: b :: dfR db nb eb D E next l) := H0.perm h (dfR_front.trans (dfR_front.cons a)).symm
end Go.Proofs.YtjpmomklkkifjaaGreatDoor.T
namespace Go.Proofs.YtjpmomklkkifjaaGreatDoor.T.J
open Go.RowKit Go.Lib
variable {w0 w : World} {l2 : List Res}
theorem flatC_one (L : List CH) : ∀ u ∈ flatC L, u.oneCell' = true := by
  intro u hu
  obtain ⟨x, _, hx⟩ := List.mem_flatMap.1 hu
  simp [encC] at hx
  rcases hx with rfl | rfl | rfl <;> rfl
theorem H0.appC {v : Value} {R : List CH} (h : H0 w0 w (rowCh v R :: l2)) (c : CH) (hn : R.length ≤ 1000) :
    ∃ v' w', (Builtin.append_ #[54, 54] 54 #[v, .slice (some ⟨w.heap.size, 0, none⟩) 1 1]).run Tryz.prog (w.alloc (.cells #[.string c.key, .string c.val, .bool c.gone] 69)) = .ok v' w' ∧ H0 w0 w' (rowCh v' (R ++ [c]) :: l2) := by
  obtain ⟨i0, hi, hz0, hz1, hz2⟩ := info_parts infoChange
  have h1 : H0 w0 (w.alloc (.cells #[.string c.key, .string c.val, .bool c.gone] 69)) (rowCh v R :: l2) := H0.step h ((Below.refl _ w).alloc (Nat.le_refl _) _)
  have hv : (w.alloc (.cells #[.string c.key, .string c.val, .bool c.gone] 69)).ownsRow w0.heap.size 69 3 v R.length (flatC R) := Hold.sat h1 (rowCh v R) (.head _)
  have hb := (H0.below h1).size
  have hc := heap_alloc_new w (.cells #[.string c.key, .string c.val, .bool c.gone] 69)
  obtain ⟨v', w', hr, ho, hg, _, ha⟩ := run_append_own_at (P := Tryz.prog) _ w0.heap.size 54 54 69 i0 _ 3 40 Tryz.underlying54 hi hz0 hz1 hz2 rfl (by decide) v _ _ hv ⟨w.heap.size, 0, none⟩ 1 1 (encC c) rfl (fun j u hj => by
    rw [Addr.add_lit, Nat.zero_add, cell_of_row _ _ j _ 69 (0, 0) hc]
    simpa [encC] using hj) (fun u hu => by simp [encC] at hu; rcases hu with rfl | rfl | rfl <;> rfl) (by unfold maxLen; omega) (by omega) hb
  refine ⟨v', w', hr, ?_⟩
  rw [← flatC_snoc] at ho
  have e : R.length + 1 = (R ++ [c]).length := by simp
  rw [e] at ho
  exact Hold.grow [] h1 hg ho (ha.imp id fun h => ⟨_, h, Nat.le_refl _⟩)
theorem H0.copyC {t : Value} {C : List CH} (h : H0 w0 w l2) (ht : rowCh t C ∈ l2) (hn : C.length ≤ 1000) :
    ∃ v' w', (Builtin.append_ #[54, 54] 54 #[.slice none 0 0, t]).run Tryz.prog w = .ok v' w' ∧ H0 w0 w' (rowCh v' C :: l2) := by
  obtain ⟨i0, hi, hz0, hz1, hz2⟩ := info_parts infoChange
  have h1 : H0 w0 w (rowCh (.slice none 0 0) [] :: l2) := Hold.nilRow h 69 3
  have hv : w.ownsRow w0.heap.size 69 3 (.slice none 0 0) 0 (flatC []) := Hold.sat h1 (rowCh (.slice none 0 0) []) (.head _)
  have hb := (H0.below h1).size
  have htr : w.ownsRow w0.heap.size 69 3 t C.length (flatC C) := Hold.sat h (rowCh t C) ht
  rcases htr.2 with ⟨rfl, hC⟩ | ⟨g, cap, cur, rfl, _⟩
  · have hC0 : C = [] := List.eq_nil_of_length_eq_zero hC
    subst hC0
    exact ⟨_, w, run_append_owned_none w w0.heap.size 54 54 69 i0 3 Tryz.underlying54 hi _ _ _ hv, h1⟩
  · obtain ⟨v', w', hr, ho, hg, _, ha⟩ := run_append_own_at (P := Tryz.prog) w w0.heap.size 54 54 69 i0 _ 3 40 Tryz.underlying54 hi hz0 hz1 hz2 rfl (by decide) _ _ _ hv ⟨g, 0, none⟩ C.length cap (flatC C) htr.1 (fun j u hj => by
      rw [Addr.add_lit, Nat.zero_add, htr.cellAt j (by have := (List.getElem?_eq_some_iff.1 hj).1; rw [htr.1] at this; exact this)]
      exact hj) (flatC_one C) (by unfold maxLen; omega) (by omega) hb
    refine ⟨v', w', hr, ?_⟩
    have ho2 : w'.ownsRow w0.heap.size 69 3 v' C.length (flatC C) := by
      rw [Nat.zero_add] at ho
      exact ho
    exact Hold.grow [] h1 hg ho2 (ha.imp id fun h => ⟨_, h, Nat.le_refl _⟩)
theorem toL_same {a b : ByteArray} : a.toList = b.toList ↔ a = b := ⟨fun h => by
  rw [Lib.toList_data, Lib.toList_data] at h
  exact ByteArray.ext (by simpa using h), fun h => by rw [h]⟩
set_option maxHeartbeats 8000000 in
theorem applied_any (h : H0 w0 w l2) {va vb : Value} {X : List CH} {C : CH} (hX : rowCh va X ∈ l2) (hC : rowCh vb [C] ∈ l2) (hl : X.length ≤ 900) :
    Calls Tryz.prog 38 #[va, vb] w fun e w' => ∃ v' Y, e = .returned v' ∧ H0 w0 w' (rowCh v' Y :: l2) ∧ (∀ y ∈ Y, y = C ∨ y ∈ X) ∧ Y.length ≤ X.length + 1 := by
  obtain ⟨v1, w1, hap, hH⟩ := H0.copyC h hX (by omega)
  obtain ⟨pa, ca, rfl⟩ := row_cut (Hold.sat h (rowCh va X) hX)
  have hrb : w.ownsRow w0.heap.size 69 3 vb 1 (flatC [C]) := Hold.sat h (rowCh vb [C]) hC
  obtain ⟨gb, cb, rfl, _⟩ := row_shape hrb (by omega)
  obtain ⟨na, hna⟩ : ∃ na, X.length = na := ⟨_, rfl⟩
  have Hna := hide hna
  have HCm := hide hC
  have HH : Hid (∃ L : List CH, H0 w0 w1 (rowCh v1 L :: l2) ∧ (∀ y ∈ L, y = C ∨ y ∈ X) ∧ L.length ≤ na + 0) := ⟨X, hH, fun y hy => .inr hy, by omega⟩
  rw [hna] at hap hl ⊢
  have HQ : Hid (∀ wx r, H0 w0 wx (r :: l2) → wx.cell? ⟨gb, 0, none⟩ = some (.string C.key) ∧ wx.cell? ⟨gb, 0 + 1, none⟩ = some (.string C.val) ∧ wx.cell? ⟨gb, 0 + 2, none⟩ = some (.bool C.gone)) := fun wx r hx => by
    have h1 : wx.ownsRow w0.heap.size 69 3 (.slice (some ⟨gb, 0, none⟩) 1 cb) 1 (flatC [C]) := Hold.sat hx (rowCh _ [C]) (.tail _ (unhide HCm))
    have := ch_cell h1 (j := 0) (u := C) rfl
    simpa using this
  clear h hX hC hH hna hrb
  go_enter Tryz.func38, Tryz.ntmps38
  go_wp2_with (at_builtin; refine wpList_appendI rfl _ _ 54 54 rfl (.slice none 0 0) (.slice pa na ca) rfl rfl hap ?_)
  clear hap
  go_loopg [5, 6] (1 + 1) (fun g v0 vi wr => ∃ (i : Nat) (u0 : Value), 1 - i < g ∧ i ≤ 1 ∧ vi = .int .i64 i ∧ u0 = v0 ∧ Hid (∃ L : List CH, H0 w0 wr (rowCh u0 L :: l2) ∧ (∀ y ∈ L, y = C ∨ y ∈ X) ∧ L.length ≤ na + i))
  case atStart => exact ⟨0, _, by omega, by omega, rfl, rfl, HH⟩
  case round =>
    obtain ⟨i, u0, hg, hi, rfl, rfl, HHi⟩ := hrel
    clear HH
    by_cases hin : i < 1
    · obtain rfl : i = 0 := by omega
      obtain ⟨L, hHL, hLm, hLl⟩ := unhide HHi
      obtain ⟨q0, q1, q2⟩ := unhide HQ _ _ hHL
      obtain ⟨n, hn⟩ : ∃ n, L.length = n := ⟨_, rfl⟩
      rw [hn] at hLl
      obtain ⟨po, co, hvo⟩ := row_cut (Hold.sat hHL (rowCh u0 L) (.head _))
      rw [hn] at hvo
      subst hvo
      have Hn := hide hn
      have HLm := hide hLm
      have HX0 : Hid (H0 w0 wr (rowCh (.slice none 0 0) ([] : List CH) :: rowCh (.slice po n co) L :: l2)) := Hold.nilRow hHL 69 3
      have HQ2 : Hid (∀ wx r s, H0 w0 wx (r :: s :: l2) → wx.cell? ⟨gb, 0, none⟩ = some (.string C.key) ∧ wx.cell? ⟨gb, 0 + 1, none⟩ = some (.string C.val) ∧ wx.cell? ⟨gb, 0 + 2, none⟩ = some (.bool C.gone)) := fun wx r s hx => unhide HQ wx s (Hold.forget [] hx)
      clear hHL hLm hn HHi HQ
      obtain ⟨key, val, gone⟩ := C
      simp only at q0 q1 q2
      go_wp2_with fail
      clear q0 q1 q2
      go_loopg [7, 8, 9] (n + 1) (fun g v7 v8 v9 wx => ∃ (k : Nat) (next : List CH) (laid : Bool) (u7 : Value), n - k < g ∧ k ≤ n ∧ u7 = v7 ∧ v8 = .bool laid ∧ v9 = .int .i64 k ∧ next.length ≤ k + 1 ∧ (laid = false → next.length ≤ k) ∧ Hid (∀ y ∈ next, y = (⟨key, val, gone⟩ : CH) ∨ y ∈ X) ∧ Hid (H0 w0 wx (rowCh u7 next :: rowCh (.slice po n co) L :: l2)))
      case atStart => exact ⟨0, [], gone, _, by omega, by omega, rfl, rfl, rfl, by simp, by simp, hide (by simp), HX0⟩
      case round =>
        obtain ⟨k, next, laid, u7, hg2, hk, rfl, rfl, rfl, hnl, hnl2, HI, HX⟩ := hrel
        clear HX0
        by_cases hkn : k < n
        · have hkz : (k : Int) < (n : Int) := by omega
          obtain ⟨x, hx⟩ : ∃ x, L[k]? = some x := ⟨_, List.getElem?_eq_getElem (by rw [unhide Hn]; exact hkn)⟩
          have hxX := unhide HLm x (List.mem_of_getElem? hx)
          have h5 : wr.ownsRow w0.heap.size 69 3 (.slice po n co) n (flatC L) := by
            have := Hold.sat (unhide HX) (rowCh (.slice po n co) L) (.tail _ (.head _))
            unfold rowCh at this
            rw [unhide Hn] at this
            exact this
          obtain ⟨g, cap, h6, _⟩ := row_shape h5 (by omega)
          injection h6 with h6 _ h7
          subst h6 h7
          have hc3 : ∀ wx r, H0 w0 wx (r :: rowCh (.slice (some ⟨g, 0, none⟩) n co) L :: l2) → wx.cell? ⟨g, k * 3, none⟩ = some (.string x.key) ∧ wx.cell? ⟨g, k * 3 + 1, none⟩ = some (.string x.val) ∧ wx.cell? ⟨g, k * 3 + 2, none⟩ = some (.bool x.gone) := fun wx r hh => by
            have h5 : wx.ownsRow w0.heap.size 69 3 (.slice (some ⟨g, 0, none⟩) n co) n (flatC L) := by
              have := Hold.sat hh (rowCh (.slice (some ⟨g, 0, none⟩) n co) L) (.tail _ (.head _))
              unfold rowCh at this
              rw [unhide Hn] at this
              exact this
            exact ch_cell h5 hx
          obtain ⟨a0, a1, a2⟩ := hc3 _ _ (unhide HX)
          obtain ⟨b0, b1, b2⟩ := unhide HQ2 _ _ _ (unhide HX)
          have HC3 := hide hc3
          obtain ⟨p7, c7, hv7⟩ := row_cut (Hold.sat (unhide HX) (rowCh u7 next) (.head _))
          obtain ⟨m7, hm7⟩ : ∃ m7, next.length = m7 := ⟨_, rfl⟩
          rw [hm7] at hv7 hnl hnl2
          subst hv7
          have Hm7 := hide hm7
          have HAdd : Hid (∀ wx v7 nx (z : CH), H0 w0 wx (rowCh v7 nx :: rowCh (.slice (some ⟨g, 0, none⟩) n co) L :: l2) → nx.length ≤ 1000 → ∃ v' w', (Builtin.append_ #[54, 54] 54 #[v7, .slice (some ⟨wx.heap.size, 0, none⟩) 1 1]).run Tryz.prog (wx.alloc (.cells #[.string z.key, .string z.val, .bool z.gone] 69)) = .ok v' w' ∧ H0 w0 w' (rowCh v' (nx ++ [z]) :: rowCh (.slice (some ⟨g, 0, none⟩) n co) L :: l2)) := fun wx v7 nx z hh hl => H0.appC hh z hl
          have HxX : Hid (∀ y ∈ next ++ [x], y = (⟨key, val, gone⟩ : CH) ∨ y ∈ X) := fun y hy => by
            rcases List.mem_append.1 hy with hy | hy
            · exact unhide HI y hy
            · rw [List.mem_singleton.1 hy]; exact hxX
          have HcX : Hid (∀ y ∈ next ++ [(⟨key, val, gone⟩ : CH)], y = (⟨key, val, gone⟩ : CH) ∨ y ∈ X) := fun y hy => by
            rcases List.mem_append.1 hy with hy | hy
            · exact unhide HI y hy
            · rw [List.mem_singleton.1 hy]; exact .inl rfl
          have HcxX : Hid (∀ y ∈ next ++ [(⟨key, val, gone⟩ : CH)] ++ [x], y = (⟨key, val, gone⟩ : CH) ∨ y ∈ X) := fun y hy => by
            rcases List.mem_append.1 hy with hy | hy
            · exact unhide HcX y hy
            · rw [List.mem_singleton.1 hy]; exact hxX
          obtain ⟨xk, xv, xg⟩ := x
          simp only at a0 a1 a2 b0 b1 b2
          have HL2 := hide hnl2
          clear hc3 hx hm7 h5 hxX hnl2
          cases laid with
          | true =>
            by_cases hke : xk = key
            · subst hke
              have hbe : (xk.toList == xk.toList) = true := by simp
              go_wp2_with fail
              go_quiet (fail)
              go_wp2_with fail
              go_quiet (fail)
              go_wp2_with fail
              go_roundg (n - k)
              case measure => omega
              case rel => exact ⟨k + 1, next, true, _, by omega, by omega, rfl, rfl, by simp, by have := unhide Hm7; omega, fun h => (by cases h), HI, Hold.drewN (unhide HX) _⟩
            · have hbe : (xk.toList == key.toList) = false := by rw [beq_eq_false_iff_ne, Ne, toL_same]; exact hke
              clear hke
              go_wp2_with fail
              go_quiet (fail)
              go_wp2_with fail
              generalize hwq : wr.drewN _ = wp
              have Hwp : Hid (H0 w0 wp (rowCh (.slice p7 m7 c7) next :: rowCh (.slice (some ⟨g, 0, none⟩) n co) L :: l2)) := by rw [← hwq]; exact Hold.drewN (unhide HX) _
              clear hwq
              obtain ⟨a0, a1, a2⟩ := unhide HC3 _ _ (unhide Hwp)
              obtain ⟨b0, b1, b2⟩ := unhide HQ2 _ _ _ (unhide Hwp)
              go_quiet (fail)
              generalize hwq : wp.drewN _ = wq
              have Hwq : Hid (H0 w0 wq (rowCh (.slice p7 m7 c7) next :: rowCh (.slice (some ⟨g, 0, none⟩) n co) L :: l2)) := by rw [← hwq]; exact Hold.drewN (unhide Hwp) _
              clear hwq
              obtain ⟨a0, a1, a2⟩ := unhide HC3 _ _ (unhide Hwq)
              obtain ⟨b0, b1, b2⟩ := unhide HQ2 _ _ _ (unhide Hwq)
              obtain ⟨v8, w8, hrw8, hw8⟩ := unhide HAdd wq _ _ ⟨xk, xv, xg⟩ (unhide Hwq) (by have := unhide Hm7; omega)
              have Hw8 := hide hw8
              clear hw8
              go_wp2_with (at_builtin; refine wpList_appendI rfl _ _ 54 54 rfl (.slice p7 m7 c7) (.slice (some ⟨wq.heap.size, 0, none⟩) 1 1) rfl rfl hrw8 ?_)
              clear hrw8
              go_roundg (n - k)
              case measure => omega
              case rel => exact ⟨k + 1, next ++ [(⟨xk, xv, xg⟩ : CH)], true, _, by omega, by omega, rfl, rfl, by simp, by have := unhide Hm7; simp; omega, fun h => (by cases h), HxX, Hw8⟩
          | false =>
            have hnl3 := unhide HL2 rfl
            rcases kLt_tri xk key with hkl | hke | hkh
            · have hbe : (xk.toList == key.toList) = false := by rw [beq_eq_false_iff_ne, Ne, toL_same]; exact fun h => kLt_irrefl _ (h ▸ hkl)
              have hbe2 : (key.toList == xk.toList) = false := by rw [beq_eq_false_iff_ne, Ne, toL_same]; exact fun h => kLt_irrefl _ (h ▸ hkl)
              have hl1 : Op.bytesLess xk.toList key.toList = true := by rw [less_kLt]; simp [hkl]
              have hl2 : Op.bytesLess key.toList xk.toList = false := by rw [less_kLt]; simp [kLt_asymm hkl]
              clear hkl
              go_wp2_with fail
              go_quiet (fail)
              go_wp2_with fail
              generalize hwq : wr.drewN _ = wp
              have Hwp : Hid (H0 w0 wp (rowCh (.slice p7 m7 c7) next :: rowCh (.slice (some ⟨g, 0, none⟩) n co) L :: l2)) := by rw [← hwq]; exact Hold.drewN (unhide HX) _
              clear hwq
              obtain ⟨a0, a1, a2⟩ := unhide HC3 _ _ (unhide Hwp)
              obtain ⟨b0, b1, b2⟩ := unhide HQ2 _ _ _ (unhide Hwp)
              go_quiet (fail)
              generalize hwq : wp.drewN _ = wq
              have Hwq : Hid (H0 w0 wq (rowCh (.slice p7 m7 c7) next :: rowCh (.slice (some ⟨g, 0, none⟩) n co) L :: l2)) := by rw [← hwq]; exact Hold.drewN (unhide Hwp) _
              clear hwq
              obtain ⟨a0, a1, a2⟩ := unhide HC3 _ _ (unhide Hwq)
              obtain ⟨b0, b1, b2⟩ := unhide HQ2 _ _ _ (unhide Hwq)
              obtain ⟨v8, w8, hrw8, hw8⟩ := unhide HAdd wq _ _ ⟨xk, xv, xg⟩ (unhide Hwq) (by have := unhide Hm7; omega)
              have Hw8 := hide hw8
              clear hw8
              go_wp2_with (at_builtin; refine wpList_appendI rfl _ _ 54 54 rfl (.slice p7 m7 c7) (.slice (some ⟨wq.heap.size, 0, none⟩) 1 1) rfl rfl hrw8 ?_)
              clear hrw8
              go_roundg (n - k)
              case measure => omega
              case rel => exact ⟨k + 1, next ++ [(⟨xk, xv, xg⟩ : CH)], false, _, by omega, by omega, rfl, rfl, by simp, by have := unhide Hm7; simp; omega, fun _ => by have := unhide Hm7; simp; omega, HxX, Hw8⟩
            · subst hke
              have hbe : (xk.toList == xk.toList) = true := by simp
              have hl1 : Op.bytesLess xk.toList xk.toList = false := by rw [less_kLt]; simp [kLt_irrefl]
              go_wp2_with fail
              go_quiet (fail)
              generalize hwq : wr.drewN _ = wq
              have Hwq : Hid (H0 w0 wq (rowCh (.slice p7 m7 c7) next :: rowCh (.slice (some ⟨g, 0, none⟩) n co) L :: l2)) := by rw [← hwq]; exact Hold.drewN (unhide HX) _
              clear hwq
              obtain ⟨a0, a1, a2⟩ := unhide HC3 _ _ (unhide Hwq)
              obtain ⟨b0, b1, b2⟩ := unhide HQ2 _ _ _ (unhide Hwq)
              obtain ⟨v8, w8, hrw8, hw8⟩ := unhide HAdd wq _ _ ⟨xk, val, gone⟩ (unhide Hwq) (by have := unhide Hm7; omega)
              have Hw8 := hide hw8
              clear hw8
              go_wp2_with (at_builtin; refine wpList_appendI rfl _ _ 54 54 rfl (.slice p7 m7 c7) (.slice (some ⟨wq.heap.size, 0, none⟩) 1 1) rfl rfl hrw8 ?_)
              clear hrw8
              obtain ⟨e0, e1, e2⟩ := unhide HC3 _ _ (unhide Hw8)
              obtain ⟨d0, d1, d2⟩ := unhide HQ2 _ _ _ (unhide Hw8)
              go_wp2_with fail
              go_quiet (fail)
              go_wp2_with fail
              go_roundg (n - k)
              case measure => omega
              case rel => exact ⟨k + 1, next ++ [(⟨xk, val, gone⟩ : CH)], true, _, by omega, by omega, rfl, rfl, by simp, by have := unhide Hm7; simp; omega, fun h => (by cases h), HcX, Hold.drewN (unhide Hw8) _⟩
            · have hbe : (xk.toList == key.toList) = false := by rw [beq_eq_false_iff_ne, Ne, toL_same]; exact fun h => kLt_irrefl _ (h ▸ hkh)
              have hbe2 : (key.toList == xk.toList) = false := by rw [beq_eq_false_iff_ne, Ne, toL_same]; exact fun h => kLt_irrefl _ (h ▸ hkh)
              have hl1 : Op.bytesLess xk.toList key.toList = false := by rw [less_kLt]; simp [kLt_asymm hkh]
              have hl2 : Op.bytesLess key.toList xk.toList = true := by rw [less_kLt]; simp [hkh]
              clear hkh
              go_wp2_with fail
              go_quiet (fail)
              generalize hwq : wr.drewN _ = wq
              have Hwq : Hid (H0 w0 wq (rowCh (.slice p7 m7 c7) next :: rowCh (.slice (some ⟨g, 0, none⟩) n co) L :: l2)) := by rw [← hwq]; exact Hold.drewN (unhide HX) _
              clear hwq
              obtain ⟨a0, a1, a2⟩ := unhide HC3 _ _ (unhide Hwq)
              obtain ⟨b0, b1, b2⟩ := unhide HQ2 _ _ _ (unhide Hwq)
              obtain ⟨v8, w8, hrw8, hw8⟩ := unhide HAdd wq _ _ ⟨key, val, gone⟩ (unhide Hwq) (by have := unhide Hm7; omega)
              have Hw8 := hide hw8
              clear hw8
              go_wp2_with (at_builtin; refine wpList_appendI rfl _ _ 54 54 rfl (.slice p7 m7 c7) (.slice (some ⟨wq.heap.size, 0, none⟩) 1 1) rfl rfl hrw8 ?_)
              clear hrw8
              obtain ⟨e0, e1, e2⟩ := unhide HC3 _ _ (unhide Hw8)
              obtain ⟨d0, d1, d2⟩ := unhide HQ2 _ _ _ (unhide Hw8)
              obtain ⟨p8, c8, hv8⟩ := row_cut (Hold.sat (unhide Hw8) (rowCh v8 (next ++ [(⟨key, val, gone⟩ : CH)])) (.head _))
              obtain ⟨m8, hm8⟩ : ∃ m8, (next ++ [(⟨key, val, gone⟩ : CH)]).length = m8 := ⟨_, rfl⟩
              rw [hm8] at hv8
              subst hv8
              have Hm8 := hide hm8
              clear hm8
              go_wp2_with fail
              go_quiet (fail)
              generalize hwq : w8.drewN _ = wz
              have Hwz : Hid (H0 w0 wz (rowCh (.slice p8 m8 c8) (next ++ [(⟨key, val, gone⟩ : CH)]) :: rowCh (.slice (some ⟨g, 0, none⟩) n co) L :: l2)) := by rw [← hwq]; exact Hold.drewN (unhide Hw8) _
              clear hwq
              obtain ⟨a0, a1, a2⟩ := unhide HC3 _ _ (unhide Hwz)
              obtain ⟨b0, b1, b2⟩ := unhide HQ2 _ _ _ (unhide Hwz)
              obtain ⟨v9, w9, hrw9, hw9⟩ := unhide HAdd wz _ _ ⟨xk, xv, xg⟩ (unhide Hwz) (by have := unhide Hm8; simp at this; have := unhide Hm7; simp; omega)
              have Hw9 := hide hw9
              clear hw9
              go_wp2_with (at_builtin; refine wpList_appendI rfl _ _ 54 54 rfl (.slice p8 m8 c8) (.slice (some ⟨wz.heap.size, 0, none⟩) 1 1) rfl rfl hrw9 ?_)
              go_roundg (n - k)
              case measure => omega
              case rel => exact ⟨k + 1, next ++ [(⟨key, val, gone⟩ : CH)] ++ [(⟨xk, xv, xg⟩ : CH)], true, _, by omega, by omega, rfl, rfl, by simp, by have := unhide Hm7; simp; omega, fun h => (by cases h), HcxX, Hw9⟩
        · have hkz : ¬ (k : Int) < (n : Int) := by omega
          obtain ⟨p7, c7, hv7⟩ := row_cut (Hold.sat (unhide HX) (rowCh u7 next) (.head _))
          subst hv7
          cases laid with
          | true =>
            obtain ⟨m7, hm7⟩ : ∃ m7, next.length = m7 := ⟨_, rfl⟩
            have HE : Hid (∃ L : List CH, H0 w0 wr (rowCh (.slice p7 next.length c7) L :: l2) ∧ (∀ y ∈ L, y = (⟨key, val, gone⟩ : CH) ∨ y ∈ X) ∧ L.length ≤ na + (0 + 1)) := ⟨next, Hold.forget [_] (unhide HX), unhide HI, by omega⟩
            rw [hm7] at HE ⊢
            clear hm7 hnl hnl2
            go_wp2_with fail
            go_roundg (1 - 0)
            case measure => omega
            case rel => exact ⟨0 + 1, _, by omega, by omega, by simp, rfl, HE⟩
          | false =>
            have hnl3 := hnl2 rfl
            obtain ⟨b0, b1, b2⟩ := unhide HQ2 _ _ _ (unhide HX)
            obtain ⟨v8, w8, hrw8, hw8⟩ := H0.appC (unhide HX) ⟨key, val, gone⟩ (by omega)
            have HE : Hid (∃ L : List CH, H0 w0 w8 (rowCh v8 L :: l2) ∧ (∀ y ∈ L, y = (⟨key, val, gone⟩ : CH) ∨ y ∈ X) ∧ L.length ≤ na + (0 + 1)) := ⟨_, Hold.forget [_] hw8, fun y hy => by
              rcases List.mem_append.1 hy with hy | hy
              · exact unhide HI y hy
              · rw [List.mem_singleton.1 hy]; exact .inl rfl, by simp; omega⟩
            obtain ⟨m7, hm7⟩ : ∃ m7, next.length = m7 := ⟨_, rfl⟩
            simp only at b0 b1 b2 hrw8
            rw [hm7] at hrw8 ⊢
            clear hw8 hm7 hnl hnl2 hnl3
            go_wp2_with (at_builtin; refine wpList_appendI rfl _ _ 54 54 rfl (.slice p7 m7 c7) (.slice (some ⟨wr.heap.size, 0, none⟩) 1 1) rfl rfl hrw8 ?_)
            go_roundg (1 - 0)
            case measure => omega
            case rel => exact ⟨0 + 1, _, by omega, by omega, by simp, rfl, HE⟩
    · obtain rfl : i = 1 := by omega
      obtain ⟨L, hHL, hLm, hLl⟩ := unhide HHi
      have HE := hide (show ∃ L : List CH, H0 w0 wr (rowCh u0 L :: l2) ∧ (∀ y ∈ L, y = C ∨ y ∈ X) ∧ L.length ≤ na + 1 from ⟨L, hHL, hLm, hLl⟩)
      clear hHL hLm hLl HHi
      go_wp2_with fail
      go_ret
      obtain ⟨Y, h1, h2, h3⟩ := unhide HE
      exact ⟨_, Y, rfl, h1, h2, h3⟩
theorem light_any (h : H0 w0 w l2) {v : Value} {c : CH} (hv : rowCh v [c] ∈ l2) :
    Calls Tryz.prog 37 #[v, .int .i64 1] w fun e w' => ∃ r : Bool, e = .returned (.bool r) ∧ (r = true → c.key.size ≤ 60 ∧ c.val.size ≤ 60) ∧ Below w.heap.size w w' := by
  have hr : w.ownsRow w0.heap.size 69 3 v 1 (flatC [c]) := Hold.sat h (rowCh v [c]) hv
  obtain ⟨g, cap, rfl, _⟩ := row_shape hr (by omega)
  obtain ⟨c0, c1, _⟩ := ch_cell hr (j := 0) (u := c) rfl
  obtain ⟨ck, cv, cg⟩ := c
  simp only [Nat.zero_mul, Nat.zero_add] at c0 c1
  obtain ⟨sk, hsk⟩ : ∃ sk, ck.size = sk := ⟨_, rfl⟩
  obtain ⟨sv, hsv⟩ : ∃ sv, cv.size = sv := ⟨_, rfl⟩
  have HS := hide (show ck.size = sk ∧ cv.size = sv from ⟨hsk, hsv⟩)
  clear h hv hr
  by_cases h1 : sk ≤ 60
  · by_cases h2 : sv ≤ 60
    · have z1 : ¬ (60 : Int) < (sk : Int) := by omega
      have z2 : ¬ (60 : Int) < (sv : Int) := by omega
      have z3 : ¬ 60 < sk := by omega
      have z4 : ¬ 60 < sv := by omega
      have HZ := hide (show sk ≤ 60 ∧ sv ≤ 60 from ⟨h1, h2⟩)
      clear h1 h2
      go_enter Tryz.func37, Tryz.ntmps37
      go_wp2_with fail
      go_loopg [5] (1 + 1) (fun g vi wr => ∃ i : Nat, 1 - i < g ∧ i ≤ 1 ∧ vi = .int .i64 i ∧ wr = w)
      case atStart => exact ⟨0, by omega, by omega, rfl, rfl⟩
      case round =>
        obtain ⟨i, hg, hi, rfl, rfl⟩ := hrel
        by_cases hin : i < 1
        · obtain rfl : i = 0 := by omega
          go_wp2_with fail
          go_roundg (1 - 0)
          case measure => omega
          case rel => exact ⟨0 + 1, by omega, by omega, by simp, rfl⟩
        · obtain rfl : i = 1 := by omega
          go_wp2_with fail
          go_ret
          exact ⟨true, rfl, fun _ => by rw [(unhide HS).1, (unhide HS).2]; exact unhide HZ, Below.refl _ _⟩
    · have z1 : ¬ (60 : Int) < (sk : Int) := by omega
      have z2 : (60 : Int) < (sv : Int) := by omega
      have z3 : ¬ 60 < sk := by omega
      have z4 : 60 < sv := by omega
      clear h1 h2
      go_enter Tryz.func37, Tryz.ntmps37
      go_wp2_with fail
      go_loopg [5] (1 + 1) (fun g vi wr => vi = .int .i64 0 ∧ wr = w)
      case atStart => exact ⟨rfl, rfl⟩
      case round =>
        obtain ⟨rfl, rfl⟩ := hrel
        go_wp2_with fail
        go_ret
        exact ⟨false, rfl, fun h => (by cases h), Below.refl _ _⟩
  · have z1 : (60 : Int) < (sk : Int) := by omega
    have z3 : 60 < sk := by omega
    clear h1
    go_enter Tryz.func37, Tryz.ntmps37
    go_wp2_with fail
    go_loopg [5] (1 + 1) (fun g vi wr => vi = .int .i64 0 ∧ wr = w)
    case atStart => exact ⟨rfl, rfl⟩
    case round =>
      obtain ⟨rfl, rfl⟩ := hrel
      go_wp2_with fail
      go_ret
      exact ⟨false, rfl, fun h => (by cases h), Below.refl _ _⟩
end Go.Proofs.YtjpmomklkkifjaaGreatDoor.T.J
