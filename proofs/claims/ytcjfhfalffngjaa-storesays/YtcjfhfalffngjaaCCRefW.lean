/-
  The contract of the document's Applied, over the seat's program.
-/
import Derived.Test.YtcjfhfalffngjaaCRowB
namespace Go.Proofs.Ytcjfhfalffngjaa
open Go.RowKit Go.Lib
set_option maxRecDepth 100000
set_option linter.unusedVariables false
set_option linter.unusedSimpArgs false

set_option maxHeartbeats 8000000 in
theorem applied_calls (va : Value) (na : Nat) (fa : Nat → ChD) (vb : Value) (nb : Nat) (fb : Nat → ChD) (w : World) (ha : ChOk w va na fa) (hb : ChOk w vb nb fb) (hsa : Shaped va) (hsb : Shaped vb) (hs : Sorted (listOf na fa)) (hna : na ≤ 75) (hnb : nb ≤ 20) :
    Calls Try.prog 37 #[va, vb] w fun e w' => ∃ v', e = .returned v' ∧ Hold w w' [rowI v' (applyP (listOf na fa) (listOf nb fb))] := by
  obtain ⟨pa, ca, v1, w1, hva, hap, hH⟩ := hold_copy va na fa w ha hsa (by omega)
  have HB := hide hb
  have HS := hide hs
  obtain ⟨pb, cb, hvb⟩ := hb.slice
  subst hva hvb
  have HH : Hid (Hold w w1 [rowI v1 (applyP (listOf na fa) ((listOf nb fb).take 0))]) := hH
  clear ha hb hsa hsb hs hH
  go_enter Try.func37, Try.ntmps37
  go_wp2_with (at_builtin; refine wpList_appendI rfl _ _ 36 36 rfl (.slice none 0 0) (.slice pa na ca) rfl rfl hap ?_)
  clear hap
  go_loopg [5, 6] (nb + 1) (fun g v0 vi wr => ∃ (i : Nat), nb - i < g ∧ i ≤ nb ∧ vi = .int .i64 i ∧ Hid (Hold w wr [rowI v0 (applyP (listOf na fa) ((listOf nb fb).take i))]) ∧ (applyP (listOf na fa) ((listOf nb fb).take i)).length ≤ na + i)
  case atStart => exact ⟨0, by omega, by omega, rfl, HH, by show (listOf na fa).length ≤ na + 0; rw [listOf_length]; omega⟩
  case round =>
    obtain ⟨i, hg, hi, rfl, HHi, hlen⟩ := hrel
    by_cases hin : i < nb
    · have hiz : (i : Int) < (nb : Int) := by omega
      rcases unhide HB with ⟨_, h0⟩ | ⟨b, off, c, hv, hn63, hbb, hcells⟩
      · omega
      injection hv with hp _ hcc
      subst hp hcc
      obtain ⟨p0, p1, p2⟩ := hcells i hin
      have hnext := listOf_take (f := fb) hin
      have hsort := applyP_sorted (unhide HS) ((listOf nb fb).take i)
      obtain ⟨L, hL⟩ : ∃ L, applyP (listOf na fa) ((listOf nb fb).take i) = L := ⟨_, rfl⟩
      have hnx : applyP (listOf na fa) ((listOf nb fb).take (i + 1)) = applyOne L (fb i) := by rw [hnext, applyP_snoc, hL]
      rw [hL] at hlen hsort
      rw [hL] at HHi
      obtain ⟨C, hc⟩ : ∃ c, fb i = c := ⟨_, rfl⟩
      rw [hc] at p0 p1 p2 hnx
      have hq : ∀ wx, Below w.heap.size w wx → wx.cell? ⟨b, off + i * 3, none⟩ = some (.string C.key) ∧ wx.cell? ⟨b, off + i * 3 + 1, none⟩ = some (.string C.val) ∧ wx.cell? ⟨b, off + i * 3 + 2, none⟩ = some (.bool C.gone) := fun wx hx => ⟨(cell_below hx (p := ⟨b, off + i * 3, none⟩) hbb).trans p0, (cell_below hx (p := ⟨b, off + i * 3 + 1, none⟩) hbb).trans p1, (cell_below hx (p := ⟨b, off + i * 3 + 2, none⟩) hbb).trans p2⟩
      obtain ⟨q0, q1, q2⟩ := hq _ (unhide HHi).below
      have HQ := hide hq
      have Hs := hide hsort
      have Hnx := hide hnx
      obtain ⟨n, hn⟩ : ∃ n, L.length = n := ⟨_, rfl⟩
      rw [hn] at hlen
      obtain ⟨po, co, hvo, _⟩ := row_slice ((unhide HHi).rowAt (.head _))
      rw [hn] at hvo
      subst hvo
      have Hn := hide hn
      have HX0 : Hid (Hold w wr [rowI (.slice none 0 0) ([] : List ChD), rowI (.slice po n co) L]) := (unhide HHi).nilRow 54 3
      clear hsort hnx hnext hL p0 p1 p2 hcells hc HHi hq hn
      obtain ⟨key, val, gone⟩ := C
      simp only at q0 q1 q2
      go_wp2_with fail
      clear q0 q1 q2
      go_loopg [7, 8, 9] (n + 1) (fun g v7 v8 v9 wx => ∃ (k : Nat) (next : List ChD) (laid : Bool), n - k < g ∧ k ≤ n ∧ v8 = .bool laid ∧ v9 = .int .i64 k ∧ next.length ≤ k + 1 ∧ Hid (AInv ⟨key, val, gone⟩ (L.take k) next laid) ∧ Hid (Hold w wx [rowI v7 next, rowI (.slice po n co) L]))
      case atStart => exact ⟨0, [], gone, by omega, by omega, rfl, rfl, by simp, ainv_start ⟨key, val, gone⟩, HX0⟩
      case round =>
        obtain ⟨k, next, laid, hg2, hk, rfl, rfl, hnl, HI, HX⟩ := hrel
        by_cases hkn : k < n
        · have hkz : (k : Int) < (n : Int) := by omega
          obtain ⟨x, hx⟩ : ∃ x, L[k]? = some x := ⟨_, List.getElem?_eq_getElem (by rw [unhide Hn]; exact hkn)⟩
          have hrow : ∀ wx v7 nx, Hold w wx [rowI v7 nx, rowI (.slice po n co) L] → ∃ g, po = some ⟨g, 0, none⟩ := fun wx v7 nx hh => by
            have h5 := hh.rowAt (.tail _ (.head _))
            obtain ⟨g, cap, h6, _⟩ := row_shape h5 (by rw [unhide Hn]; omega)
            injection h6 with h6 _ _
            exact ⟨g, h6⟩
          obtain ⟨g, hpo⟩ := hrow _ _ _ (unhide HX)
          subst hpo
          have hc3 : ∀ wx v7 nx, Hold w wx [rowI v7 nx, rowI (.slice (some ⟨g, 0, none⟩) n co) L] → wx.cell? ⟨g, k * 3, none⟩ = some (.string x.key) ∧ wx.cell? ⟨g, k * 3 + 1, none⟩ = some (.string x.val) ∧ wx.cell? ⟨g, k * 3 + 2, none⟩ = some (.bool x.gone) := fun wx v7 nx hh => by
            have hm : Res.row (.slice (some ⟨g, 0, none⟩) n co) 54 3 n (flat L) ∈ [rowI v7 nx, Res.row (.slice (some ⟨g, 0, none⟩) n co) 54 3 n (flat L)] := .tail _ (.head _)
            have hh' : Hold w wx [rowI v7 nx, Res.row (.slice (some ⟨g, 0, none⟩) n co) 54 3 n (flat L)] := by have := hh; unfold rowI at this ⊢; rw [unhide Hn] at this; exact this
            obtain ⟨hkl, hxe⟩ := List.getElem?_eq_some_iff.1 hx
            have hgt := flat_get L k hkl
            rw [hxe] at hgt
            exact ⟨hh'.rowCell hm hgt.1, hh'.rowCell hm hgt.2.1, hh'.rowCell hm hgt.2.2⟩
          have hltx : ∀ y ∈ L.take k, kLt y.key x.key := fun y hy => by
            obtain ⟨t, ht, rfl⟩ := List.mem_iff_getElem.1 hy
            rw [List.length_take] at ht
            obtain ⟨hkl, hxe⟩ := List.getElem?_eq_some_iff.1 hx
            rw [List.getElem_take, ← hxe]
            exact List.pairwise_iff_getElem.1 (unhide Hs) t k (by omega) hkl (by omega)
          have htk : L.take (k + 1) = L.take k ++ [x] := by rw [List.take_add_one, hx]; rfl
          obtain ⟨a0, a1, a2⟩ := hc3 _ _ _ (unhide HX)
          obtain ⟨b0, b1, b2⟩ := unhide HQ _ (unhide HX).below
          have HC3 := hide hc3
          have Htk := hide htk
          have Hltx := hide hltx
          obtain ⟨p7, c7, hv7, _⟩ := row_slice ((unhide HX).rowAt (.head _))
          obtain ⟨m7, hm7⟩ : ∃ m7, next.length = m7 := ⟨_, rfl⟩
          rw [hm7] at hv7 hnl
          subst hv7
          have Hm7 := hide hm7
          have HAdd : Hid (∀ wx v7 nx (z : ChD), Hold w wx [rowI v7 nx, rowI (.slice (some ⟨g, 0, none⟩) n co) L] → nx.length ≤ 1000 → ∃ v' w', (Builtin.append_ #[36, 36] 36 #[v7, .slice (some ⟨wx.heap.size, 0, none⟩) 1 1]).run Try.prog (wx.alloc (.cells #[.string z.key, .string z.val, .bool z.gone] 54)) = .ok v' w' ∧ Hold w w' [rowI v' (nx ++ [z]), rowI (.slice (some ⟨g, 0, none⟩) n co) L]) := fun wx v7 nx z hh hl => hold_add hh z hl
          obtain ⟨xk, xv, xg⟩ := x
          simp only at a0 a1 a2 hx hltx b0 b1 b2
          clear hrow hc3 hltx htk hx hm7
          cases laid with
          | true =>
            by_cases hke : xk = key
            · subst hke
              have hbe : (xk.toList == xk.toList) = true := by simp
              have HI2 := hide (ainv_same (x := ⟨xk, xv, xg⟩) (unhide Hltx) (unhide HI) rfl)
              go_wp2_with fail
              go_quiet (fail)
              go_wp2_with fail
              go_quiet (fail)
              go_wp2_with fail
              go_roundg (n - k)
              case measure => omega
              case rel => exact ⟨k + 1, next, true, by omega, by omega, rfl, by simp, by have := unhide Hm7; omega, by rw [unhide Htk]; exact HI2, (unhide HX).drewN _⟩
            · have hbe : (xk.toList == key.toList) = false := by rw [beq_eq_false_iff_ne, Ne, toList_same]; exact hke
              have HI2 := hide (ainv_keep (x := ⟨xk, xv, xg⟩) (unhide Hltx) (unhide HI) hke)
              go_wp2_with fail
              go_quiet (fail)
              go_wp2_with fail
              generalize hwq : wr.drewN _ = wp
              have Hwp : Hid (Hold w wp [rowI (.slice p7 m7 c7) next, rowI (.slice (some ⟨g, 0, none⟩) n co) L]) := by rw [← hwq]; exact (unhide HX).drewN _
              clear hwq
              obtain ⟨a0, a1, a2⟩ := unhide HC3 _ _ _ (unhide Hwp)
              obtain ⟨b0, b1, b2⟩ := unhide HQ _ (unhide Hwp).below
              go_quiet (fail)
              generalize hwq : wp.drewN _ = wq
              have Hwq : Hid (Hold w wq [rowI (.slice p7 m7 c7) next, rowI (.slice (some ⟨g, 0, none⟩) n co) L]) := by rw [← hwq]; exact (unhide Hwp).drewN _
              clear hwq
              obtain ⟨a0, a1, a2⟩ := unhide HC3 _ _ _ (unhide Hwq)
              obtain ⟨b0, b1, b2⟩ := unhide HQ _ (unhide Hwq).below
              obtain ⟨v8, w8, hrw8, hw8⟩ := unhide HAdd wq _ _ ⟨xk, xv, xg⟩ (unhide Hwq) (by have := unhide Hm7; simp; omega)
              have Hw8 := hide hw8
              clear hw8
              go_wp2_with (at_builtin; refine wpList_appendI rfl _ _ 36 36 rfl (.slice p7 m7 c7) (.slice (some ⟨wq.heap.size, 0, none⟩) 1 1) rfl rfl hrw8 ?_)
              clear hrw8
              go_roundg (n - k)
              case measure => omega
              case rel => exact ⟨k + 1, next ++ [(⟨xk, xv, xg⟩ : ChD)], true, by omega, by omega, rfl, by simp, by have := unhide Hm7; simp; omega, by rw [unhide Htk]; exact HI2, Hw8⟩
          | false =>
            rcases kLt_tri xk key with hkl | hke | hkh
            · have hbe : (xk.toList == key.toList) = false := by rw [beq_eq_false_iff_ne, Ne, toList_same]; exact kLt_ne hkl
              have hbe2 : (key.toList == xk.toList) = false := by rw [beq_eq_false_iff_ne, Ne, toList_same]; exact fun h => kLt_ne hkl h.symm
              have hl1 : Op.bytesLess xk.toList key.toList = true := by rw [less_kLt]; simp [hkl]
              have hl2 : Op.bytesLess key.toList xk.toList = false := by rw [less_kLt]; simp [kLt_asymm hkl]
              have HI2 := hide (ainv_low (x := ⟨xk, xv, xg⟩) (unhide HI) hkl)
              go_wp2_with fail
              go_quiet (fail)
              go_wp2_with fail
              generalize hwq : wr.drewN _ = wp
              have Hwp : Hid (Hold w wp [rowI (.slice p7 m7 c7) next, rowI (.slice (some ⟨g, 0, none⟩) n co) L]) := by rw [← hwq]; exact (unhide HX).drewN _
              clear hwq
              obtain ⟨a0, a1, a2⟩ := unhide HC3 _ _ _ (unhide Hwp)
              obtain ⟨b0, b1, b2⟩ := unhide HQ _ (unhide Hwp).below
              go_quiet (fail)
              generalize hwq : wp.drewN _ = wq
              have Hwq : Hid (Hold w wq [rowI (.slice p7 m7 c7) next, rowI (.slice (some ⟨g, 0, none⟩) n co) L]) := by rw [← hwq]; exact (unhide Hwp).drewN _
              clear hwq
              obtain ⟨a0, a1, a2⟩ := unhide HC3 _ _ _ (unhide Hwq)
              obtain ⟨b0, b1, b2⟩ := unhide HQ _ (unhide Hwq).below
              obtain ⟨v8, w8, hrw8, hw8⟩ := unhide HAdd wq _ _ ⟨xk, xv, xg⟩ (unhide Hwq) (by have := unhide Hm7; simp; omega)
              have Hw8 := hide hw8
              clear hw8
              go_wp2_with (at_builtin; refine wpList_appendI rfl _ _ 36 36 rfl (.slice p7 m7 c7) (.slice (some ⟨wq.heap.size, 0, none⟩) 1 1) rfl rfl hrw8 ?_)
              clear hrw8
              go_roundg (n - k)
              case measure => omega
              case rel => exact ⟨k + 1, next ++ [(⟨xk, xv, xg⟩ : ChD)], false, by omega, by omega, rfl, by simp, by have := unhide Hm7; simp; omega, by rw [unhide Htk]; exact HI2, Hw8⟩
            · subst hke
              have hbe : (xk.toList == xk.toList) = true := by simp
              have hl1 : Op.bytesLess xk.toList xk.toList = false := by rw [less_kLt]; simp [kLt_irrefl]
              have HI2 := hide (ainv_eq (x := ⟨xk, xv, xg⟩) (unhide HI) rfl)
              go_wp2_with fail
              go_quiet (fail)
              generalize hwq : wr.drewN _ = wq
              have Hwq : Hid (Hold w wq [rowI (.slice p7 m7 c7) next, rowI (.slice (some ⟨g, 0, none⟩) n co) L]) := by rw [← hwq]; exact (unhide HX).drewN _
              clear hwq
              obtain ⟨a0, a1, a2⟩ := unhide HC3 _ _ _ (unhide Hwq)
              obtain ⟨b0, b1, b2⟩ := unhide HQ _ (unhide Hwq).below
              obtain ⟨v8, w8, hrw8, hw8⟩ := unhide HAdd wq _ _ ⟨xk, val, gone⟩ (unhide Hwq) (by have := unhide Hm7; simp; omega)
              have Hw8 := hide hw8
              clear hw8
              go_wp2_with (at_builtin; refine wpList_appendI rfl _ _ 36 36 rfl (.slice p7 m7 c7) (.slice (some ⟨wq.heap.size, 0, none⟩) 1 1) rfl rfl hrw8 ?_)
              clear hrw8
              obtain ⟨e0, e1, e2⟩ := unhide HC3 _ _ _ (unhide Hw8)
              obtain ⟨d0, d1, d2⟩ := unhide HQ _ (unhide Hw8).below
              go_wp2_with fail
              go_quiet (fail)
              go_wp2_with fail
              go_roundg (n - k)
              case measure => omega
              case rel => exact ⟨k + 1, next ++ [(⟨xk, val, gone⟩ : ChD)], true, by omega, by omega, rfl, by simp, by have := unhide Hm7; simp; omega, by rw [unhide Htk]; exact HI2, (unhide Hw8).drewN _⟩
            · have hbe : (xk.toList == key.toList) = false := by rw [beq_eq_false_iff_ne, Ne, toList_same]; exact fun h => kLt_ne hkh h.symm
              have hbe2 : (key.toList == xk.toList) = false := by rw [beq_eq_false_iff_ne, Ne, toList_same]; exact kLt_ne hkh
              have hl1 : Op.bytesLess xk.toList key.toList = false := by rw [less_kLt]; simp [kLt_asymm hkh]
              have hl2 : Op.bytesLess key.toList xk.toList = true := by rw [less_kLt]; simp [hkh]
              have HI2 := hide (ainv_high (x := ⟨xk, xv, xg⟩) (unhide HI) hkh)
              have hnl2 : next.length ≤ k := by
                rcases unhide HI with ⟨_, h, _⟩ | ⟨_, _, h, _⟩ | ⟨_, h, _⟩
                · cases h
                · rw [h, List.length_take]; omega
                · cases h
              have Hnl2 := hide hnl2
              clear hnl2
              go_wp2_with fail
              go_quiet (fail)
              generalize hwq : wr.drewN _ = wq
              have Hwq : Hid (Hold w wq [rowI (.slice p7 m7 c7) next, rowI (.slice (some ⟨g, 0, none⟩) n co) L]) := by rw [← hwq]; exact (unhide HX).drewN _
              clear hwq
              obtain ⟨a0, a1, a2⟩ := unhide HC3 _ _ _ (unhide Hwq)
              obtain ⟨b0, b1, b2⟩ := unhide HQ _ (unhide Hwq).below
              obtain ⟨v8, w8, hrw8, hw8⟩ := unhide HAdd wq _ _ ⟨key, val, gone⟩ (unhide Hwq) (by have := unhide Hm7; simp; omega)
              have Hw8 := hide hw8
              clear hw8
              go_wp2_with (at_builtin; refine wpList_appendI rfl _ _ 36 36 rfl (.slice p7 m7 c7) (.slice (some ⟨wq.heap.size, 0, none⟩) 1 1) rfl rfl hrw8 ?_)
              clear hrw8
              obtain ⟨e0, e1, e2⟩ := unhide HC3 _ _ _ (unhide Hw8)
              obtain ⟨d0, d1, d2⟩ := unhide HQ _ (unhide Hw8).below
              obtain ⟨p8, c8, hv8, _⟩ := row_slice ((unhide Hw8).rowAt (.head _))
              subst hv8
              go_wp2_with fail
              go_quiet (fail)
              generalize hwq : w8.drewN _ = wz
              have Hwz : Hid (Hold w wz [rowI (.slice p8 (next ++ [(⟨key, val, gone⟩ : ChD)]).length c8) (next ++ [(⟨key, val, gone⟩ : ChD)]), rowI (.slice (some ⟨g, 0, none⟩) n co) L]) := by rw [← hwq]; exact (unhide Hw8).drewN _
              clear hwq
              obtain ⟨a0, a1, a2⟩ := unhide HC3 _ _ _ (unhide Hwz)
              obtain ⟨b0, b1, b2⟩ := unhide HQ _ (unhide Hwz).below
              obtain ⟨v9, w9, hrw9, hw9⟩ := unhide HAdd wz _ _ ⟨xk, xv, xg⟩ (unhide Hwz) (by have := unhide Hm7; simp; omega)
              have Hw9 := hide hw9
              clear hw9
              go_wp2_with (at_builtin; refine wpList_appendI rfl _ _ 36 36 rfl (.slice p8 (next ++ [(⟨key, val, gone⟩ : ChD)]).length c8) (.slice (some ⟨wz.heap.size, 0, none⟩) 1 1) rfl rfl hrw9 ?_)
              go_roundg (n - k)
              case measure => omega
              case rel => exact ⟨k + 1, next ++ [(⟨key, val, gone⟩ : ChD)] ++ [(⟨xk, xv, xg⟩ : ChD)], true, by omega, by omega, rfl, by simp, by have := unhide Hnl2; simp; omega, by rw [unhide Htk]; exact HI2, Hw9⟩
        · have hkz : ¬ (k : Int) < (n : Int) := by omega
          have hke : k = n := by omega
          subst hke
          have hI := unhide HI
          rw [List.take_of_length_le (Nat.le_of_eq (unhide Hn))] at hI
          obtain ⟨p7, c7, hv7, _⟩ := row_slice ((unhide HX).rowAt (.head _))
          subst hv7
          cases laid with
          | true =>
            have hend := ainv_end hI
            have Hend := hide hend
            have hln := applyOne_len L ⟨key, val, gone⟩
            have Hln := hide hln
            clear hI hend hln
            go_wp2_with fail
            go_roundg (nb - i)
            case measure => omega
            case rel => exact ⟨i + 1, by omega, by omega, by simp, by rw [unhide Hnx, ← unhide Hend]; exact (unhide HX).forget [_], by rw [unhide Hnx]; have := unhide Hln; have := unhide Hn; omega⟩
          | false =>
            have hend := ainv_last hI
            have Hend := hide hend
            have hln := applyOne_len L ⟨key, val, gone⟩
            have Hln := hide hln
            obtain ⟨b0, b1, b2⟩ := unhide HQ _ (unhide HX).below
            try simp only at b0 b1 b2
            obtain ⟨v8, w8, hrw8, hw8⟩ := hold_add (unhide HX) ⟨key, val, gone⟩ (by omega)
            have Hw8 := hide (hw8.forget [_])
            obtain ⟨m7, hm7⟩ : ∃ m7, next.length = m7 := ⟨_, rfl⟩
            rw [hm7] at hrw8 ⊢
            clear hI hend hln hw8 hm7
            go_wp2_with (at_builtin; refine wpList_appendI rfl _ _ 36 36 rfl (.slice p7 m7 c7) (.slice (some ⟨wr.heap.size, 0, none⟩) 1 1) rfl rfl hrw8 ?_)
            go_roundg (nb - i)
            case measure => omega
            case rel => exact ⟨i + 1, by omega, by omega, by simp, by rw [unhide Hnx, ← unhide Hend]; exact Hw8, by rw [unhide Hnx]; have := unhide Hln; have := unhide Hn; omega⟩
    · have hiz : ¬ (i : Int) < (nb : Int) := by omega
      have hie : i = nb := by omega
      subst hie
      have h9 := unhide HHi
      rw [List.take_of_length_le (by rw [listOf_length]; exact Nat.le_refl _)] at h9
      have H9 := hide h9
      clear h9 HHi
      go_wp2_with fail
      go_ret
      exact ⟨_, rfl, unhide H9⟩
#print axioms applied_calls
end Go.Proofs.Ytcjfhfalffngjaa
