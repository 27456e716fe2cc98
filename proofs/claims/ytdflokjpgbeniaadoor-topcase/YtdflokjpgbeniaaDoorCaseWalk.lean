/-
  The walk of TopCase: it answers true, for all texts, and writes nothing that was there.
-/
import Derived.Test.YtdflokjpgbeniaaDoorRunes
import Derived.Test.YtdflokjpgbeniaaDoorKeyWalk
namespace Go.Proofs.YtdflokjpgbeniaaDoor
open Go.RowKit

theorem fold_Ab : foldL [65, 98] = [97, 98] := by decide +kernel
theorem fold_aB : foldL [97, 66] = [97, 98] := by decide +kernel
theorem name_two {x y : Int} (h1 : isZ x = true) (h0 : isZ y = true) (h2 : classZ x = 0) (h3 : (encL [x, y]).length ≤ 24) (h4 : (splitL [x, y]).length ≤ 12) : Name [x, y] := ⟨fun r hr => by simp at hr; rcases hr with rfl | rfl <;> assumption, by simp, fun r t e => by cases e; exact h2, h3, h4⟩
theorem name_Ab : Name [65, 98] := name_two (by decide +kernel) (by decide +kernel) (by decide) (by decide +kernel) (by decide +kernel)
theorem name_aB : Name [97, 66] := name_two (by decide +kernel) (by decide +kernel) (by decide) (by decide +kernel) (by decide +kernel)
theorem enc_Ab : encS [65, 98] = ⟨#[65, 98]⟩ := by decide +kernel
theorem enc_aB : encS [97, 66] = ⟨#[97, 66]⟩ := by decide +kernel
theorem key_Ab_aB : keyOf [97, 66] = keyOf [65, 98] := by unfold keyOf; rw [fold_Ab, fold_aB]

set_option maxRecDepth 100000 in
set_option maxHeartbeats 1000000 in
theorem topCase_walk (s : ByteArray) (w : World) (hR : Ready w) (hsz : s.size ≤ 9223372036854775807) :
    Calls Tryd.prog 7 #[.string s] w fun e w' => e = .returned (.bool true) ∧ Below w.heap.size w w' := by
  have h1 := keyOf_calls [65, 98] w hR name_Ab.keyed
  have h2 := fun wx (hx : Ready wx) => keyOf_calls [97, 66] wx hx name_aB.keyed
  rw [enc_Ab] at h1
  rw [enc_aB, key_Ab_aB] at h2
  generalize keyOf [65, 98] = k0 at h1 h2
  by_cases ha : 60 < s.size
  · have haz : (60 : Int) < (s.size : Int) := by omega
    go_enter Tryd.func7, Tryd.ntmps7
    go_wp2_with fail
    refine h1.mono ?_
    rintro e w1 ⟨rfl, hb1⟩
    go_wp2_with fail
    refine (h2 w1 (hR.later hb1)).mono ?_
    rintro e w2 ⟨rfl, hb2⟩
    go_wp2
    go_ret
    exact ⟨rfl, hb1.trans (hb2.mono hb1.size)⟩
  · have haz : ¬ (60 : Int) < (s.size : Int) := by omega
    have hC := fun wx (hx : Ready wx) => check_calls s wx hx hsz
    clear hsz
    go_enter Tryd.func7, Tryd.ntmps7
    go_wp2_with fail
    refine h1.mono ?_
    rintro e w1 ⟨rfl, hb1⟩
    have hR1 := hR.later hb1
    go_wp2_with fail
    refine (h2 w1 hR1).mono ?_
    rintro e w2 ⟨rfl, hb2⟩
    have hR2 := hR1.later hb2
    have hb12 := hb1.trans (hb2.mono hb1.size)
    clear h1 h2 hb1 hb2 hR hR1
    go_wp2_with fail
    refine (hC w2 hR2).mono ?_
    rintro e w3 ⟨hck, hb3⟩
    have hR3 := hR2.later hb3
    have hb13 := hb12.trans (hb3.mono hb12.size)
    clear hb12 hb3 hR2 hC
    rcases hck with ⟨rfl, hna⟩ | ⟨k, rfl⟩
    · obtain ⟨rs, hes, hn⟩ := hna
      have hks := hn.keyed
      have hkx := keyed_swapped hn
      have hky := keyed_swapped_split hn
      have hkf := keyed_folded hn
      have hfx := fold_swapped rs
      have hfy := fold_swapped_split hn
      have hff := fold_folded hn
      have hlen := hn.few
      have hSx := fun wx => swapped_calls rs wx hn.small (by have := hn.short; omega)
      have hSp := fun wx (hx : Ready wx) => plainSplit_calls rs wx hx.tab hn.small (by have := hn.short; omega) hn.marks
      have hSy := fun wx => swapped_calls (splitL rs) wx (splitL_small hn.small) (by omega)
      have hAx := fun wx (hx : Ready wx) => alike_calls rs (rs.map swapZ) wx hx hks.small (by have := hks.short; omega) hks.few hkx.small (by have := hkx.short; omega) hkx.few
      have hAy := fun wx (hx : Ready wx) => alike_calls rs ((splitL rs).map swapZ) wx hx hks.small (by have := hks.short; omega) hks.few hky.small (by have := hky.short; omega) hky.few
      have hFo := fun wx (hx : Ready wx) => plainFold_calls rs wx hx hks.small (by have := hks.short; omega) hks.few
      have hOs := fun wx (hx : Ready wx) => keyOf_calls rs wx hx hks
      have hOx := fun wx (hx : Ready wx) => keyOf_calls (rs.map swapZ) wx hx hkx
      have hOy := fun wx (hx : Ready wx) => keyOf_calls ((splitL rs).map swapZ) wx hx hky
      have hOf := fun wx (hx : Ready wx) => keyOf_calls (foldL rs) wx hx hkf
      rw [hfx] at hAx
      rw [hfy] at hAy
      rw [show keyOf (rs.map swapZ) = keyOf rs by unfold keyOf; rw [hfx]] at hOx
      rw [show keyOf ((splitL rs).map swapZ) = keyOf rs by unfold keyOf; rw [hfy]] at hOy
      rw [show keyOf (foldL rs) = keyOf rs by unfold keyOf; rw [hff]] at hOf
      simp only [decide_true] at hAx hAy
      rw [← hes] at hSx hSp hAx hAy hFo hOs
      clear hks hkx hky hkf hfx hfy hff hlen hn hes ha
      generalize keyOf rs = ks at *
      generalize encS (rs.map swapZ) = sx at *
      generalize encS ((splitL rs).map swapZ) = sy at *
      generalize encS (splitL rs) = sp at *
      generalize encS (foldL rs) = sf at *
      go_wp2_with fail
      refine (hSx w3).mono ?_
      rintro e w4 ⟨rfl, hb4⟩
      have hR4 := hR3.later hb4
      have hb14 := hb13.trans (hb4.mono hb13.size)
      go_wp2_with fail
      refine (hSp w4 hR4).mono ?_
      rintro e w5 ⟨rfl, hb5⟩
      have hR5 := hR4.later hb5
      have hb15 := hb14.trans (hb5.mono hb14.size)
      go_wp2_with fail
      refine (hSy w5).mono ?_
      rintro e w6 ⟨rfl, hb6⟩
      have hR6 := hR5.later hb6
      have hb16 := hb15.trans (hb6.mono hb15.size)
      clear hb4 hb5 hb6 hb13 hb14 hb15 hR3 hR4 hR5 hSx hSp hSy
      go_wp2_with fail
      refine (hAx w6 hR6).mono ?_
      rintro e w7 ⟨rfl, hb7⟩
      have hR7 := hR6.later hb7
      have hb17 := hb16.trans (hb7.mono hb16.size)
      go_wp2_with fail
      refine (hAy w7 hR7).mono ?_
      rintro e w8 ⟨rfl, hb8⟩
      have hR8 := hR7.later hb8
      have hb18 := hb17.trans (hb8.mono hb17.size)
      clear hb7 hb8 hb16 hb17 hR6 hR7 hAx hAy
      go_wp2_with fail
      refine (hOs w8 hR8).mono ?_
      rintro e w9 ⟨rfl, hb9⟩
      have hR9 := hR8.later hb9
      have hb19 := hb18.trans (hb9.mono hb18.size)
      go_wp2_with fail
      refine (hOx w9 hR9).mono ?_
      rintro e w10 ⟨rfl, hb10⟩
      have hR10 := hR9.later hb10
      have hb110 := hb19.trans (hb10.mono hb19.size)
      go_wp2_with fail
      refine (hOs w10 hR10).mono ?_
      rintro e w11 ⟨rfl, hb11⟩
      have hR11 := hR10.later hb11
      have hb111 := hb110.trans (hb11.mono hb110.size)
      go_wp2_with fail
      refine (hOy w11 hR11).mono ?_
      rintro e w12 ⟨rfl, hb12⟩
      have hR12 := hR11.later hb12
      have hb112 := hb111.trans (hb12.mono hb111.size)
      clear hb9 hb10 hb11 hb12 hb18 hb19 hb110 hb111 hR8 hR9 hR10 hR11 hOx hOy
      go_wp2_with fail
      refine (hOs w12 hR12).mono ?_
      rintro e w13 ⟨rfl, hb13⟩
      have hR13 := hR12.later hb13
      have hb113 := hb112.trans (hb13.mono hb112.size)
      go_wp2_with fail
      refine (hFo w13 hR13).mono ?_
      rintro e w14 ⟨rfl, hb14⟩
      have hR14 := hR13.later hb14
      have hb114 := hb113.trans (hb14.mono hb113.size)
      go_wp2_with fail
      refine (hOf w14 hR14).mono ?_
      rintro e w15 ⟨rfl, hb15⟩
      have hb115 := hb114.trans (hb15.mono hb114.size)
      go_wp2
      go_ret
      exact ⟨rfl, hb115⟩
    · go_wp2
      go_ret
      exact ⟨rfl, hb13⟩
end Go.Proofs.YtdflokjpgbeniaaDoor
