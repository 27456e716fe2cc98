/-
  The walk of TopFirst: it answers true, for all texts, and writes nothing that was there.
-/
import Derived.Test.YtdflokjpgbeniaaDoorFirst
namespace Go.Proofs.YtdflokjpgbeniaaDoor
open Go.RowKit

theorem name_eaa : Name [101, 769, 97] := ⟨fun r hr => by simp at hr; rcases hr with rfl | rfl | rfl <;> decide +kernel, by simp, fun r t e => by cases e; decide, by decide +kernel, by decide +kernel⟩
theorem name_eb : Name [101, 98] := ⟨fun r hr => by simp at hr; rcases hr with rfl | rfl <;> decide +kernel, by simp, fun r t e => by cases e; decide, by decide +kernel, by decide +kernel⟩
theorem enc_eaa : encS [101, 769, 97] = ⟨#[101, 204, 129, 97]⟩ := by decide +kernel
theorem enc_eb : encS [101, 98] = ⟨#[101, 98]⟩ := by decide +kernel
theorem cmp_eaa_eb : cmpK [101, 769, 97] [101, 98] = -1 := by
  unfold cmpK keyOf
  rw [show foldL [101, 769, 97] = [101, 769, 97] by decide +kernel, show foldL [101, 98] = [101, 98] by decide +kernel, repl_miss (by decide), repl_miss (by decide), repl_miss (by decide), repl_one, repl_one]
  decide +kernel

set_option maxRecDepth 100000 in
set_option maxHeartbeats 1000000 in
theorem topFirst_walk (a b : ByteArray) (w : World) (hR : Ready w) (hsa : a.size ≤ 9223372036854775807) (hsb : b.size ≤ 9223372036854775807) :
    Calls Tryd.prog 10 #[.string a, .string b] w fun e w' => e = .returned (.bool true) ∧ Below w.heap.size w w' := by
  have h1 := compare_calls [101, 769, 97] [101, 98] w hR name_eaa.keyed name_eb.keyed
  rw [cmp_eaa_eb, enc_eaa, enc_eb] at h1
  by_cases ha : 60 < a.size
  · have haz : (60 : Int) < (a.size : Int) := by omega
    go_enter Tryd.func10, Tryd.ntmps10
    go_wp2_with fail
    refine h1.mono ?_
    rintro e w1 ⟨rfl, hb1⟩
    go_wp2
    go_ret
    exact ⟨rfl, hb1⟩
  · have haz : ¬ (60 : Int) < (a.size : Int) := by omega
    by_cases hb : 60 < b.size
    · have hbz : (60 : Int) < (b.size : Int) := by omega
      go_enter Tryd.func10, Tryd.ntmps10
      go_wp2_with fail
      refine h1.mono ?_
      rintro e w1 ⟨rfl, hb1⟩
      go_wp2
      go_ret
      exact ⟨rfl, hb1⟩
    · have hbz : ¬ (60 : Int) < (b.size : Int) := by omega
      have hCa := fun wx (hx : Ready wx) => check_calls a wx hx hsa
      have hCb := fun wx (hx : Ready wx) => check_calls b wx hx hsb
      clear hsa hsb
      go_enter Tryd.func10, Tryd.ntmps10
      go_wp2_with fail
      refine h1.mono ?_
      rintro e w2 ⟨rfl, hb12⟩
      have hR2 := hR.later hb12
      clear h1 hR
      go_wp2_with fail
      refine (hCa w2 hR2).mono ?_
      rintro e w3 ⟨hck, hb3⟩
      have hR3 := hR2.later hb3
      have hb13 := hb12.trans (hb3.mono hb12.size)
      clear hb12 hb3 hR2 hCa
      rcases hck with ⟨rfl, hna⟩ | ⟨k, rfl⟩
      · have Hna := hide hna
        clear hna
        go_wp2_with fail
        refine (hCb w3 hR3).mono ?_
        rintro e w4 ⟨hck, hb4⟩
        have hR4 := hR3.later hb4
        have hb14 := hb13.trans (hb4.mono hb13.size)
        clear hb13 hb4 hR3 hCb
        rcases hck with ⟨rfl, hnb⟩ | ⟨k, rfl⟩
        · obtain ⟨ra, hea, hna⟩ := unhide Hna
          obtain ⟨rb, heb, hnb⟩ := hnb
          have hBa := fun wx (hx : Ready wx) => bare_calls ra wx hx hna.small (by have := hna.short; omega) hna.marks (bare_ne hna)
          have hBb := fun wx (hx : Ready wx) => bare_calls rb wx hx hnb.small (by have := hnb.short; omega) hnb.marks (bare_ne hnb)
          have hDa := fun wx (hx : Ready wx) => digraph_calls ra wx hx hna.small (by have := hna.short; omega) hna.marks
          have hDb := fun wx (hx : Ready wx) => digraph_calls rb wx hx hnb.small (by have := hnb.short; omega) hnb.marks
          have hDx := fun wx (hx : Ready wx) => digraph_calls (bareL ra) wx hx (bare_small hna) (by have := bare_short hna; omega) (bare_marks hna)
          have hDy := fun wx (hx : Ready wx) => digraph_calls (bareL rb) wx hx (bare_small hnb) (by have := bare_short hnb; omega) (bare_marks hnb)
          have hsx : (encL (bareL ra)).length ≤ 24 := by have := (encL_len (bareL ra) (bare_small hna)).2; have := bare_short hna; omega
          have hsy : (encL (bareL rb)).length ≤ 24 := by have := (encL_len (bareL rb) (bare_small hnb)).2; have := bare_short hnb; omega
          have hnx := bare_name hna hsx
          have hny := bare_name hnb hsy
          have hCx := fun wx (hx : Ready wx) => check_calls (encS (bareL ra)) wx hx (by rw [encS_size]; omega)
          have hCy := fun wx (hx : Ready wx) => check_calls (encS (bareL rb)) wx hx (by rw [encS_size]; omega)
          have hAl := fun wx (hx : Ready wx) => alike_calls (bareL ra) (bareL rb) wx hx hnx.small (by have := hnx.short; omega) hnx.marks hny.small (by have := hny.short; omega) hny.marks
          have hCm := fun wx (hx : Ready wx) => compare_calls ra rb wx hx hna.keyed hnb.keyed
          have hCn := fun wx (hx : Ready wx) => compare_calls (bareL ra) (bareL rb) wx hx hnx.keyed hny.keyed
          have hfin := fun h1 h2 h3 => cmp_bare hna hnb hnx hny h1 h2 h3
          rw [← hea] at hBa hDa
          rw [← heb] at hBb hDb
          rw [← hea, ← heb] at hCm
          clear hea heb hna hnb Hna hnx hny hsx hsy ha hb
          generalize cmpK ra rb = c at *
          generalize cmpK (bareL ra) (bareL rb) = c' at *
          generalize foldL (bareL ra) = fx at *
          generalize foldL (bareL rb) = fy at *
          generalize encS (bareL ra) = x at *
          generalize encS (bareL rb) = y at *
          generalize dig (foldL ra) = da at *
          generalize dig (foldL rb) = db at *
          generalize dig fx = dx at *
          generalize dig fy = dy at *
          have Hfin := hide hfin
          clear hfin
          go_wp2_with fail
          refine (hBa w4 hR4).mono ?_
          rintro e w5 ⟨rfl, hb5⟩
          have hR5 := hR4.later hb5
          have hb15 := hb14.trans (hb5.mono hb14.size)
          go_wp2_with fail
          refine (hBb w5 hR5).mono ?_
          rintro e w6 ⟨rfl, hb6⟩
          have hR6 := hR5.later hb6
          have hb16 := hb15.trans (hb6.mono hb15.size)
          clear hb14 hb15 hb5 hb6 hR4 hR5 hBa hBb
          go_wp2_with fail
          refine (hCx w6 hR6).mono ?_
          rintro e w7 ⟨hck, hb7⟩
          have hR7 := hR6.later hb7
          have hb17 := hb16.trans (hb7.mono hb16.size)
          clear hb16 hb7 hR6 hCx
          rcases hck with ⟨rfl, -⟩ | ⟨k, rfl⟩
          · go_wp2_with fail
            refine (hCy w7 hR7).mono ?_
            rintro e w8 ⟨hck, hb8⟩
            have hR8 := hR7.later hb8
            have hb18 := hb17.trans (hb8.mono hb17.size)
            clear hb17 hb8 hR7 hCy
            rcases hck with ⟨rfl, -⟩ | ⟨k, rfl⟩
            · by_cases hf : fx = fy
              · rw [decide_eq_true hf] at hAl
                go_wp2_with fail
                refine (hAl w8 hR8).mono ?_
                rintro e w9 ⟨rfl, hb9⟩
                have hb19 := hb18.trans (hb9.mono hb18.size)
                go_wp2
                go_ret
                exact ⟨rfl, hb19⟩
              · rw [decide_eq_false hf] at hAl
                go_wp2_with fail
                refine (hAl w8 hR8).mono ?_
                rintro e w9 ⟨rfl, hb9⟩
                have hR9 := hR8.later hb9
                have hb19 := hb18.trans (hb9.mono hb18.size)
                clear hb18 hb9 hR8 hAl
                go_wp2_with fail
                refine (hDa w9 hR9).mono ?_
                rintro e w10 ⟨rfl, hb10⟩
                have hR10 := hR9.later hb10
                have hb110 := hb19.trans (hb10.mono hb19.size)
                clear hb19 hb10 hR9 hDa
                go_wp2_with fail
                refine (hDx w10 hR10).mono ?_
                rintro e w11 ⟨rfl, hb11⟩
                have hR11 := hR10.later hb11
                have hb111 := hb110.trans (hb11.mono hb110.size)
                clear hb110 hb11 hR10 hDx
                by_cases hda : da = dx
                · subst hda
                  go_wp2_with fail
                  refine (hDb w11 hR11).mono ?_
                  rintro e w12 ⟨rfl, hb12⟩
                  have hR12 := hR11.later hb12
                  have hb112 := hb111.trans (hb12.mono hb111.size)
                  clear hb111 hb12 hR11 hDb
                  go_wp2_with fail
                  refine (hDy w12 hR12).mono ?_
                  rintro e w13 ⟨rfl, hb13⟩
                  have hR13 := hR12.later hb13
                  have hb113 := hb112.trans (hb13.mono hb112.size)
                  clear hb112 hb13 hR12 hDy
                  by_cases hdb : db = dy
                  · subst hdb
                    have hcc : c = c' := unhide Hfin hf (by first | rfl | trivial) (by first | rfl | trivial)
                    subst hcc
                    clear Hfin hf
                    by_cases hc : c < 0
                    · go_wp2_with fail
                      refine (hCm w13 hR13).mono ?_
                      rintro e w14 ⟨rfl, hb14⟩
                      have hR14 := hR13.later hb14
                      have hb114 := hb113.trans (hb14.mono hb113.size)
                      go_wp2_with fail
                      refine (hCn w14 hR14).mono ?_
                      rintro e w15 ⟨rfl, hb15⟩
                      have hb115 := hb114.trans (hb15.mono hb114.size)
                      go_wp2
                      go_ret
                      exact ⟨rfl, hb115⟩
                    · go_wp2_with fail
                      refine (hCm w13 hR13).mono ?_
                      rintro e w14 ⟨rfl, hb14⟩
                      have hR14 := hR13.later hb14
                      have hb114 := hb113.trans (hb14.mono hb113.size)
                      go_wp2_with fail
                      refine (hCn w14 hR14).mono ?_
                      rintro e w15 ⟨rfl, hb15⟩
                      have hb115 := hb114.trans (hb15.mono hb114.size)
                      go_wp2
                      go_ret
                      exact ⟨rfl, hb115⟩
                  · have h0 : ((db : Int) == (dy : Int)) = false := by simpa using (by omega : ¬ (db : Int) = (dy : Int))
                    go_wp2_with fail
                    go_ret
                    exact ⟨rfl, hb113⟩
                · have h0 : ((da : Int) == (dx : Int)) = false := by simpa using (by omega : ¬ (da : Int) = (dx : Int))
                  go_wp2_with fail
                  go_ret
                  exact ⟨rfl, hb111⟩
            · go_wp2
              go_ret
              exact ⟨rfl, hb18⟩
          · go_wp2
            go_ret
            exact ⟨rfl, hb17⟩
        · go_wp2
          go_ret
          exact ⟨rfl, hb14⟩
      · go_wp2
        go_ret
        exact ⟨rfl, hb13⟩
end Go.Proofs.YtdflokjpgbeniaaDoor
