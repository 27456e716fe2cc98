/-
  The walk of TopKey: it answers true, for all texts, and writes nothing that was there.
-/
import Derived.Test.YtdflokjpgbeniaaDoorInj
import Derived.Test.YtdflokjpgbeniaaDoorOrderWalk
namespace Go.Proofs.YtdflokjpgbeniaaDoor
open Go.RowKit

theorem name_one {x : Int} (h1 : isZ x = true) (h2 : classZ x = 0) (h3 : (encL [x]).length ≤ 24) (h4 : (splitL [x]).length ≤ 12) : Name [x] := ⟨fun r hr => by simp at hr; subst hr; exact h1, by simp, fun r t e => by cases e; exact h2, h3, h4⟩
theorem name_a : Name [97] := name_one (by decide +kernel) (by decide) (by decide +kernel) (by decide +kernel)
theorem name_A : Name [65] := name_one (by decide +kernel) (by decide) (by decide +kernel) (by decide +kernel)
theorem name_b : Name [98] := name_one (by decide +kernel) (by decide) (by decide +kernel) (by decide +kernel)
theorem cmp_a_A : cmpK [97] [65] = 0 := by
  unfold cmpK keyOf
  rw [show foldL [97] = [97] by decide +kernel, show foldL [65] = [97] by decide +kernel, repl_one]
  decide +kernel
theorem cmp_a_b : cmpK [97] [98] = -1 := by
  unfold cmpK keyOf
  rw [show foldL [97] = [97] by decide +kernel, show foldL [98] = [98] by decide +kernel, repl_one, repl_one]
  decide +kernel
theorem enc_a : encS [97] = ⟨#[97]⟩ := by decide +kernel
theorem enc_A : encS [65] = ⟨#[65]⟩ := by decide +kernel
theorem enc_b : encS [98] = ⟨#[98]⟩ := by decide +kernel

/-- The road behind the checks, where two names are alike or not. -/
theorem key_facts {a b : List Int} (ha : Name a) (hb : Name b) :
    ((keyOf a).toList == (keyOf b).toList) = decide (foldL a = foldL b) ∧ (cmpK a b == 0) = decide (foldL a = foldL b) := by
  have h := key_same ha hb
  constructor
  · rw [Lib.toList_data, Lib.toList_data, Bool.eq_iff_iff, beq_iff_eq, decide_eq_true_iff]
    exact h
  · rw [Bool.eq_iff_iff, beq_iff_eq, decide_eq_true_iff, ← h]
    exact cmp_zero _ _

set_option maxRecDepth 100000 in
set_option maxHeartbeats 1000000 in
theorem topKey_walk (a b : ByteArray) (w : World) (hR : Ready w) (hsa : a.size ≤ 9223372036854775807) (hsb : b.size ≤ 9223372036854775807) :
    Calls Tryd.prog 8 #[.string a, .string b] w fun e w' => e = .returned (.bool true) ∧ Below w.heap.size w w' := by
  have h1 := compare_calls [97] [65] w hR name_a.keyed name_A.keyed
  have h2 := fun wx (hx : Ready wx) => compare_calls [97] [98] wx hx name_a.keyed name_b.keyed
  rw [cmp_a_A, enc_a, enc_A] at h1
  rw [cmp_a_b, enc_a, enc_b] at h2
  by_cases ha : 60 < a.size
  · have haz : (60 : Int) < (a.size : Int) := by omega
    go_enter Tryd.func8, Tryd.ntmps8
    go_wp2_with fail
    refine h1.mono ?_
    rintro e w1 ⟨rfl, hb1⟩
    go_wp2_with fail
    refine (h2 w1 (hR.later hb1)).mono ?_
    rintro e w2 ⟨rfl, hb2⟩
    go_wp2
    go_ret
    exact ⟨rfl, hb1.trans (hb2.mono hb1.size)⟩
  · have haz : ¬ (60 : Int) < (a.size : Int) := by omega
    by_cases hb : 60 < b.size
    · have hbz : (60 : Int) < (b.size : Int) := by omega
      go_enter Tryd.func8, Tryd.ntmps8
      go_wp2_with fail
      refine h1.mono ?_
      rintro e w1 ⟨rfl, hb1⟩
      go_wp2_with fail
      refine (h2 w1 (hR.later hb1)).mono ?_
      rintro e w2 ⟨rfl, hb2⟩
      go_wp2
      go_ret
      exact ⟨rfl, hb1.trans (hb2.mono hb1.size)⟩
    · have hbz : ¬ (60 : Int) < (b.size : Int) := by omega
      have hCa := fun wx (hx : Ready wx) => check_calls a wx hx hsa
      have hCb := fun wx (hx : Ready wx) => check_calls b wx hx hsb
      clear hsa hsb
      go_enter Tryd.func8, Tryd.ntmps8
      go_wp2_with fail
      refine h1.mono ?_
      rintro e w1 ⟨rfl, hb1⟩
      have hR1 := hR.later hb1
      go_wp2_with fail
      refine (h2 w1 hR1).mono ?_
      rintro e w2 ⟨rfl, hb2⟩
      have hR2 := hR1.later hb2
      have hb12 := hb1.trans (hb2.mono hb1.size)
      clear h1 h2 hb1 hb2 hR hR1
      go_wp2_with fail
      refine (hCa w2 hR2).mono ?_
      rintro e w3 ⟨hck, hb3⟩
      have hR3 := hR2.later hb3
      have hb13 := hb12.trans (hb3.mono hb12.size)
      clear hb12 hb3 hR2 hCa
      rcases hck with ⟨rfl, hna⟩ | ⟨k, rfl⟩
      · have Hna := hide hna
        clear hna
        go_wp2_with fail
        refine (hCb w3 hR3).mono ?_
        rintro e w4 ⟨hck, hb4⟩
        have hR4 := hR3.later hb4
        have hb14 := hb13.trans (hb4.mono hb13.size)
        clear hb13 hb4 hR3 hCb
        rcases hck with ⟨rfl, hnb⟩ | ⟨k, rfl⟩
        · obtain ⟨ra, hea, hna⟩ := unhide Hna
          obtain ⟨rb, heb, hnb⟩ := hnb
          have hOa := fun wx (hx : Ready wx) => keyOf_calls ra wx hx hna.keyed
          have hOb := fun wx (hx : Ready wx) => keyOf_calls rb wx hx hnb.keyed
          have hAl := fun wx (hx : Ready wx) => alike_calls ra rb wx hx hna.small (by have := hna.short; omega) hna.marks hnb.small (by have := hnb.short; omega) hnb.marks
          have hCm := fun wx (hx : Ready wx) => compare_calls ra rb wx hx hna.keyed hnb.keyed
          obtain ⟨hf1, hf2⟩ := key_facts hna hnb
          obtain ⟨hsz0, hsz1⟩ := key_size hna
          have hne : (keyOf ra).toList.isEmpty = false := by
            rw [Lib.toList_data]
            cases hl : (keyOf ra).data.toList with
            | nil =>
              have : (keyOf ra).data.toList.length = (keyOf ra).size := Array.length_toList
              rw [hl, List.length_nil] at this
              omega
            | cons _ _ => rfl
          rw [← hea] at hOa
          rw [← heb] at hOb
          rw [← hea, ← heb] at hAl hCm
          clear hea heb hna hnb Hna ha hb
          generalize decide (foldL ra = foldL rb) = d at *
          generalize cmpK ra rb = c at *
          generalize keyOf ra = ka at *
          generalize keyOf rb = kb at *
          have hszz : (ka.size : Int) ≤ 40 := by omega
          cases d
          all_goals
            go_wp2_with fail
            refine (hOa w4 hR4).mono ?_
            rintro e w5 ⟨rfl, hb5⟩
            have hR5 := hR4.later hb5
            have hb15 := hb14.trans (hb5.mono hb14.size)
            go_wp2_with fail
            refine (hOb w5 hR5).mono ?_
            rintro e w6 ⟨rfl, hb6⟩
            have hR6 := hR5.later hb6
            have hb16 := hb15.trans (hb6.mono hb15.size)
            go_wp2_with fail
            refine (hAl w6 hR6).mono ?_
            rintro e w7 ⟨rfl, hb7⟩
            have hR7 := hR6.later hb7
            have hb17 := hb16.trans (hb7.mono hb16.size)
            go_wp2_with fail
            refine (hCm w7 hR7).mono ?_
            rintro e w8 ⟨rfl, hb8⟩
            have hR8 := hR7.later hb8
            have hb18 := hb17.trans (hb8.mono hb17.size)
            go_wp2_with fail
            refine (hAl w8 hR8).mono ?_
            rintro e w9 ⟨rfl, hb9⟩
            have hR9 := hR8.later hb9
            have hb19 := hb18.trans (hb9.mono hb18.size)
            go_wp2_with fail
            refine (hOa w9 hR9).mono ?_
            rintro e w10 ⟨rfl, hb10⟩
            have hR10 := hR9.later hb10
            have hb110 := hb19.trans (hb10.mono hb19.size)
            go_wp2_with fail
            refine (hOa w10 hR10).mono ?_
            rintro e w11 ⟨rfl, hb11⟩
            have hb111 := hb110.trans (hb11.mono hb110.size)
            go_wp2
            go_ret
            exact ⟨rfl, hb111⟩
        · go_wp2
          go_ret
          exact ⟨rfl, hb14⟩
      · go_wp2
        go_ret
        exact ⟨rfl, hb13⟩
end Go.Proofs.YtdflokjpgbeniaaDoor
