/-
  The walk of TopOrder: it answers true, for all texts, and writes nothing that was there.
-/
import Derived.Test.YtdflokjpgbeniaaDoorCompare
namespace Go.Proofs.YtdflokjpgbeniaaDoor
open Go.RowKit

theorem repl_one (x : Int) : repl [x] = [x] := by rw [repl]

theorem name_z : Name [122] := ⟨by decide +kernel, by simp, fun r t e => by cases e; decide, by decide +kernel, by decide +kernel⟩
theorem name_sigma : Name [963] := ⟨by decide +kernel, by simp, fun r t e => by cases e; decide, by decide +kernel, by decide +kernel⟩
theorem cmp_z_sigma : cmpK [122] [963] = -1 := by
  unfold cmpK keyOf
  rw [show foldL [122] = [122] by decide +kernel, show foldL [963] = [963] by decide +kernel, repl_one, repl_one]
  decide +kernel
theorem enc_z : encS [122] = ⟨#[122]⟩ := by decide +kernel
theorem enc_sigma : encS [963] = ⟨#[207, 131]⟩ := by decide +kernel

/-- A text that is a name. -/
def IsName (s : ByteArray) : Prop := ∃ rs, s = encS rs ∧ Name rs

theorem cmpK_neg (a b : List Int) : cmpK b a = - cmpK a b := cmp_neg _ _
theorem cmpK_trans (a b c : List Int) (h1 : cmpK a b < 0) (h2 : cmpK b c < 0) : cmpK a c < 0 := cmp_trans _ _ _ h1 h2

theorem cmpK_vals (a b : List Int) : cmpK a b = -1 ∨ cmpK a b = 0 ∨ cmpK a b = 1 := by
  have : -1 ≤ cmpK a b ∧ cmpK a b ≤ 1 := cmp_range _ _
  omega
/-- The text at a place among three. -/
def three3 (a b c : ByteArray) (j : Nat) : ByteArray := if j = 0 then a else if j = 1 then b else c
theorem three3_cell (w1 : World) (a b c : ByteArray) (j : Nat) (hj : j < 3) : (w1.alloc (.cells #[Value.string a, Value.string b, Value.string c] 9)).cell? ⟨w1.heap.size, j, none⟩ = some (.string (three3 a b c j)) := by
  rw [cell_of_row _ _ _ _ _ _ (Go.heap_alloc_new _ _)]
  have h : j = 0 ∨ j = 1 ∨ j = 2 := by omega
  rcases h with rfl | rfl | rfl <;> rfl

set_option maxRecDepth 100000 in
set_option maxHeartbeats 1000000 in
theorem topOrder_walk (a b c : ByteArray) (w : World) (hR : Ready w) (hsa : a.size ≤ 9223372036854775807) (hsb : b.size ≤ 9223372036854775807) (hsc : c.size ≤ 9223372036854775807) :
    Calls Tryd.prog 9 #[.string a, .string b, .string c] w fun e w' => e = .returned (.bool true) ∧ Below w.heap.size w w' := by
  have h0 := compare_calls [122] [963] w hR name_z.keyed name_sigma.keyed
  rw [cmp_z_sigma, enc_z, enc_sigma] at h0
  go_enter Tryd.func9, Tryd.ntmps9
  go_wp2_with fail
  refine h0.mono ?_
  rintro e w1 ⟨rfl, hb1⟩
  have hR1 := hR.later hb1
  have hs1 := hb1.size
  go_wp2_with fail
  go_loopg [18] 4 (fun k i wr => ∃ j : Nat, j ≤ 3 ∧ k = 4 - j ∧ i = .int .i64 j ∧ Below w1.heap.size w1 wr ∧ w1.heap.size < wr.heap.size ∧ Hid (∀ j, j < 3 → wr.cell? ⟨w1.heap.size, j, none⟩ = some (.string (three3 a b c j))) ∧ Hid (∀ i, i < j → IsName (three3 a b c i)))
  case atStart => exact ⟨0, by omega, rfl, rfl, (Below.refl _ w1).alloc (Nat.le_refl _) _, by simp, fun j hj => three3_cell w1 a b c j hj, fun i hi => absurd hi (Nat.not_lt_zero i)⟩
  case round =>
    obtain ⟨j, hj, hk, rfl, hbr, hsr, HC, HN⟩ := hrel
    by_cases hj3 : j < 3
    · have hc := unhide HC j hj3
      have hsz : (three3 a b c j).size ≤ 9223372036854775807 := by
        unfold three3
        split
        · exact hsa
        · split
          · exact hsb
          · exact hsc
      obtain ⟨s, Hs⟩ : ∃ s, Hid (three3 a b c j = s) := ⟨_, rfl⟩
      rw [unhide Hs] at hc hsz
      by_cases h60 : 60 < s.size
      · have h60z : (60 : Int) < (s.size : Int) := by omega
        go_wp2
        go_ret
        exact ⟨rfl, hb1.trans (hbr.mono hs1)⟩
      · have h60z : ¬ (60 : Int) < (s.size : Int) := by omega
        have hCk := check_calls s wr (hR1.later hbr) hsz
        go_wp2_with fail
        refine hCk.mono ?_
        rintro e w2 ⟨hck, hb2⟩
        rcases hck with ⟨rfl, hnm⟩ | ⟨k, rfl⟩
        · have Hnm : Hid (IsName s) := hnm
          clear hnm
          go_wp2
          go_roundg (3 - j)
          case measure => omega
          case rel =>
            refine ⟨j + 1, by omega, by omega, by simp, hbr.trans (hb2.mono (by omega)), by have := hb2.size; omega, fun i hi => ?_, fun i hi => ?_⟩
            · rw [hb2.cell (by exact hsr)]
              exact unhide HC i hi
            · rcases Nat.lt_or_ge i j with h | h
              · exact unhide HN i h
              · obtain rfl : i = j := by omega
                rw [unhide Hs]
                exact unhide Hnm
        · go_wp2
          go_ret
          exact ⟨rfl, (hb1.trans (hbr.mono hs1)).trans (hb2.mono (by have := hbr.size; omega))⟩
    · have h3 : j = 3 := by omega
      subst h3
      obtain ⟨ra, hea, hna⟩ := unhide HN 0 (by omega)
      obtain ⟨rb, heb, hnb⟩ := unhide HN 1 (by omega)
      obtain ⟨rc, hec, hnc⟩ := unhide HN 2 (by omega)
      have hea : a = encS ra := hea
      have heb : b = encS rb := heb
      have hec : c = encS rc := hec
      have hRr := hR1.later hbr
      have hbw : Below w.heap.size w wr := hb1.trans (hbr.mono hs1)
      have hAB := compare_calls ra rb wr hRr hna.keyed hnb.keyed
      have hBA := fun wx (hx : Ready wx) => compare_calls rb ra wx hx hnb.keyed hna.keyed
      have hBC := fun wx (hx : Ready wx) => compare_calls rb rc wx hx hnb.keyed hnc.keyed
      have hAC := fun wx (hx : Ready wx) => compare_calls ra rc wx hx hna.keyed hnc.keyed
      have hneg := cmpK_neg ra rb
      have htr := cmpK_trans ra rb rc
      have hvac := cmpK_vals ra rc
      rw [← hea, ← heb] at hAB
      rw [← hea, ← heb] at hBA
      rw [← heb, ← hec] at hBC
      rw [← hea, ← hec] at hAC
      clear hea heb hec hna hnb hnc HN HC h0
      rcases cmpK_vals ra rb with hx | hx | hx
      · rw [hx] at hAB hneg
        rw [hneg] at hBA
        have htr := htr (by omega)
        rcases cmpK_vals rb rc with hz | hz | hz
        · rw [hz] at hBC htr
          have hu : cmpK ra rc = -1 := by omega
          rw [hu] at hAC
          clear hx hz hu hneg htr hvac
          go_wp2_with fail
          refine hAB.mono ?_
          rintro e w2 ⟨rfl, hb2⟩
          have hR2 := hRr.later hb2
          go_wp2_with fail
          refine (hBA w2 hR2).mono ?_
          rintro e w3 ⟨rfl, hb3⟩
          have hR3 := hR2.later hb3
          go_wp2_with fail
          refine (hBC w3 hR3).mono ?_
          rintro e w4 ⟨rfl, hb4⟩
          have hR4 := hR3.later hb4
          go_wp2_with fail
          refine (hAC w4 hR4).mono ?_
          rintro e w5 ⟨rfl, hb5⟩
          go_wp2
          go_ret
          have s2 := hb2.size
          have s3 := hb3.size
          have s4 := hb4.size
          have s0 := hbw.size
          exact ⟨rfl, (((hbw.trans (hb2.mono s0)).trans (hb3.mono (by omega))).trans (hb4.mono (by omega))).trans (hb5.mono (by omega))⟩
        all_goals
          rw [hz] at hBC
          clear hx hz hneg htr hvac hAC
          go_wp2_with fail
          refine hAB.mono ?_
          rintro e w2 ⟨rfl, hb2⟩
          have hR2 := hRr.later hb2
          go_wp2_with fail
          refine (hBA w2 hR2).mono ?_
          rintro e w3 ⟨rfl, hb3⟩
          have hR3 := hR2.later hb3
          go_wp2_with fail
          refine (hBC w3 hR3).mono ?_
          rintro e w4 ⟨rfl, hb4⟩
          go_wp2
          go_ret
          have s2 := hb2.size
          have s3 := hb3.size
          have s0 := hbw.size
          exact ⟨rfl, ((hbw.trans (hb2.mono s0)).trans (hb3.mono (by omega))).trans (hb4.mono (by omega))⟩
      all_goals
        rw [hx] at hAB hneg
        rw [hneg] at hBA
        clear hx hneg htr hvac hAC hBC
        go_wp2_with fail
        refine hAB.mono ?_
        rintro e w2 ⟨rfl, hb2⟩
        have hR2 := hRr.later hb2
        go_wp2_with fail
        refine (hBA w2 hR2).mono ?_
        rintro e w3 ⟨rfl, hb3⟩
        go_wp2
        go_ret
        have s2 := hb2.size
        have s0 := hbw.size
        exact ⟨rfl, (hbw.trans (hb2.mono s0)).trans (hb3.mono (by omega))⟩
end Go.Proofs.YtdflokjpgbeniaaDoor
