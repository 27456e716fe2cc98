/-
  The walk of TopSigns: it answers true, for every sign, and writes nothing that was there.
-/
import Derived.Test.YtdflokjpgbeniaaDoorSplit
namespace Go.Proofs.YtdflokjpgbeniaaDoor
open Go.RowKit

theorem tab_facts : ∀ x ∈ tab, baseZ x.1 = false ∧ classZ x.1 = 0 ∧ baseZ x.2.1 = true ∧ 0 < classZ x.2.2 ∧ foldZ x.1 = x.1 ∧ (-2147483648 ≤ x.2.1 ∧ x.2.1 ≤ 2147483647) ∧ (-2147483648 ≤ x.2.2 ∧ x.2.2 ≤ 2147483647) := by decide +kernel

theorem whole_mem (r : Int) (h : wholeB r = true) : wholeX r ∈ tab ∧ (wholeX r).1 = r := by
  unfold wholeB at h
  unfold wholeX
  obtain ⟨x, hx⟩ := Option.isSome_iff_exists.1 h
  rw [hx]
  exact ⟨List.mem_of_find?_eq_some hx, by simpa using List.find?_some hx⟩

theorem fold_fold (r : Int) : foldZ (foldZ r) = foldZ r := by
  unfold foldZ
  by_cases h1 : 65 ≤ r ∧ r ≤ 90
  · rw [if_pos h1, if_neg (by omega), if_neg (by omega)]
  · rw [if_neg h1]
    by_cases h2 : r = 962 ∨ r = 931
    · rw [if_pos h2, if_neg (by omega), if_neg (by omega)]
    · rw [if_neg h2, if_neg h1, if_neg h2]
theorem base_fold (r : Int) : baseZ (foldZ r) = baseZ r := by
  unfold foldZ baseZ
  by_cases h1 : 65 ≤ r ∧ r ≤ 90
  · rw [if_pos h1]
    exact decide_eq_decide.2 (by omega)
  · rw [if_neg h1]
    by_cases h2 : r = 962 ∨ r = 931
    · rw [if_pos h2]
      exact decide_eq_decide.2 (by omega)
    · rw [if_neg h2]
theorem class_fold (r : Int) : classZ (foldZ r) = classZ r := by
  unfold foldZ classZ
  by_cases h1 : 65 ≤ r ∧ r ≤ 90
  · rw [if_pos h1, if_neg (by omega), if_neg (by omega), if_neg (by omega), if_neg (by omega)]
  · rw [if_neg h1]
    by_cases h2 : r = 962 ∨ r = 931
    · rw [if_pos h2, if_neg (by omega), if_neg (by omega), if_neg (by omega), if_neg (by omega)]
    · rw [if_neg h2]
theorem base_class (r : Int) (h : baseZ r = true) : classZ r = 0 := by
  unfold baseZ at h
  have h := of_decide_eq_true h
  unfold classZ
  rw [if_neg (by omega), if_neg (by omega)]
theorem class_nonneg (r : Int) : 0 ≤ classZ r := by
  unfold classZ
  split
  · omega
  · split <;> omega
theorem fold_range (r : Int) (h0 : -2147483648 ≤ r) (h1 : r ≤ 2147483647) : -2147483648 ≤ foldZ r ∧ foldZ r ≤ 2147483647 := by
  unfold foldZ
  split
  · omega
  · split <;> omega

theorem b97 : baseZ 97 = true := by decide
theorem c97 : classZ 97 = 0 := by decide
theorem s233 : splitZ 233 = [101, 769] := by decide +kernel

set_option maxRecDepth 100000 in
theorem topSigns_hit (r : Int) (w : World) (hT : HasTab w) (h0 : -2147483648 ≤ r) (h1 : r ≤ 2147483647) (hB : wholeB r = true) :
    Calls Tryd.prog 4 #[.int .i32 r] w fun e w' => e = .returned (.bool true) ∧ Below w.heap.size w w' := by
  obtain ⟨hm, hx1⟩ := whole_mem r hB
  obtain ⟨f1, f2, f3, f4, f5, f6, f7⟩ := tab_facts _ hm
  have hs : splitZ r = [(wholeX r).2.1, (wholeX r).2.2] := by unfold splitZ; rw [if_pos hB]
  have hi : isZ r = true := by unfold isZ; simp [hB]
  generalize wholeX r = x at *
  obtain ⟨sg, le, ma⟩ := x
  simp only at hx1
  subst hx1
  simp only at f1 f2 f3 f4 f5 f6 f7 hs
  have b97 := b97
  have c97 := c97
  have hS1 := split_calls 233 w hT
  rw [s233] at hS1
  have hS2 := fun wx hx => split_calls sg wx hx
  rw [hs] at hS2
  have hsz := hT.size
  go_enter Tryd.func4, Tryd.ntmps4
  go_wp2_with (first | (go_at_call 14; refine (base_calls _ _).mono ?_; rintro e wx ⟨rfl, hwx⟩; have hwx := hwx.symm; subst hwx) | (go_at_call 15; refine (class_calls _ _).mono ?_; rintro e wx ⟨rfl, hwx⟩; have hwx := hwx.symm; subst hwx))
  refine hS1.mono ?_
  rintro e w1 ⟨b1, rfl, hb1, -, -, -⟩
  go_wp2_with fail
  refine (hS2 w1 (hT.later hb1 hsz)).mono ?_
  rintro e w2 ⟨b2, rfl, hb2, hb2a, hb2b, hb2c⟩
  have hc0 : w2.cell? ⟨b2, 0, none⟩ = some (.int .i32 le) := by rw [cell_of_row _ _ _ _ _ _ hb2c]; rfl
  have hc1 : w2.cell? ⟨b2, 1, none⟩ = some (.int .i32 ma) := by rw [cell_of_row _ _ _ _ _ _ hb2c]; rfl
  have hb12 : Below w.heap.size w w2 := hb1.trans (hb2.mono hb1.size)
  have hT2 : HasTab w2 := hT.later hb12 hsz
  have hI := is_calls sg w2 hT2
  rw [hi] at hI
  clear hS1 hS2 hb2c hb2 hb1 hT hb2a hb2b
  go_wp2_with (first | (go_at_call 14; refine (base_calls _ _).mono ?_; rintro e wx ⟨rfl, hwx⟩; have hwx := hwx.symm; subst hwx) | (go_at_call 15; refine (class_calls _ _).mono ?_; rintro e wx ⟨rfl, hwx⟩; have hwx := hwx.symm; subst hwx) | (go_at_call 17; refine hI.mono ?_; rintro e w3 ⟨rfl, hb3⟩) | (go_at_call 18; refine (fold_calls _ _ h0 h1).mono ?_; rintro e wx ⟨rfl, hwx⟩; have hwx := hwx.symm; subst hwx))
  go_ret
  exact ⟨rfl, hb12.trans (hb3.mono hb12.size)⟩

set_option maxRecDepth 100000 in
theorem topSigns_miss_a (r : Int) (w : World) (hT : HasTab w) (h0 : -2147483648 ≤ r) (h1 : r ≤ 2147483647) (hs : splitZ r = [r]) (hbr : baseZ r = true) (hcr : classZ r = 0) (hi : isZ r = true) :
    Calls Tryd.prog 4 #[.int .i32 r] w fun e w' => e = .returned (.bool true) ∧ Below w.heap.size w w' := by
  have b97 := b97
  have c97 := c97
  have hS1 := split_calls 233 w hT
  rw [s233] at hS1
  have hS2 := fun wx hx => split_calls r wx hx
  rw [hs] at hS2
  have hsz := hT.size
  have hF := fun wx => fold_calls r wx h0 h1
  obtain ⟨g0, g1⟩ := fold_range r h0 h1
  have hff := fold_fold r
  have hbf := base_fold r
  have hcf := class_fold r
  rw [hbr] at hbf
  rw [hcr] at hcf
  generalize foldZ r = f at hF g0 g1 hff hbf hcf
  have hG := fun wx => fold_calls f wx g0 g1
  rw [hff] at hG
  clear hff
  go_enter Tryd.func4, Tryd.ntmps4
  go_wp2_with (first | (go_at_call 14; refine (base_calls _ _).mono ?_; rintro e wx ⟨rfl, hwx⟩; have hwx := hwx.symm; subst hwx) | (go_at_call 15; refine (class_calls _ _).mono ?_; rintro e wx ⟨rfl, hwx⟩; have hwx := hwx.symm; subst hwx))
  refine hS1.mono ?_
  rintro e w1 ⟨b1, rfl, hb1, -, -, -⟩
  go_wp2_with fail
  refine (hS2 w1 (hT.later hb1 hsz)).mono ?_
  rintro e w2 ⟨b2, rfl, hb2, hb2a, hb2b, hb2c⟩
  have hc0 : w2.cell? ⟨b2, 0, none⟩ = some (.int .i32 r) := by rw [cell_of_row _ _ _ _ _ _ hb2c]; rfl
  have hb12 : Below w.heap.size w w2 := hb1.trans (hb2.mono hb1.size)
  have hT2 : HasTab w2 := hT.later hb12 hsz
  have hI := is_calls r w2 hT2
  rw [hi] at hI
  clear hS1 hS2 hb2c hb2 hb1 hT hb2a hb2b
  go_wp2_with (first | (go_at_call 14; refine (base_calls _ _).mono ?_; rintro e wx ⟨rfl, hwx⟩; have hwx := hwx.symm; subst hwx) | (go_at_call 15; refine (class_calls _ _).mono ?_; rintro e wx ⟨rfl, hwx⟩; have hwx := hwx.symm; subst hwx))
  refine (hF w2).mono ?_
  rintro e wx ⟨rfl, hwx⟩
  have hwx := hwx.symm
  subst hwx
  go_wp2_with fail
  refine (hG w2).mono ?_
  rintro e wx ⟨rfl, hwx⟩
  have hwx := hwx.symm
  subst hwx
  go_wp2_with (first | (go_at_call 14; refine (base_calls _ _).mono ?_; rintro e wx ⟨rfl, hwx⟩; have hwx := hwx.symm; subst hwx) | (go_at_call 15; refine (class_calls _ _).mono ?_; rintro e wx ⟨rfl, hwx⟩; have hwx := hwx.symm; subst hwx) | (go_at_call 17; refine hI.mono ?_; rintro e w3 ⟨rfl, hb3⟩))
  go_ret
  exact ⟨rfl, hb12.trans (hb3.mono hb12.size)⟩

set_option maxRecDepth 100000 in
theorem topSigns_miss_b (r : Int) (w : World) (hT : HasTab w) (h0 : -2147483648 ≤ r) (h1 : r ≤ 2147483647) (hs : splitZ r = [r]) (hbr : baseZ r = false) (hcr : classZ r = 0) (hi : isZ r = false) :
    Calls Tryd.prog 4 #[.int .i32 r] w fun e w' => e = .returned (.bool true) ∧ Below w.heap.size w w' := by
  have b97 := b97
  have c97 := c97
  have hS1 := split_calls 233 w hT
  rw [s233] at hS1
  have hS2 := fun wx hx => split_calls r wx hx
  rw [hs] at hS2
  have hsz := hT.size
  have hF := fun wx => fold_calls r wx h0 h1
  obtain ⟨g0, g1⟩ := fold_range r h0 h1
  have hff := fold_fold r
  have hbf := base_fold r
  have hcf := class_fold r
  rw [hbr] at hbf
  rw [hcr] at hcf
  generalize foldZ r = f at hF g0 g1 hff hbf hcf
  have hG := fun wx => fold_calls f wx g0 g1
  rw [hff] at hG
  clear hff
  go_enter Tryd.func4, Tryd.ntmps4
  go_wp2_with (first | (go_at_call 14; refine (base_calls _ _).mono ?_; rintro e wx ⟨rfl, hwx⟩; have hwx := hwx.symm; subst hwx) | (go_at_call 15; refine (class_calls _ _).mono ?_; rintro e wx ⟨rfl, hwx⟩; have hwx := hwx.symm; subst hwx))
  refine hS1.mono ?_
  rintro e w1 ⟨b1, rfl, hb1, -, -, -⟩
  go_wp2_with fail
  refine (hS2 w1 (hT.later hb1 hsz)).mono ?_
  rintro e w2 ⟨b2, rfl, hb2, hb2a, hb2b, hb2c⟩
  have hc0 : w2.cell? ⟨b2, 0, none⟩ = some (.int .i32 r) := by rw [cell_of_row _ _ _ _ _ _ hb2c]; rfl
  have hb12 : Below w.heap.size w w2 := hb1.trans (hb2.mono hb1.size)
  have hT2 : HasTab w2 := hT.later hb12 hsz
  have hI := is_calls r w2 hT2
  rw [hi] at hI
  clear hS1 hS2 hb2c hb2 hb1 hT hb2a hb2b
  go_wp2_with (first | (go_at_call 14; refine (base_calls _ _).mono ?_; rintro e wx ⟨rfl, hwx⟩; have hwx := hwx.symm; subst hwx) | (go_at_call 15; refine (class_calls _ _).mono ?_; rintro e wx ⟨rfl, hwx⟩; have hwx := hwx.symm; subst hwx))
  refine (hF w2).mono ?_
  rintro e wx ⟨rfl, hwx⟩
  have hwx := hwx.symm
  subst hwx
  go_wp2_with fail
  refine (hG w2).mono ?_
  rintro e wx ⟨rfl, hwx⟩
  have hwx := hwx.symm
  subst hwx
  go_wp2_with (first | (go_at_call 14; refine (base_calls _ _).mono ?_; rintro e wx ⟨rfl, hwx⟩; have hwx := hwx.symm; subst hwx) | (go_at_call 15; refine (class_calls _ _).mono ?_; rintro e wx ⟨rfl, hwx⟩; have hwx := hwx.symm; subst hwx) | (go_at_call 17; refine hI.mono ?_; rintro e w3 ⟨rfl, hb3⟩))
  go_ret
  exact ⟨rfl, hb12.trans (hb3.mono hb12.size)⟩

set_option maxRecDepth 100000 in
theorem topSigns_miss_c (r : Int) (w : World) (hT : HasTab w) (h0 : -2147483648 ≤ r) (h1 : r ≤ 2147483647) (hs : splitZ r = [r]) (hbr : baseZ r = false) (hcr : classZ r = 202) (hi : isZ r = true) :
    Calls Tryd.prog 4 #[.int .i32 r] w fun e w' => e = .returned (.bool true) ∧ Below w.heap.size w w' := by
  have b97 := b97
  have c97 := c97
  have hS1 := split_calls 233 w hT
  rw [s233] at hS1
  have hS2 := fun wx hx => split_calls r wx hx
  rw [hs] at hS2
  have hsz := hT.size
  have hF := fun wx => fold_calls r wx h0 h1
  obtain ⟨g0, g1⟩ := fold_range r h0 h1
  have hff := fold_fold r
  have hbf := base_fold r
  have hcf := class_fold r
  rw [hbr] at hbf
  rw [hcr] at hcf
  generalize foldZ r = f at hF g0 g1 hff hbf hcf
  have hG := fun wx => fold_calls f wx g0 g1
  rw [hff] at hG
  clear hff
  go_enter Tryd.func4, Tryd.ntmps4
  go_wp2_with (first | (go_at_call 14; refine (base_calls _ _).mono ?_; rintro e wx ⟨rfl, hwx⟩; have hwx := hwx.symm; subst hwx) | (go_at_call 15; refine (class_calls _ _).mono ?_; rintro e wx ⟨rfl, hwx⟩; have hwx := hwx.symm; subst hwx))
  refine hS1.mono ?_
  rintro e w1 ⟨b1, rfl, hb1, -, -, -⟩
  go_wp2_with fail
  refine (hS2 w1 (hT.later hb1 hsz)).mono ?_
  rintro e w2 ⟨b2, rfl, hb2, hb2a, hb2b, hb2c⟩
  have hc0 : w2.cell? ⟨b2, 0, none⟩ = some (.int .i32 r) := by rw [cell_of_row _ _ _ _ _ _ hb2c]; rfl
  have hb12 : Below w.heap.size w w2 := hb1.trans (hb2.mono hb1.size)
  have hT2 : HasTab w2 := hT.later hb12 hsz
  have hI := is_calls r w2 hT2
  rw [hi] at hI
  clear hS1 hS2 hb2c hb2 hb1 hT hb2a hb2b
  go_wp2_with (first | (go_at_call 14; refine (base_calls _ _).mono ?_; rintro e wx ⟨rfl, hwx⟩; have hwx := hwx.symm; subst hwx) | (go_at_call 15; refine (class_calls _ _).mono ?_; rintro e wx ⟨rfl, hwx⟩; have hwx := hwx.symm; subst hwx))
  refine (hF w2).mono ?_
  rintro e wx ⟨rfl, hwx⟩
  have hwx := hwx.symm
  subst hwx
  go_wp2_with fail
  refine (hG w2).mono ?_
  rintro e wx ⟨rfl, hwx⟩
  have hwx := hwx.symm
  subst hwx
  go_wp2_with (first | (go_at_call 14; refine (base_calls _ _).mono ?_; rintro e wx ⟨rfl, hwx⟩; have hwx := hwx.symm; subst hwx) | (go_at_call 15; refine (class_calls _ _).mono ?_; rintro e wx ⟨rfl, hwx⟩; have hwx := hwx.symm; subst hwx) | (go_at_call 17; refine hI.mono ?_; rintro e w3 ⟨rfl, hb3⟩))
  go_ret
  exact ⟨rfl, hb12.trans (hb3.mono hb12.size)⟩

set_option maxRecDepth 100000 in
theorem topSigns_miss_d (r : Int) (w : World) (hT : HasTab w) (h0 : -2147483648 ≤ r) (h1 : r ≤ 2147483647) (hs : splitZ r = [r]) (hbr : baseZ r = false) (hcr : classZ r = 230) (hi : isZ r = true) :
    Calls Tryd.prog 4 #[.int .i32 r] w fun e w' => e = .returned (.bool true) ∧ Below w.heap.size w w' := by
  have b97 := b97
  have c97 := c97
  have hS1 := split_calls 233 w hT
  rw [s233] at hS1
  have hS2 := fun wx hx => split_calls r wx hx
  rw [hs] at hS2
  have hsz := hT.size
  have hF := fun wx => fold_calls r wx h0 h1
  obtain ⟨g0, g1⟩ := fold_range r h0 h1
  have hff := fold_fold r
  have hbf := base_fold r
  have hcf := class_fold r
  rw [hbr] at hbf
  rw [hcr] at hcf
  generalize foldZ r = f at hF g0 g1 hff hbf hcf
  have hG := fun wx => fold_calls f wx g0 g1
  rw [hff] at hG
  clear hff
  go_enter Tryd.func4, Tryd.ntmps4
  go_wp2_with (first | (go_at_call 14; refine (base_calls _ _).mono ?_; rintro e wx ⟨rfl, hwx⟩; have hwx := hwx.symm; subst hwx) | (go_at_call 15; refine (class_calls _ _).mono ?_; rintro e wx ⟨rfl, hwx⟩; have hwx := hwx.symm; subst hwx))
  refine hS1.mono ?_
  rintro e w1 ⟨b1, rfl, hb1, -, -, -⟩
  go_wp2_with fail
  refine (hS2 w1 (hT.later hb1 hsz)).mono ?_
  rintro e w2 ⟨b2, rfl, hb2, hb2a, hb2b, hb2c⟩
  have hc0 : w2.cell? ⟨b2, 0, none⟩ = some (.int .i32 r) := by rw [cell_of_row _ _ _ _ _ _ hb2c]; rfl
  have hb12 : Below w.heap.size w w2 := hb1.trans (hb2.mono hb1.size)
  have hT2 : HasTab w2 := hT.later hb12 hsz
  have hI := is_calls r w2 hT2
  rw [hi] at hI
  clear hS1 hS2 hb2c hb2 hb1 hT hb2a hb2b
  go_wp2_with (first | (go_at_call 14; refine (base_calls _ _).mono ?_; rintro e wx ⟨rfl, hwx⟩; have hwx := hwx.symm; subst hwx) | (go_at_call 15; refine (class_calls _ _).mono ?_; rintro e wx ⟨rfl, hwx⟩; have hwx := hwx.symm; subst hwx))
  refine (hF w2).mono ?_
  rintro e wx ⟨rfl, hwx⟩
  have hwx := hwx.symm
  subst hwx
  go_wp2_with fail
  refine (hG w2).mono ?_
  rintro e wx ⟨rfl, hwx⟩
  have hwx := hwx.symm
  subst hwx
  go_wp2_with (first | (go_at_call 14; refine (base_calls _ _).mono ?_; rintro e wx ⟨rfl, hwx⟩; have hwx := hwx.symm; subst hwx) | (go_at_call 15; refine (class_calls _ _).mono ?_; rintro e wx ⟨rfl, hwx⟩; have hwx := hwx.symm; subst hwx) | (go_at_call 17; refine hI.mono ?_; rintro e w3 ⟨rfl, hb3⟩))
  go_ret
  exact ⟨rfl, hb12.trans (hb3.mono hb12.size)⟩

theorem class_vals (r : Int) : classZ r = 0 ∨ classZ r = 202 ∨ classZ r = 230 := by
  unfold classZ
  split
  · omega
  · split <;> omega

/-- THE WALK: for every sign. -/
theorem topSigns_walk (r : Int) (w : World) (hT : HasTab w) (h0 : -2147483648 ≤ r) (h1 : r ≤ 2147483647) :
    Calls Tryd.prog 4 #[.int .i32 r] w fun e w' => e = .returned (.bool true) ∧ Below w.heap.size w w' := by
  cases hB : wholeB r with
  | true => exact topSigns_hit r w hT h0 h1 hB
  | false =>
    have hs : splitZ r = [r] := by unfold splitZ; rw [hB]; rfl
    cases hb : baseZ r with
    | true =>
      have hc := base_class r hb
      exact topSigns_miss_a r w hT h0 h1 hs hb hc (by unfold isZ; rw [hB, hb, hc]; rfl)
    | false =>
      rcases class_vals r with hc | hc | hc
      · exact topSigns_miss_b r w hT h0 h1 hs hb hc (by unfold isZ; rw [hB, hb, hc]; rfl)
      · exact topSigns_miss_c r w hT h0 h1 hs hb hc (by unfold isZ; rw [hB, hb, hc]; rfl)
      · exact topSigns_miss_d r w hT h0 h1 hs hb hc (by unfold isZ; rw [hB, hb, hc]; rfl)
end Go.Proofs.YtdflokjpgbeniaaDoor
