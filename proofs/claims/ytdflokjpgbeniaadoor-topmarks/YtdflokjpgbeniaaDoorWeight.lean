/-
  The contracts of key.elementWeight and key.markWeight, over the seat's program.
-/
import Derived.Test.YtdflokjpgbeniaaDoorIndex
namespace Go.Proofs.YtdflokjpgbeniaaDoor
open Go.RowKit

/-- Where an element stands among the others; below 0: it is none. -/
def idxE (r : Int) : Int := if r = 963 then 41 else if r < 128 then Lib.indexByte orderB.data.toList r.toNat.toUInt8 else -1
/-- The weight of an element; 0: it is none. -/
def weightE (r : Int) : Int := if idxE r < 0 then 0 else 2 + idxE r
/-- The weight of a mark; 0: it is none. -/
def weightM (r : Int) : Int := if r = 807 then 2 else if r = 768 then 3 else if r = 769 then 4 else if r = 776 then 5 else 0

/-- A sign that stands in a folded text. -/
def Elem (r : Int) : Prop := (0 ≤ r ∧ r < 128) ∨ r = 963 ∨ Mark r

theorem mark_four {r : Int} (h : Mark r) : r = 768 ∨ r = 769 ∨ r = 776 ∨ r = 807 := by
  unfold Mark classZ at h
  by_cases h1 : r = 768 ∨ r = 769 ∨ r = 776
  · omega
  · rw [if_neg h1] at h
    by_cases h2 : r = 807
    · omega
    · rw [if_neg h2] at h
      omega

theorem indexRune_calls (r : Int) (h : Elem r) (w : World) :
    Calls Tryd.prog 57 #[.string orderB, .int .i32 r] w fun e w' => e = .returned (.int .i64 (idxE r)) ∧ Below w.heap.size w w' := by
  rcases h with ⟨h0, h1⟩ | rfl | hm
  · have e : idxE r = Lib.indexByte orderB.data.toList r.toNat.toUInt8 := by
      unfold idxE
      rw [if_neg (by omega), if_pos h1]
    rw [e]
    exact (Tryd.strings_IndexRune_ascii orderB r w h0 h1).mono fun e w' ⟨he, hw⟩ => ⟨he, by rw [hw]; exact Below.refl _ _⟩
  · exact index_963 w
  · rcases mark_four hm with rfl | rfl | rfl | rfl
    · exact index_768 w
    · exact index_769 w
    · exact index_776 w
    · exact index_807 w

theorem indexByte_lt (c : UInt8) : ∀ l : List UInt8, Lib.indexByte l c < l.length
  | [] => by simp [Lib.indexByte]
  | b :: l => by
    have h1 := indexByte_lt c l
    have h2 := Lib.indexByte_ge l c
    unfold Lib.indexByte
    simp only [List.length_cons]
    repeat' split
    all_goals omega
theorem idxE_range (r : Int) : -1 ≤ idxE r ∧ idxE r ≤ 42 := by
  unfold idxE
  split
  · omega
  · split
    · have h1 := indexByte_lt r.toNat.toUInt8 orderB.data.toList
      have h2 := Lib.indexByte_ge orderB.data.toList r.toNat.toUInt8
      have h3 : orderB.data.toList.length = 43 := rfl
      omega
    · omega

set_option maxRecDepth 100000 in
theorem elementWeight_calls (r : Int) (h : Elem r) (w : World) :
    Calls Tryd.prog 38 #[.int .i32 r] w fun e w' => e = .returned (.int .u8 (weightE r)) ∧ Below w.heap.size w w' := by
  have hI := indexRune_calls r h w
  have hr := idxE_range r
  unfold weightE
  generalize idxE r = i at *
  by_cases hi : i < 0
  · rw [if_pos hi]
    go_enter Tryd.func38, Tryd.ntmps38
    go_wp2_with fail
    refine hI.mono ?_
    rintro e w1 ⟨rfl, hb1⟩
    go_wp2
    go_ret
    exact ⟨rfl, hb1⟩
  · rw [if_neg hi]
    have hi0 : 0 ≤ i := by omega
    have hi1 : i ≤ 42 := hr.2
    go_enter Tryd.func38, Tryd.ntmps38
    go_wp2_with fail
    refine hI.mono ?_
    rintro e w1 ⟨rfl, hb1⟩
    go_wp2
    go_ret
    exact ⟨rfl, hb1⟩

theorem markWeight_calls (r : Int) (w : World) : Calls Tryd.prog 39 #[.int .i32 r] w fun e w' => e = .returned (.int .u8 (weightM r)) ∧ w' = w := by
  go_enter Tryd.func39, Tryd.ntmps39
  go_wp2
  all_goals go_ret
  all_goals (refine ⟨?_, rfl⟩; simp_all [weightM])
end Go.Proofs.YtdflokjpgbeniaaDoor
