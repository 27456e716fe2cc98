/-
  What stands between the signs '/' of a text, as lists. Plain facts; no Go text. The contracts of slices.swapRangeCmpFunc, rotateCmpFunc and symMergeCmpFunc at marks, over the seat's program. Rows of marks in the order of their classes, and how two of them become one. Plain facts. The contract of slices.symMergeCmpFunc at marks, over the seat's program: two rows in order become one, those of one class as they stood.
-/
import Derived.Lib.SplitLaws
import Derived.Lib.IndexBytes
import Derived.Test.YtjpmomklkkifjaaGreatDoorCSignsWalk
import Derived.Deep.QuietTactic
import Derived.BigQuiet
import Derived.BigRegion
import Derived.Test.YtjpmomklkkifjaaGreatDoorCRune
namespace Go.Proofs.YtjpmomklkkifjaaGreatDoor.T
set_option maxRecDepth 100000

def cutS : List UInt8 → List (List UInt8)
  | [] => [[]]
  | c :: l => if c = 47 then [] :: cutS l else match cutS l with | [] => [[c]] | a :: t => (c :: a) :: t

theorem splitK_ne {c : UInt8} (h : c ≠ 47) : ∀ (k : Nat) (l : List UInt8), ∃ a t, Lib.splitK [47] 0 k l = a :: t ∧ Lib.splitK [47] 0 k (c :: l) = (c :: a) :: t
  | 0, l => ⟨l, [], rfl, rfl⟩
  | k + 1, l => by
    have hi : Lib.index (c :: l) [47] = if Lib.index l [47] == -1 then -1 else Lib.index l [47] + 1 := by
      rw [Lib.index_one, Lib.index_one]
      have e : (c == 47) = false := by simpa using h
      rw [Lib.indexByte, e]
      rfl
    have hg := Lib.index_ge l [47]
    by_cases hm : Lib.index l [47] = -1
    · refine ⟨l, [], ?_, ?_⟩
      · unfold Lib.splitK; rw [if_pos (by simp [hm])]
      · unfold Lib.splitK; rw [if_pos (by rw [hi]; simp [hm])]
    · have hm' : ¬ (Lib.index l [47] == -1) = true := by simpa using hm
      refine ⟨l.take ((Lib.index l [47]).toNat + 0), Lib.splitK [47] 0 k (l.drop ((Lib.index l [47]).toNat + 1)), ?_, ?_⟩
      · rw [Lib.splitK, if_neg hm']; rfl
      · rw [Lib.splitK, hi, if_neg hm', if_neg (by simp; omega)]
        have : (Lib.index l [47] + 1).toNat = (Lib.index l [47]).toNat + 1 := by omega
        rw [this]
        rfl
theorem splitK_eq (k : Nat) (l : List UInt8) : Lib.splitK [47] 0 (k + 1) (47 :: l) = [] :: Lib.splitK [47] 0 k l := by
  have hi : Lib.index (47 :: l) [47] = 0 := by rw [Lib.index_one]; rfl
  rw [Lib.splitK, hi, if_neg (by decide)]
  rfl
theorem splitK_cut : ∀ l : List UInt8, Lib.splitK [47] 0 (l.count 47) l = cutS l
  | [] => rfl
  | c :: l => by
    have ih := splitK_cut l
    by_cases h : c = 47
    · subst h
      rw [List.count_cons_self, splitK_eq, ih]
      simp [cutS]
    · rw [List.count_cons_of_ne h]
      obtain ⟨a, t, h1, h2⟩ := splitK_ne h (l.count 47) l
      rw [h2]
      unfold cutS
      rw [if_neg h, ← ih, h1]
theorem cutS_none : ∀ {l : List UInt8}, (47 : UInt8) ∉ l → cutS l = [l]
  | [], _ => rfl
  | c :: l, h => by
    have h1 : c ≠ 47 := fun e => h (by simp [e])
    unfold cutS
    rw [if_neg h1, cutS_none fun e => h (by simp [e])]
def joinP {α : Type} (x : α) : List (List α) → List α
  | [] => []
  | [a] => a
  | a :: b :: t => a ++ x :: joinP x (b :: t)
end Go.Proofs.YtjpmomklkkifjaaGreatDoor.T
namespace Go.Proofs.YtjpmomklkkifjaaGreatDoor
open Go.RowKit Go.Sort
set_option maxRecDepth 100000

structure RowAt (w0 : World) (g : Nat) (tail : List Value) (zs : List Int) (w : World) : Prop where
  blk : w.heap[g]? = some (.cells (zs.map (Value.int .i32) ++ tail).toArray 21 (0, 0))
  grow : w0.grownBy w (some g)

theorem RowAt.cell {w0 w : World} {g : Nat} {tail : List Value} {zs : List Int} (h : RowAt w0 g tail zs w) {k : Nat} {z : Int} (hz : zs[k]? = some z) : w.cell? ⟨g, k, none⟩ = some (.int .i32 z) := by
  have hk : k < zs.length := (List.getElem?_eq_some_iff.1 hz).1
  rw [cell_of_row _ _ _ _ _ _ h.blk]
  simp only [List.getElem?_toArray]
  rw [List.getElem?_append_left (by simpa using hk), List.getElem?_map, hz]
  rfl
theorem RowAt.frozen {w0 w : World} {g : Nat} {tail : List Value} {zs : List Int} (h : RowAt w0 g tail zs w) (k : Nat) : w.frozen? ⟨g, k, none⟩ = false := frozen_of_row _ _ _ _ _ h.blk
theorem RowAt.set {w0 w : World} {g : Nat} {tail : List Value} {zs : List Int} (h : RowAt w0 g tail zs w) {k : Nat} (hk : k < zs.length) (z : Int) : RowAt w0 g tail (zs.set k z) (w.setCell ⟨g, k, none⟩ (.int .i32 z)) where
  blk := by
    rw [heap_setCell_same w g k _ 21 _ h.blk]
    simp only [List.setIfInBounds_toArray, Option.some.injEq, Obj.cells.injEq, and_true]
    rw [List.set_append_left _ _ (by simpa using hk), List.map_set]
  grow := by
    have h1 := h.grow
    refine ⟨h1.os, h1.tape, h1.output, by rw [World.size_setCell]; exact h1.size, fun j hj hne => ?_⟩
    rw [heap_setCell_other _ _ _ _ (by intro e; exact hne (by rw [e]))]
    exact h1.block j hj hne
theorem RowAt.drew {w0 w : World} {g : Nat} {tail : List Value} {zs : List Int} (h : RowAt w0 g tail zs w) (n : Nat) : RowAt w0 g tail zs (w.drewN n) := ⟨h.blk, ⟨h.grow.os, h.grow.tape, h.grow.output, h.grow.size, h.grow.block⟩⟩

end Go.Proofs.YtjpmomklkkifjaaGreatDoor
namespace Go.Proofs.YtjpmomklkkifjaaGreatDoor
set_option maxRecDepth 100000

def lowM (l : List Int) : List Int := l.filter (fun r => classZ r == 202)
def highM (l : List Int) : List Int := l.filter (fun r => !(classZ r == 202))
theorem sortM_low_high (l : List Int) : sortM l = lowM l ++ highM l := rfl
theorem lowM_append (a b : List Int) : lowM (a ++ b) = lowM a ++ lowM b := by simp [lowM]
theorem highM_append (a b : List Int) : highM (a ++ b) = highM a ++ highM b := by simp [highM]

structure Srt (l : List Int) : Prop where
  marks : ∀ x ∈ l, Mark x
  cut : ∀ A B, l = A ++ B → highM A = [] ∨ lowM B = []

theorem Srt.left {A B : List Int} (h : Srt (A ++ B)) : Srt A :=
  ⟨fun x hx => h.marks x (by simp [hx]), fun A1 B1 e => by
    rcases h.cut A1 (B1 ++ B) (by rw [e]; simp) with h1 | h1
    · exact .inl h1
    · rw [lowM_append] at h1
      exact .inr (List.append_eq_nil_iff.1 h1).1⟩
theorem Srt.right {A B : List Int} (h : Srt (A ++ B)) : Srt B :=
  ⟨fun x hx => h.marks x (by simp [hx]), fun A1 B1 e => by
    rcases h.cut (A ++ A1) B1 (by rw [e]; simp) with h1 | h1
    · rw [highM_append] at h1
      exact .inl (List.append_eq_nil_iff.1 h1).2
    · exact .inr h1⟩
theorem lowM_one {x : Int} (h : classZ x = 202) : lowM [x] = [x] ∧ highM [x] = [] := by simp [lowM, highM, h]
theorem highM_one {x : Int} (h : classZ x = 230) : lowM [x] = [] ∧ highM [x] = [x] := by simp [lowM, highM, h]
theorem Srt.last {A : List Int} {x : Int} (h : Srt (A ++ [x])) (hx : classZ x = 202) : highM (A ++ [x]) = [] := by
  rcases h.cut A [x] rfl with h1 | h1
  · rw [highM_append, h1, (lowM_one hx).2]
    rfl
  · rw [(lowM_one hx).1] at h1
    cases h1
theorem Srt.first {B : List Int} {x : Int} (h : Srt (x :: B)) (hx : classZ x = 230) : lowM (x :: B) = [] := by
  have e : x :: B = [x] ++ B := rfl
  rcases h.cut [x] B rfl with h1 | h1
  · rw [(highM_one hx).2] at h1
    cases h1
  · rw [e, lowM_append, h1, (highM_one hx).1]
    rfl
theorem Srt.self : ∀ {l : List Int}, Srt l → sortM l = l
  | [], _ => rfl
  | x :: t, h => by
    rcases h.marks x (by simp) with hx | hx
    · have ht := Srt.self (Srt.right (A := [x]) (B := t) h)
      rw [sortM_low_high] at ht ⊢
      have e : x :: t = [x] ++ t := rfl
      rw [e, lowM_append, highM_append, (lowM_one hx).1, (lowM_one hx).2, List.nil_append, List.append_assoc, ht]
    · have h1 := h.first hx
      rw [sortM_low_high, h1, List.nil_append]
      refine List.filter_eq_self.2 (fun y hy => ?_)
      have := List.filter_eq_nil_iff.1 h1 y hy
      simpa using this
end Go.Proofs.YtjpmomklkkifjaaGreatDoor
namespace Go.Proofs.YtjpmomklkkifjaaGreatDoor
open Go.RowKit Go.Sort
set_option maxRecDepth 100000

end Go.Proofs.YtjpmomklkkifjaaGreatDoor
