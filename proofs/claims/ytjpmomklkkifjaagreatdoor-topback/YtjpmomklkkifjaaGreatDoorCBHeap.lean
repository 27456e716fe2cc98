/-
  Go's slices.SortFunc lies in the program, at nodes and at changes. Entries in their order: rows between rows, put, taken away. Plain facts. How a tree lies in memory: which blocks are its own, what is kept where only its own blocks are written. Plain facts.
-/
import Derived.Test.YtjpmomklkkifjaaGreatDoorProg
import Derived.Shelf.SlSortCmp.NoneTotal
import Derived.Lib.Bytealg
import Derived.Below
import Derived.Maps.AppendAt
import Derived.Deep.Draws
namespace Go.Proofs.YtjpmomklkkifjaaGreatDoor.T
open Go.RowKit Go.Shelf
set_option maxRecDepth 100000

def sortRenN : Go.Shelf.Ren := ⟨fun | 6 => 41 | 14 => 82 | 15 => 83 | 20 => 121 | 21 => 122 | 22 => 123 | 23 => 124 | 24 => 125 | 25 => 126 | 26 => 127 | 27 => 128 | 28 => 129 | 29 => 130 | 46 => 170 | 47 => 171 | 48 => 172 | 49 => 173 | 50 => 174 | 57 => 206 | n => n, fun | 0 => 0 | 3 => 3 | 4 => 4 | 5 => 5 | 9 => 9 | 22 => 27 | 24 => 33 | 25 => 83 | 39 => 126 | 45 => 174 | 46 => 175 | 50 => 179 | 53 => 182 | 55 => 62 | 66 => 215 | 70 => 219 | 76 => 245 | 77 => 246 | n => n, fun | n => n⟩
theorem sortLaysN : SlLaysF0.n6 Tryz.prog sortRenN := {
  mixed := by kernel_rfl
  f6 := ⟨"slices.SortFunc[[]jobcase/api.Node,jobcase/api.Node]", by kernel_rfl, Tryz.func41.trans (congrArg some (by kernel_rfl))⟩
  f14 := ⟨"slices.pdqsortCmpFunc[jobcase/api.Node]", by kernel_rfl, Tryz.func82.trans (congrArg some (by kernel_rfl))⟩
  f15 := Tryz.func83.trans (congrArg some (by kernel_rfl))
  f20 := ⟨"slices.insertionSortCmpFunc[jobcase/api.Node]", by kernel_rfl, Tryz.func121.trans (congrArg some (by kernel_rfl))⟩
  f21 := ⟨"slices.heapSortCmpFunc[jobcase/api.Node]", by kernel_rfl, Tryz.func122.trans (congrArg some (by kernel_rfl))⟩
  f22 := ⟨"slices.breakPatternsCmpFunc[jobcase/api.Node]", by kernel_rfl, Tryz.func123.trans (congrArg some (by kernel_rfl))⟩
  f23 := ⟨"slices.choosePivotCmpFunc[jobcase/api.Node]", by kernel_rfl, Tryz.func124.trans (congrArg some (by kernel_rfl))⟩
  f24 := ⟨"slices.reverseRangeCmpFunc[jobcase/api.Node]", by kernel_rfl, Tryz.func125.trans (congrArg some (by kernel_rfl))⟩
  f25 := ⟨"slices.partialInsertionSortCmpFunc[jobcase/api.Node]", by kernel_rfl, Tryz.func126.trans (congrArg some (by kernel_rfl))⟩
  f26 := ⟨"slices.partitionEqualCmpFunc[jobcase/api.Node]", by kernel_rfl, Tryz.func127.trans (congrArg some (by kernel_rfl))⟩
  f27 := ⟨"slices.partitionCmpFunc[jobcase/api.Node]", by kernel_rfl, Tryz.func128.trans (congrArg some (by kernel_rfl))⟩
  f28 := Tryz.func129.trans (congrArg some (by kernel_rfl))
  f29 := Tryz.func130.trans (congrArg some (by kernel_rfl))
  f46 := ⟨"slices.siftDownCmpFunc[jobcase/api.Node]", by kernel_rfl, Tryz.func170.trans (congrArg some (by kernel_rfl))⟩
  f47 := Tryz.func171.trans (congrArg some (by kernel_rfl))
  f48 := Tryz.func172.trans (congrArg some (by kernel_rfl))
  f49 := ⟨"slices.medianAdjacentCmpFunc[jobcase/api.Node]", by kernel_rfl, Tryz.func173.trans (congrArg some (by kernel_rfl))⟩
  f50 := ⟨"slices.medianCmpFunc[jobcase/api.Node]", by kernel_rfl, Tryz.func174.trans (congrArg some (by kernel_rfl))⟩
  f57 := ⟨"slices.order2CmpFunc[jobcase/api.Node]", by kernel_rfl, Tryz.func206.trans (congrArg some (by kernel_rfl))⟩
  t0 := Tryz.underlying0
  a0 := Tryz.isAgg0
  z0 := Tryz.sizeOf0
  v0 := Tryz.zeroValue0
  t3 := Tryz.underlying3
  a3 := Tryz.isAgg3
  z3 := Tryz.sizeOf3
  v3 := Tryz.zeroValue3
  t4 := Tryz.underlying4
  a4 := Tryz.isAgg4
  z4 := Tryz.sizeOf4
  v4 := Tryz.zeroValue4
  t5 := Tryz.underlying5
  a5 := Tryz.isAgg5
  z5 := Tryz.sizeOf5
  v5 := Tryz.zeroValue5
  t9 := Tryz.underlying9
  a9 := Tryz.isAgg9
  z9 := Tryz.sizeOf9
  v9 := Tryz.zeroValue9
  t22 := Tryz.underlying27
  a22 := Tryz.isAgg27
  z22 := Tryz.sizeOf27
  v22 := Tryz.zeroValue27
  t25 := Tryz.underlying83
  a25 := Tryz.isAgg83
  z25 := Tryz.sizeOf83
  v25 := Tryz.zeroValue83
  t39 := Tryz.underlying126
  a39 := Tryz.isAgg126
  z39 := Tryz.sizeOf126
  v39 := Tryz.zeroValue126
  t45 := Tryz.underlying174
  a45 := Tryz.isAgg174
  z45 := Tryz.sizeOf174
  v45 := Tryz.zeroValue174
  t46 := Tryz.underlying175
  a46 := Tryz.isAgg175
  z46 := Tryz.sizeOf175
  v46 := Tryz.zeroValue175
  t50 := Tryz.underlying179
  a50 := Tryz.isAgg179
  z50 := Tryz.sizeOf179
  v50 := Tryz.zeroValue179
  t53 := Tryz.underlying182
  a53 := Tryz.isAgg182
  z53 := Tryz.sizeOf182
  v53 := Tryz.zeroValue182
  t55 := Tryz.underlying62
  a55 := Tryz.isAgg62
  z55 := Tryz.sizeOf62
  v55 := Tryz.zeroValue62
  t66 := Tryz.underlying215
  a66 := Tryz.isAgg215
  z66 := Tryz.sizeOf215
  v66 := Tryz.zeroValue215
  t70 := Tryz.underlying219
  a70 := Tryz.isAgg219
  z70 := Tryz.sizeOf219
  v70 := Tryz.zeroValue219
  t76 := Tryz.underlying245
  a76 := Tryz.isAgg245
  z76 := Tryz.sizeOf245
  v76 := Tryz.zeroValue245
  t77 := Tryz.underlying246
  a77 := Tryz.isAgg246
  z77 := Tryz.sizeOf246
  v77 := Tryz.zeroValue246 }
def sortRenC : Go.Shelf.Ren := ⟨fun | 6 => 71 | 14 => 112 | 15 => 83 | 20 => 158 | 21 => 159 | 22 => 160 | 23 => 161 | 24 => 162 | 25 => 163 | 26 => 164 | 27 => 165 | 28 => 129 | 29 => 130 | 46 => 198 | 47 => 171 | 48 => 172 | 49 => 199 | 50 => 200 | 57 => 222 | n => n, fun | 0 => 0 | 3 => 3 | 4 => 4 | 5 => 5 | 9 => 9 | 22 => 54 | 24 => 69 | 25 => 113 | 39 => 126 | 45 => 174 | 46 => 175 | 50 => 179 | 53 => 182 | 55 => 62 | 66 => 215 | 70 => 219 | 76 => 245 | 77 => 246 | n => n, fun | n => n⟩
theorem sortLaysC : SlLaysF0.n6 Tryz.prog sortRenC := {
  mixed := by kernel_rfl
  f6 := ⟨"slices.SortFunc[[]jobcase/api.Change,jobcase/api.Change]", by kernel_rfl, Tryz.func71.trans (congrArg some (by kernel_rfl))⟩
  f14 := ⟨"slices.pdqsortCmpFunc[jobcase/api.Change]", by kernel_rfl, Tryz.func112.trans (congrArg some (by kernel_rfl))⟩
  f15 := Tryz.func83.trans (congrArg some (by kernel_rfl))
  f20 := ⟨"slices.insertionSortCmpFunc[jobcase/api.Change]", by kernel_rfl, Tryz.func158.trans (congrArg some (by kernel_rfl))⟩
  f21 := ⟨"slices.heapSortCmpFunc[jobcase/api.Change]", by kernel_rfl, Tryz.func159.trans (congrArg some (by kernel_rfl))⟩
  f22 := ⟨"slices.breakPatternsCmpFunc[jobcase/api.Change]", by kernel_rfl, Tryz.func160.trans (congrArg some (by kernel_rfl))⟩
  f23 := ⟨"slices.choosePivotCmpFunc[jobcase/api.Change]", by kernel_rfl, Tryz.func161.trans (congrArg some (by kernel_rfl))⟩
  f24 := ⟨"slices.reverseRangeCmpFunc[jobcase/api.Change]", by kernel_rfl, Tryz.func162.trans (congrArg some (by kernel_rfl))⟩
  f25 := ⟨"slices.partialInsertionSortCmpFunc[jobcase/api.Change]", by kernel_rfl, Tryz.func163.trans (congrArg some (by kernel_rfl))⟩
  f26 := ⟨"slices.partitionEqualCmpFunc[jobcase/api.Change]", by kernel_rfl, Tryz.func164.trans (congrArg some (by kernel_rfl))⟩
  f27 := ⟨"slices.partitionCmpFunc[jobcase/api.Change]", by kernel_rfl, Tryz.func165.trans (congrArg some (by kernel_rfl))⟩
  f28 := Tryz.func129.trans (congrArg some (by kernel_rfl))
  f29 := Tryz.func130.trans (congrArg some (by kernel_rfl))
  f46 := ⟨"slices.siftDownCmpFunc[jobcase/api.Change]", by kernel_rfl, Tryz.func198.trans (congrArg some (by kernel_rfl))⟩
  f47 := Tryz.func171.trans (congrArg some (by kernel_rfl))
  f48 := Tryz.func172.trans (congrArg some (by kernel_rfl))
  f49 := ⟨"slices.medianAdjacentCmpFunc[jobcase/api.Change]", by kernel_rfl, Tryz.func199.trans (congrArg some (by kernel_rfl))⟩
  f50 := ⟨"slices.medianCmpFunc[jobcase/api.Change]", by kernel_rfl, Tryz.func200.trans (congrArg some (by kernel_rfl))⟩
  f57 := ⟨"slices.order2CmpFunc[jobcase/api.Change]", by kernel_rfl, Tryz.func222.trans (congrArg some (by kernel_rfl))⟩
  t0 := Tryz.underlying0
  a0 := Tryz.isAgg0
  z0 := Tryz.sizeOf0
  v0 := Tryz.zeroValue0
  t3 := Tryz.underlying3
  a3 := Tryz.isAgg3
  z3 := Tryz.sizeOf3
  v3 := Tryz.zeroValue3
  t4 := Tryz.underlying4
  a4 := Tryz.isAgg4
  z4 := Tryz.sizeOf4
  v4 := Tryz.zeroValue4
  t5 := Tryz.underlying5
  a5 := Tryz.isAgg5
  z5 := Tryz.sizeOf5
  v5 := Tryz.zeroValue5
  t9 := Tryz.underlying9
  a9 := Tryz.isAgg9
  z9 := Tryz.sizeOf9
  v9 := Tryz.zeroValue9
  t22 := Tryz.underlying54
  a22 := Tryz.isAgg54
  z22 := Tryz.sizeOf54
  v22 := Tryz.zeroValue54
  t25 := Tryz.underlying113
  a25 := Tryz.isAgg113
  z25 := Tryz.sizeOf113
  v25 := Tryz.zeroValue113
  t39 := Tryz.underlying126
  a39 := Tryz.isAgg126
  z39 := Tryz.sizeOf126
  v39 := Tryz.zeroValue126
  t45 := Tryz.underlying174
  a45 := Tryz.isAgg174
  z45 := Tryz.sizeOf174
  v45 := Tryz.zeroValue174
  t46 := Tryz.underlying175
  a46 := Tryz.isAgg175
  z46 := Tryz.sizeOf175
  v46 := Tryz.zeroValue175
  t50 := Tryz.underlying179
  a50 := Tryz.isAgg179
  z50 := Tryz.sizeOf179
  v50 := Tryz.zeroValue179
  t53 := Tryz.underlying182
  a53 := Tryz.isAgg182
  z53 := Tryz.sizeOf182
  v53 := Tryz.zeroValue182
  t55 := Tryz.underlying62
  a55 := Tryz.isAgg62
  z55 := Tryz.sizeOf62
  v55 := Tryz.zeroValue62
  t66 := Tryz.underlying215
  a66 := Tryz.isAgg215
  z66 := Tryz.sizeOf215
  v66 := Tryz.zeroValue215
  t70 := Tryz.underlying219
  a70 := Tryz.isAgg219
  z70 := Tryz.sizeOf219
  v70 := Tryz.zeroValue219
  t76 := Tryz.underlying245
  a76 := Tryz.isAgg245
  z76 := Tryz.sizeOf245
  v76 := Tryz.zeroValue245
  t77 := Tryz.underlying246
  a77 := Tryz.isAgg246
  z77 := Tryz.sizeOf246
  v77 := Tryz.zeroValue246 }
end Go.Proofs.YtjpmomklkkifjaaGreatDoor.T
namespace Go.Proofs.YtjpmomklkkifjaaGreatDoor.T
open Go.Lib
set_option maxRecDepth 100000

theorem cmp_neg : ∀ a b : List UInt8, compareBytes b a = - compareBytes a b
  | [], [] => rfl
  | [], _ :: _ => rfl
  | _ :: _, [] => rfl
  | x :: a, y :: b => by
    unfold compareBytes
    by_cases h1 : x < y
    · have h2 : ¬ y < x := by rw [UInt8.lt_iff_toNat_lt] at *; omega
      rw [if_neg h2, if_pos h1, if_pos h1]
      decide
    · by_cases h2 : y < x
      · rw [if_pos h2, if_neg h1, if_pos h2]
      · rw [if_neg h2, if_neg h1, if_neg h1, if_neg h2]
        exact cmp_neg a b
theorem cmp_range : ∀ a b : List UInt8, -1 ≤ compareBytes a b ∧ compareBytes a b ≤ 1
  | [], [] => by decide
  | [], _ :: _ => by simp [compareBytes]
  | _ :: _, [] => by simp [compareBytes]
  | x :: a, y :: b => by
    unfold compareBytes
    have := cmp_range a b
    repeat' split
    all_goals omega
theorem cmp_zero : ∀ a b : List UInt8, compareBytes a b = 0 ↔ a = b
  | [], [] => by simp [compareBytes]
  | [], _ :: _ => by simp [compareBytes]
  | _ :: _, [] => by simp [compareBytes]
  | x :: a, y :: b => by
    unfold compareBytes
    by_cases h1 : x < y
    · rw [if_pos h1]
      simp only [List.cons.injEq]
      constructor
      · intro h; omega
      · rintro ⟨rfl, _⟩
        rw [UInt8.lt_iff_toNat_lt] at h1
        omega
    · rw [if_neg h1]
      by_cases h2 : y < x
      · rw [if_pos h2]
        simp only [List.cons.injEq]
        constructor
        · intro h; omega
        · rintro ⟨rfl, _⟩
          rw [UInt8.lt_iff_toNat_lt] at h2
          omega
      · rw [if_neg h2, cmp_zero a b]
        have e : x = y := by
          rw [UInt8.lt_iff_toNat_lt] at h1 h2
          exact UInt8.toNat_inj.1 (by omega)
        simp [e]
theorem cmp_trans : ∀ a b c : List UInt8, compareBytes a b < 0 → compareBytes b c < 0 → compareBytes a c < 0
  | [], [], _, h, _ => by simp [compareBytes] at h
  | _ :: _, [], _, h, _ => by simp [compareBytes] at h
  | _, _ :: _, [], _, h => by simp [compareBytes] at h
  | [], _ :: _, _ :: _, _, _ => by simp [compareBytes]
  | x :: a, y :: b, z :: c, h1, h2 => by
    unfold compareBytes at h1 h2 ⊢
    simp only [UInt8.lt_iff_toNat_lt] at h1 h2 ⊢
    have ih := cmp_trans a b c
    repeat' split at h1
    all_goals repeat' split at h2
    all_goals repeat' split
    all_goals first | omega | (exact ih h1 h2)

def cmpB (a b : ByteArray) : Int := compareBytes a.data.toList b.data.toList
def kLt (a b : ByteArray) : Prop := cmpB a b < 0

theorem cmpB_neg (a b : ByteArray) : cmpB b a = - cmpB a b := cmp_neg _ _
theorem cmpB_zero (a b : ByteArray) : cmpB a b = 0 ↔ a = b := by
  unfold cmpB
  rw [cmp_zero]
  constructor
  · intro h
    cases a; cases b
    simp only at h
    congr 1
    exact Array.toList_inj.1 h
  · rintro rfl; rfl
theorem kLt_trans {a b c : ByteArray} (h : kLt a b) (k : kLt b c) : kLt a c := cmp_trans _ _ _ h k
theorem kLt_irrefl (a : ByteArray) : ¬ kLt a a := by
  unfold kLt
  rw [(cmpB_zero a a).2 rfl]
  decide
theorem kLt_asymm {a b : ByteArray} (h : kLt a b) : ¬ kLt b a := fun k => kLt_irrefl a (kLt_trans h k)
theorem kLt_ne {a b : ByteArray} (h : kLt a b) : a ≠ b := fun e => kLt_irrefl a (by rw [← e] at h; exact h)
theorem kLt_tri (a b : ByteArray) : kLt a b ∨ a = b ∨ kLt b a := by
  unfold kLt
  rw [cmpB_neg a b, ← cmpB_zero a b]
  omega
instance (a b : ByteArray) : Decidable (kLt a b) := inferInstanceAs (Decidable (cmpB a b < 0))

structure Item where
  key : ByteArray
  name : ByteArray
  node : Int

def Sorted (l : List Item) : Prop := l.Pairwise fun a b => kLt a.key b.key

def inter : List Item → List (List Item) → List Item
  | its, [] => its
  | [], l :: _ => l
  | i :: its, l :: ls => l ++ i :: inter its ls
def pre : List Item → List (List Item) → List Item
  | i :: its, l :: ls => l ++ i :: pre its ls
  | _, _ => []
def post : List Item → List (List Item) → List Item
  | i :: its, l :: ls => i :: (l ++ post its ls)
  | _, _ => []

theorem inter_nil (its : List Item) : inter its [] = its := by cases its <;> rfl
theorem inter_post : ∀ (its : List Item) (l : List Item) (ls : List (List Item)), its.length = ls.length → inter its (l :: ls) = l ++ post its ls
  | [], l, [], _ => by simp [inter, post]
  | i :: its, l, m :: ls, h => by
    simp only [inter, post]
    rw [inter_post its m ls (by simpa using h)]
theorem inter_split : ∀ (a : List Item) (x : List (List Item)) (c : List Item) (l : List Item) (y : List (List Item)), a.length = x.length → c.length = y.length →
    inter (a ++ c) (x ++ l :: y) = pre a x ++ l ++ post c y
  | [], [], c, l, y, _, h => by simpa [pre] using inter_post c l y h
  | i :: a, m :: x, c, l, y, h1, h2 => by
    simp only [List.cons_append, inter, pre, List.append_assoc]
    rw [inter_split a x c l y (by simpa using h1) h2]
    simp
theorem inter_two : ∀ (a : List Item) (x : List (List Item)) (m : Item) (c : List Item) (y : List (List Item)), x.length = a.length + 1 → y.length = c.length + 1 →
    inter (a ++ m :: c) (x ++ y) = inter a x ++ m :: inter c y
  | [], [l], m, c, y, _, h2 => by simp [inter]
  | i :: a, l :: x, m, c, y, h1, h2 => by
    simp only [List.cons_append, inter, List.append_assoc]
    rw [inter_two a x m c y (by simpa using h1) h2]

theorem pre_last : ∀ (a : List Item) (x : List (List Item)), a.length = x.length → a ≠ [] → ∃ p i, i ∈ a ∧ pre a x = p ++ [i]
  | [i], [l], _, _ => ⟨l, i, by simp, by simp [pre]⟩
  | i :: j :: a, l :: x, h, _ => by
    obtain ⟨p, q, hq, e⟩ := pre_last (j :: a) x (by simpa using h) (by simp)
    exact ⟨l ++ i :: p, q, List.mem_cons_of_mem _ hq, by simp [pre, e]⟩
  | [], _, _, h => absurd rfl h
theorem post_first : ∀ (c : List Item) (y : List (List Item)), c.length = y.length → ∀ i c', c = i :: c' → ∃ p, post c y = i :: p
  | _, l :: y, h, i, c', e => by subst e; exact ⟨_, rfl⟩
  | _, [], h, i, c', e => by subst e; simp at h

theorem Sorted.mid {a b c : List Item} (h : Sorted (a ++ b ++ c)) : Sorted b :=
  (List.pairwise_append.1 (List.pairwise_append.1 h).1).2.1

theorem pre_low {a : List Item} {x : List (List Item)} {t : List Item} {key : ByteArray} (hl : a.length = x.length) (hs : Sorted (pre a x ++ t)) (h : ∀ i ∈ a, kLt i.key key) : ∀ i ∈ pre a x, kLt i.key key := by
  by_cases ha : a = []
  · subst ha
    intro i hi
    cases x <;> simp [pre] at hi
  · obtain ⟨p, q, hq, e⟩ := pre_last a x hl ha
    rw [e] at hs ⊢
    intro i hi
    rcases List.mem_append.1 hi with h1 | h1
    · have := (List.pairwise_append.1 (List.pairwise_append.1 hs).1).2.2 i h1 q (by simp)
      exact kLt_trans this (h q hq)
    · simp at h1
      subst h1
      exact h i hq
theorem post_high {c : List Item} {y : List (List Item)} {t : List Item} {key : ByteArray} (hl : c.length = y.length) (hs : Sorted (t ++ post c y)) (h : ∀ i ∈ c, kLt key i.key) : ∀ i ∈ post c y, kLt key i.key := by
  cases c with
  | nil =>
    intro i hi
    cases y <;> simp [post] at hi
  | cons q c' =>
    obtain ⟨p, e⟩ := post_first (q :: c') y hl q c' rfl
    rw [e] at hs ⊢
    intro i hi
    rcases List.mem_cons.1 hi with h1 | h1
    · subst h1; exact h i (by simp)
    · have := (List.pairwise_cons.1 (List.pairwise_append.1 hs).2.1).1 i h1
      exact kLt_trans (h q (by simp)) this

theorem inter_sub : ∀ (its : List Item) (ls : List (List Item)), ls = [] ∨ ls.length = its.length + 1 → its.Sublist (inter its ls)
  | its, [], _ => by rw [inter_nil]; exact List.Sublist.refl _
  | [], l :: _, _ => by simp
  | i :: its, l :: ls, h => by
    have h' : ls.length = its.length + 1 := by rcases h with h | h <;> simp at h; exact h
    simp only [inter]
    exact List.Sublist.trans (List.Sublist.cons_cons i (inter_sub its ls (.inr h'))) (List.sublist_append_right _ _)
theorem Sorted.items {its : List Item} {ls : List (List Item)} (h : Sorted (inter its ls)) (hl : ls = [] ∨ ls.length = its.length + 1) : Sorted its :=
  List.Pairwise.sublist (inter_sub its ls hl) h

def putL : List Item → Item → List Item
  | [], it => [it]
  | x :: xs, it => if kLt it.key x.key then it :: x :: xs else if x.key = it.key then it :: xs else x :: putL xs it

theorem putL_low {it : Item} : ∀ (a m : List Item), (∀ i ∈ a, kLt i.key it.key) → putL (a ++ m) it = a ++ putL m it
  | [], _, _ => rfl
  | x :: a, m, h => by
    have h1 := h x (by simp)
    simp only [List.cons_append, putL]
    rw [if_neg (kLt_asymm h1), if_neg (kLt_ne h1), putL_low a m (fun i hi => h i (by simp [hi]))]
theorem putL_high {it : Item} : ∀ (m c : List Item), (∀ i ∈ c, kLt it.key i.key) → putL (m ++ c) it = putL m it ++ c
  | [], [], _ => rfl
  | [], y :: c, h => by
    simp only [List.nil_append, putL]
    rw [if_pos (h y (by simp))]
    rfl
  | x :: m, c, h => by
    simp only [List.cons_append, putL]
    split
    · rfl
    · split
      · rfl
      · rw [putL_high m c h]; rfl
theorem putL_at {it : Item} (a c : List Item) (ha : ∀ i ∈ a, kLt i.key it.key) (hc : ∀ i ∈ c, kLt it.key i.key) : putL (a ++ c) it = a ++ it :: c := by
  rw [putL_low a c ha, show c = [] ++ c from rfl, putL_high [] c hc]
  rfl
theorem putL_same {it x : Item} (a c : List Item) (ha : ∀ i ∈ a, kLt i.key it.key) (hx : x.key = it.key) : putL (a ++ x :: c) it = a ++ it :: c := by
  rw [putL_low a _ ha]
  simp only [putL]
  rw [if_neg (by rw [hx]; exact kLt_irrefl _), if_pos hx]

theorem putL_mem {it y : Item} : ∀ (l : List Item), y ∈ putL l it → y = it ∨ y ∈ l
  | [], h => by simp [putL] at h; exact .inl h
  | x :: l, h => by
    simp only [putL] at h
    split at h
    · exact List.mem_cons.1 h
    · split at h
      · exact (List.mem_cons.1 h).imp id (List.mem_cons_of_mem _)
      · rcases List.mem_cons.1 h with h1 | h1
        · right; simp [h1]
        · rcases putL_mem l h1 with h2 | h2
          · exact .inl h2
          · right; simp [h2]
theorem putL_sorted {it : Item} : ∀ {l : List Item}, Sorted l → Sorted (putL l it)
  | [], _ => by simp [putL, Sorted]
  | x :: l, h => by
    have h0 := List.pairwise_cons.1 h
    simp only [putL]
    split
    · rename_i h1
      refine List.pairwise_cons.2 ⟨fun y hy => ?_, h⟩
      rcases List.mem_cons.1 hy with h2 | h2
      · subst h2; exact h1
      · exact kLt_trans h1 (h0.1 y h2)
    · split
      · rename_i h1 h2
        exact List.pairwise_cons.2 ⟨fun y hy => by rw [← h2]; exact h0.1 y hy, h0.2⟩
      · rename_i h1 h2
        refine List.pairwise_cons.2 ⟨fun y hy => ?_, putL_sorted h0.2⟩
        rcases putL_mem l hy with h3 | h3
        · subst h3
          rcases kLt_tri x.key y.key with h4 | h4 | h4
          · exact h4
          · exact absurd h4 h2
          · exact absurd h4 h1
        · exact h0.1 y h3

def getL (l : List Item) (key : ByteArray) : Option Item := l.find? fun x => decide (x.key = key)
def dropL (l : List Item) (key : ByteArray) : List Item := l.filter fun x => !decide (x.key = key)
def afterL (l : List Item) (key : ByteArray) : List Item := l.filter fun x => decide (kLt key x.key)

end Go.Proofs.YtjpmomklkkifjaaGreatDoor.T
namespace Go.Proofs.YtjpmomklkkifjaaGreatDoor.T
open Go.RowKit
set_option maxRecDepth 100000

structure Kept (S : Nat → Prop) (w w' : World) : Prop where
  os : w'.os = w.os
  tape : w'.tape = w.tape
  output : w'.output = w.output
  size : w.heap.size ≤ w'.heap.size
  block : ∀ k, k < w.heap.size → ¬ S k → w'.heap[k]? = w.heap[k]?

theorem Kept.refl (S : Nat → Prop) (w : World) : Kept S w w := ⟨rfl, rfl, rfl, Nat.le_refl _, fun _ _ _ => rfl⟩
theorem Kept.trans {S T : Nat → Prop} {a b c : World} (h : Kept S a b) (k : Kept T b c) (hT : ∀ x, x < a.heap.size → T x → S x) : Kept S a c :=
  ⟨k.os.trans h.os, k.tape.trans h.tape, k.output.trans h.output, Nat.le_trans h.size k.size,
    fun i hi hs => (k.block i (Nat.lt_of_lt_of_le hi h.size) (fun ht => hs (hT i hi ht))).trans (h.block i hi hs)⟩
theorem Kept.mono {S T : Nat → Prop} {w w' : World} (h : Kept S w w') (hT : ∀ x, x < w.heap.size → S x → T x) : Kept T w w' :=
  ⟨h.os, h.tape, h.output, h.size, fun k hk ht => h.block k hk (fun hs => ht (hT k hk hs))⟩
theorem Kept.drew {S : Nat → Prop} {a w : World} (h : Kept S a w) : Kept S a w.drew := ⟨h.os, h.tape, h.output, h.size, h.block⟩
theorem Kept.drewN {S : Nat → Prop} {a w : World} (n : Nat) (h : Kept S a w) : Kept S a (w.drewN n) := ⟨h.os, h.tape, h.output, h.size, h.block⟩
theorem Kept.alloc {S : Nat → Prop} {a w : World} (h : Kept S a w) (o : Obj) : Kept S a (w.alloc o) :=
  ⟨h.os, h.tape, h.output, Nat.le_trans h.size (by simp), fun k hk hs => (Below.heap_alloc _ _ _ (Nat.lt_of_lt_of_le hk h.size)).trans (h.block k hk hs)⟩
theorem Kept.setCell {S : Nat → Prop} {a w : World} (h : Kept S a w) {p : Addr} (hp : p.block < a.heap.size → S p.block) (u : Value) : Kept S a (w.setCell p u) :=
  ⟨h.os, h.tape, h.output, Nat.le_trans h.size (by simp [World.setCell]), fun k hk hs => (Below.heap_setCell _ _ _ _ (fun e => hs (by subst e; exact hp hk))).trans (h.block k hk hs)⟩
theorem Kept.grown {S : Nat → Prop} {a w w' : World} {row : Option Nat} (h : Kept S a w) (hg : w.grownBy w' row) (hr : ∀ k, row = some k → k < a.heap.size → S k) : Kept S a w' :=
  ⟨hg.os.trans h.os, hg.tape.trans h.tape, hg.output.trans h.output, Nat.le_trans h.size hg.size,
    fun k hk hs => (hg.block k (Nat.lt_of_lt_of_le hk h.size) (fun e => hs (hr k e.symm hk))).trans (h.block k hk hs)⟩
theorem Kept.of_below {S : Nat → Prop} {w w' : World} (h : Below w.heap.size w w') : Kept S w w' := ⟨h.os, h.tape, h.output, h.size, fun k hk _ => h.block k hk⟩
theorem Kept.below {S : Nat → Prop} {B : Nat} {w w' : World} (h : Kept S w w') (hB : B ≤ w.heap.size) (hS : ∀ x, S x → B ≤ x) : Below B w w' :=
  ⟨h.os, h.tape, h.output, h.size, fun k hk => h.block k (by omega) (fun hs => by have := hS k hs; omega)⟩
theorem Kept.cell {S : Nat → Prop} {w w' : World} (h : Kept S w w') {p : Addr} (hp : p.block < w.heap.size) (hs : ¬ S p.block) : w'.cell? p = w.cell? p :=
  World.cell?_of_block (w := w) (h.block p.block hp hs)
theorem Kept.frozen {S : Nat → Prop} {w w' : World} (h : Kept S w w') {p : Addr} (hp : p.block < w.heap.size) (hs : ¬ S p.block) : w'.frozen? p = w.frozen? p :=
  World.frozen?_of_block (w := w) (h.block p.block hp hs)
theorem Kept.row {S : Nat → Prop} {w w' : World} (h : Kept S w w') {base : Nat} {e : TypeId} {size : Nat} {v : Value} {n : Nat} {xs : List Value} (ho : w.ownsRow base e size v n xs) (hs : ∀ k, v.ownBlock = some k → ¬ S k) : w'.ownsRow base e size v n xs := by
  refine ⟨ho.1, ?_⟩
  rcases ho.2 with hn | ⟨g, cap, cur, rfl, hb, hgg, rest⟩
  · exact .inl hn
  · refine .inr ⟨g, cap, cur, rfl, hb, ?_, rest⟩
    rw [h.block g (Array.getElem?_eq_some_iff.1 hgg).1 (hs g rfl)]
    exact hgg

def cellsOf (it : Item) : List Value := [.string it.key, .string it.name, .int .i64 it.node]
def flat (l : List Item) : List Value := l.flatMap cellsOf
theorem flat_cons (x : Item) (l : List Item) : flat (x :: l) = .string x.key :: .string x.name :: .int .i64 x.node :: flat l := rfl
theorem flat_append (a b : List Item) : flat (a ++ b) = flat a ++ flat b := by simp [flat]
theorem flat_length (l : List Item) : (flat l).length = l.length * 3 := by
  induction l with
  | nil => rfl
  | cons x l ih => rw [flat_cons]; simp [ih]; omega
theorem flat_take (l : List Item) (n : Nat) : (flat l).take (n * 3) = flat (l.take n) := by
  induction l generalizing n with
  | nil => simp [flat]
  | cons x l ih =>
    cases n with
    | zero => simp [flat]
    | succ n => rw [show (n + 1) * 3 = n * 3 + 1 + 1 + 1 by omega]; simp only [flat_cons, List.take_succ_cons, ih]
theorem flat_drop (l : List Item) (n : Nat) : (flat l).drop (n * 3) = flat (l.drop n) := by
  induction l generalizing n with
  | nil => simp [flat]
  | cons x l ih =>
    cases n with
    | zero => simp [flat]
    | succ n => rw [show (n + 1) * 3 = n * 3 + 1 + 1 + 1 by omega]; simp only [flat_cons, List.drop_succ_cons, ih]
theorem flat_get (l : List Item) (i : Nat) (h : i < l.length) : (flat l)[i * 3]? = some (.string (l[i]).key) ∧ (flat l)[i * 3 + 1]? = some (.string (l[i]).name) ∧ (flat l)[i * 3 + 2]? = some (.int .i64 (l[i]).node) := by
  induction l generalizing i with
  | nil => simp at h
  | cons x l ih =>
    cases i with
    | zero => simp [flat_cons]
    | succ i =>
      have := ih i (by simpa using h)
      rw [show (i + 1) * 3 = i * 3 + 1 + 1 + 1 by omega]
      simp only [flat_cons, List.getElem_cons_succ]
      simpa using this
theorem flat_one (l : List Item) : ∀ u ∈ flat l, u.oneCell' = true := by
  intro u hu
  obtain ⟨x, _, hx⟩ := List.mem_flatMap.1 hu
  simp [cellsOf] at hx
  rcases hx with rfl | rfl | rfl <;> rfl
theorem flat_set (l : List Item) (i : Nat) (x : Item) (h : i < l.length) : (((flat l).set (i * 3) (.string x.key)).set (i * 3 + 1) (.string x.name)).set (i * 3 + 2) (.int .i64 x.node) = flat (l.set i x) := by
  induction l generalizing i with
  | nil => simp at h
  | cons y l ih =>
    cases i with
    | zero => simp [flat_cons]
    | succ i =>
      have := ih i (by simpa using h)
      rw [show (i + 1) * 3 = i * 3 + 1 + 1 + 1 by omega]
      simp only [flat_cons, List.set_cons_succ, ← this]

def ptrV (b : Nat) : Value := .pointer (some ⟨b, 0, none⟩)

structure Kid where
  b : Nat
  c : Nat
  L : List Item
  own : Nat → Nat

def one (b x : Nat) : Nat := if x = b then 1 else 0
def blkN (v : Value) (x : Nat) : Nat := if v.ownBlock = some x then 1 else 0
def owns (kids : List Kid) (x : Nat) : Nat := (kids.map fun y => y.own x).sum
theorem owns_nil (x : Nat) : owns [] x = 0 := rfl
theorem owns_cons (k : Kid) (l : List Kid) (x : Nat) : owns (k :: l) x = k.own x + owns l x := by simp [owns]
theorem owns_append (a b : List Kid) (x : Nat) : owns (a ++ b) x = owns a x + owns b x := by simp [owns]
theorem owns_mem {l : List Kid} {k : Kid} (h : k ∈ l) (x : Nat) : k.own x ≤ owns l x := by
  induction l with
  | nil => simp at h
  | cons a l ih =>
    rw [owns_cons]
    rcases List.mem_cons.1 h with h | h
    · subst h; omega
    · have := ih h; omega

theorem owns_some {x : Nat} : ∀ {l : List Kid}, 0 < owns l x → ∃ y ∈ l, 0 < y.own x
  | [], h => by simp [owns_nil] at h
  | a :: l, h => by
    rw [owns_cons] at h
    by_cases h5 : 0 < a.own x
    · exact ⟨a, by simp, h5⟩
    · obtain ⟨y, hy, h6⟩ := owns_some (l := l) (x := x) (by omega)
      exact ⟨y, by simp [hy], h6⟩

structure NodeAt (base : Nat) (w : World) (k : Kid) (its : List Item) (kids : List Kid) (v0 v1 : Value) : Prop where
  cell : w.heap[k.b]? = some (.cells #[v0, v1] 188 (0, 0))
  low : base ≤ k.b
  items : w.ownsRow base 190 3 v0 its.length (flat its)
  below : w.ownsRow base 128 1 v1 kids.length (kids.map fun y => ptrV y.b)
  c : k.c = its.length
  L : k.L = inter its (kids.map Kid.L)
  own : ∀ x, k.own x = one k.b x + blkN v0 x + blkN v1 x + owns kids x
  uniq : ∀ x, k.own x ≤ 1

def Sub (base : Nat) (w : World) : Nat → Kid → Prop
  | 0, k => ∃ its v0 v1, NodeAt base w k its [] v0 v1
  | h + 1, k => ∃ its kids v0 v1, NodeAt base w k its kids v0 v1 ∧ kids.length = its.length + 1 ∧ ∀ x ∈ kids, 1 ≤ x.c ∧ x.c ≤ 3 ∧ Sub base w h x
def Kids (base : Nat) (w : World) : Nat → List Item → List Kid → Prop
  | 0, _, kids => kids = []
  | h + 1, its, kids => kids.length = its.length + 1 ∧ ∀ x ∈ kids, Sub base w h x
def Fit (k : Kid) : Prop := 1 ≤ k.c ∧ k.c ≤ 3

theorem Sub.open {base : Nat} {w : World} {h : Nat} {k : Kid} (hs : Sub base w h k) : ∃ its kids v0 v1, NodeAt base w k its kids v0 v1 ∧ Kids base w h its kids ∧ ∀ x ∈ kids, Fit x := by
  cases h with
  | zero =>
    obtain ⟨its, v0, v1, hn⟩ := hs
    exact ⟨its, [], v0, v1, hn, rfl, by simp⟩
  | succ h =>
    obtain ⟨its, kids, v0, v1, hn, hl, hk⟩ := hs
    exact ⟨its, kids, v0, v1, hn, ⟨hl, fun x hx => (hk x hx).2.2⟩, fun x hx => ⟨(hk x hx).1, (hk x hx).2.1⟩⟩
theorem Sub.shut {base : Nat} {w : World} {h : Nat} {k : Kid} {its : List Item} {kids : List Kid} {v0 v1 : Value} (hn : NodeAt base w k its kids v0 v1) (hk : Kids base w h its kids) (hf : ∀ x ∈ kids, Fit x) : Sub base w h k := by
  cases h with
  | zero =>
    obtain rfl : kids = [] := hk
    exact ⟨its, v0, v1, hn⟩
  | succ h => exact ⟨its, kids, v0, v1, hn, hk.1, fun x hx => ⟨(hf x hx).1, (hf x hx).2, hk.2 x hx⟩⟩

theorem NodeAt.lt {base : Nat} {w : World} {k : Kid} {its : List Item} {kids : List Kid} {v0 v1 : Value} (h : NodeAt base w k its kids v0 v1) : k.b < w.heap.size := (Array.getElem?_eq_some_iff.1 h.cell).1
theorem blkN_pos {v : Value} {x : Nat} : 0 < blkN v x ↔ v.ownBlock = some x := by unfold blkN; split <;> simp_all
theorem one_pos {b x : Nat} : 0 < one b x ↔ x = b := by unfold one; split <;> simp_all
theorem one_self (b : Nat) : one b b = 1 := by simp [one]
theorem blkN_self {v : Value} {x : Nat} (h : v.ownBlock = some x) : blkN v x = 1 := by simp [blkN, h]

theorem Sub.range {base : Nat} {w : World} : ∀ {h : Nat} {k : Kid}, Sub base w h k → ∀ x, 0 < k.own x → base ≤ x ∧ x < w.heap.size
  | h, k, hs, x, hx => by
    obtain ⟨its, kids, v0, v1, hn, hk, _⟩ := hs.open
    rw [hn.own] at hx
    by_cases h1 : 0 < one k.b x
    · obtain rfl := one_pos.1 h1
      exact ⟨hn.low, hn.lt⟩
    · by_cases h2 : 0 < blkN v0 x
      · exact hn.items.lt x (blkN_pos.1 h2)
      · by_cases h3 : 0 < blkN v1 x
        · exact hn.below.lt x (blkN_pos.1 h3)
        · have h4 : 0 < owns kids x := by omega
          obtain ⟨y, hy, h5⟩ := owns_some h4
          cases h with
          | zero => obtain rfl : kids = [] := hk; simp at hy
          | succ h => exact Sub.range (hk.2 y hy) x h5
theorem NodeAt.kept {base : Nat} {w w' : World} {k : Kid} {its : List Item} {kids : List Kid} {v0 v1 : Value} {S : Nat → Prop} (h : NodeAt base w k its kids v0 v1) (hk : Kept S w w') (h0 : ¬ S k.b) (h1 : ∀ x, v0.ownBlock = some x → ¬ S x) (h2 : ∀ x, v1.ownBlock = some x → ¬ S x) : NodeAt base w' k its kids v0 v1 :=
  ⟨(hk.block k.b h.lt h0).trans h.cell, h.low, hk.row h.items h1, hk.row h.below h2, h.c, h.L, h.own, h.uniq⟩
theorem Sub.kept {base : Nat} {w w' : World} {S : Nat → Prop} (hk : Kept S w w') : ∀ {h : Nat} {k : Kid}, Sub base w h k → (∀ x, 0 < k.own x → ¬ S x) → Sub base w' h k
  | 0, k, hs, hn => by
    obtain ⟨its, v0, v1, h⟩ := hs
    refine ⟨its, v0, v1, h.kept hk (hn _ ?_) (fun x hx => hn x ?_) (fun x hx => hn x ?_)⟩
    · have := h.own k.b; rw [one_self] at this; omega
    · have := h.own x; rw [blkN_self hx] at this; omega
    · have := h.own x; rw [blkN_self hx] at this; omega
  | h + 1, k, hs, hn => by
    obtain ⟨its, kids, v0, v1, h, hl, hx⟩ := hs
    refine ⟨its, kids, v0, v1, h.kept hk (hn _ ?_) (fun x hx => hn x ?_) (fun x hx => hn x ?_), hl, fun y hy => ⟨(hx y hy).1, (hx y hy).2.1, Sub.kept hk (hx y hy).2.2 fun x hp => hn x ?_⟩⟩
    · have := h.own k.b; rw [one_self] at this; omega
    · have := h.own x; rw [blkN_self hx] at this; omega
    · have := h.own x; rw [blkN_self hx] at this; omega
    · have := h.own x; have := owns_mem hy x; omega
theorem Sub.uniq {base : Nat} {w : World} {h : Nat} {k : Kid} (hs : Sub base w h k) : ∀ x, k.own x ≤ 1 := by
  obtain ⟨_, _, _, _, hn, _⟩ := hs.open
  exact hn.uniq
theorem Sub.self {base : Nat} {w : World} {h : Nat} {k : Kid} (hs : Sub base w h k) : k.own k.b = 1 := by
  obtain ⟨_, _, _, _, hn, _⟩ := hs.open
  have h1 := hn.own k.b
  have h2 := hn.uniq k.b
  rw [one_self] at h1
  omega

theorem inter_length : ∀ (its : List Item) (ls : List (List Item)), ls.length = its.length + 1 → (inter its ls).length = its.length + (ls.map List.length).sum
  | [], [l], _ => by simp [inter]
  | i :: its, l :: ls, h => by
    have := inter_length its ls (by simpa using h)
    simp only [inter, List.length_append, List.length_cons, this, List.map_cons, List.sum_cons]
    omega
theorem sum_ge (l : List Nat) (m : Nat) (h : ∀ x ∈ l, m ≤ x) : l.length * m ≤ l.sum := by
  induction l with
  | nil => simp
  | cons a l ih =>
    have h1 := h a (by simp)
    have h2 := ih fun x hx => h x (by simp [hx])
    simp only [List.length_cons, List.sum_cons, Nat.succ_mul]
    omega
theorem Sub.many {base : Nat} {w : World} : ∀ {h : Nat} {k : Kid}, Sub base w h k → 1 ≤ k.c → 2 ^ (h + 1) ≤ k.L.length + 1
  | 0, k, hs, hc => by
    obtain ⟨its, v0, v1, hn⟩ := hs
    have h1 := hn.c
    have h2 := hn.L
    simp only [List.map_nil, inter_nil] at h2
    rw [h2]
    simp
    omega
  | h + 1, k, hs, hc => by
    obtain ⟨its, kids, v0, v1, hn, hl, hk⟩ := hs
    have h1 := hn.c
    have h2 := hn.L
    rw [h2, inter_length its _ (by simpa using hl)]
    have h3 := sum_ge ((kids.map Kid.L).map List.length) (2 ^ (h + 1) - 1) (by
      intro x hx
      obtain ⟨z, hz, rfl⟩ := List.mem_map.1 hx
      obtain ⟨y, hy, rfl⟩ := List.mem_map.1 hz
      have := Sub.many (hk y hy).2.2 (hk y hy).1
      omega)
    simp only [List.length_map, hl] at h3
    have h4 : 2 * (2 ^ (h + 1) - 1) ≤ (its.length + 1) * (2 ^ (h + 1) - 1) := Nat.mul_le_mul_right _ (by omega)
    have h5 : 0 < 2 ^ (h + 1) := Nat.pow_pos (by decide)
    rw [Nat.pow_succ 2 (h + 1)]
    omega

end Go.Proofs.YtjpmomklkkifjaaGreatDoor.T
