import Derived.Test.YtjpmomklkkifjaaGreatDoorProg
import Derived.Shelf.SlSortCmp.NoneTotal
import Derived.Lib.Bytealg
set_option maxRecDepth 100000
set_option linter.unusedVariables false
set_option linter.unusedSimpArgs false
namespace Go.Proofs.YtjpmomklkkifjaaGreatDoor.T
open Go.RowKit Go.Shelf
def sortRenN : Go.Shelf.Ren := ⟨fun | 6 => 41 | 14 => 82 | 15 => 83 | 20 => 121 | 21 => 122 | 22 => 123 | 23 => 124 | 24 => 125 | 25 => 126 | 26 => 127 | 27 => 128 | 28 => 129 | 29 => 130 | 46 => 170 | 47 => 171 | 48 => 172 | 49 => 173 | 50 => 174 | 57 => 206 | n => n, fun | 0 => 0 | 3 => 3 | 4 => 4 | 5 => 5 | 9 => 9 | 22 => 27 | 24 => 33 | 25 => 83 | 39 => 126 | 45 => 174 | 46 => 175 | 50 => 179 | 53 => 182 | 55 => 62 | 66 => 215 | 70 => 219 | 76 => 245 | 77 => 246 | n => n, fun | n => n⟩
theorem sortLaysN : SlLaysF0.n6 Tryz.prog sortRenN := {
  mixed := by kernel_rfl
  f6 := ⟨"slices.SortFunc[[]jobcase/api.Node,jobcase/api.Node]", by kernel_rfl, Tryz.func41.trans (congrArg some (by kernel_rfl))⟩
  f14 := ⟨"slices.pdqsortCmpFunc[jobcase/api.Node]", by kernel_rfl, Tryz.func82.trans (congrArg some (by kernel_rfl))⟩
  f15 := Tryz.func83.trans (congrArg some (by kernel_rfl))
  f20 := ⟨"slices.insertionSortCmpFunc[jobcase/api.Node]", by kernel_rfl, Tryz.func121.trans (congrArg some (by kernel_rfl))⟩
  f21 := ⟨"slices.heapSortCmpFunc[jobcase/api.Node]", by kernel_rfl, Tryz.func122.trans (congrArg some (by kernel_rfl))⟩
  f22 := ⟨"slices.breakPatternsCmpFunc[jobcase/api.Node]", by kernel_rfl, Tryz.func123.trans (congrArg some (by kernel_rfl))⟩
  f23 := ⟨"slices.choosePivotCmpFunc[jobcase/api.Node]", by kernel_rfl, Tryz.func124.trans (congrArg some (by kernel_rfl))⟩
  f24 := ⟨"slices.reverseRangeCmpFunc[jobcase/api.Node]", by kernel_rfl, Tryz.func125.trans (congrArg some (by kernel_rfl))⟩
  f25 := ⟨"slices.partialInsertionSortCmpFunc[jobcase/api.Node]", by kernel_rfl, Tryz.func126.trans (congrArg some (by kernel_rfl))⟩
  f26 := ⟨"slices.partitionEqualCmpFunc[jobcase/api.Node]", by kernel_rfl, Tryz.func127.trans (congrArg some (by kernel_rfl))⟩
  f27 := ⟨"slices.partitionCmpFunc[jobcase/api.Node]", by kernel_rfl, Tryz.func128.trans (congrArg some (by kernel_rfl))⟩
  f28 := Tryz.func129.trans (congrArg some (by kernel_rfl))
  f29 := Tryz.func130.trans (congrArg some (by kernel_rfl))
  f46 := ⟨"slices.siftDownCmpFunc[jobcase/api.Node]", by kernel_rfl, Tryz.func170.trans (congrArg some (by kernel_rfl))⟩
  f47 := Tryz.func171.trans (congrArg some (by kernel_rfl))
  f48 := Tryz.func172.trans (congrArg some (by kernel_rfl))
  f49 := ⟨"slices.medianAdjacentCmpFunc[jobcase/api.Node]", by kernel_rfl, Tryz.func173.trans (congrArg some (by kernel_rfl))⟩
  f50 := ⟨"slices.medianCmpFunc[jobcase/api.Node]", by kernel_rfl, Tryz.func174.trans (congrArg some (by kernel_rfl))⟩
  f57 := ⟨"slices.order2CmpFunc[jobcase/api.Node]", by kernel_rfl, Tryz.func206.trans (congrArg some (by kernel_rfl))⟩
  t0 := Tryz.underlying0
  a0 := Tryz.isAgg0
  z0 := Tryz.sizeOf0
  v0 := Tryz.zeroValue0
  t3 := Tryz.underlying3
  a3 := Tryz.isAgg3
  z3 := Tryz.sizeOf3
  v3 := Tryz.zeroValue3
  t4 := Tryz.underlying4
  a4 := Tryz.isAgg4
  z4 := Tryz.sizeOf4
  v4 := Tryz.zeroValue4
  t5 := Tryz.underlying5
  a5 := Tryz.isAgg5
  z5 := Tryz.sizeOf5
  v5 := Tryz.zeroValue5
  t9 := Tryz.underlying9
  a9 := Tryz.isAgg9
  z9 := Tryz.sizeOf9
  v9 := Tryz.zeroValue9
  t22 := Tryz.underlying27
  a22 := Tryz.isAgg27
  z22 := Tryz.sizeOf27
  v22 := Tryz.zeroValue27
  t25 := Tryz.underlying83
  a25 := Tryz.isAgg83
  z25 := Tryz.sizeOf83
  v25 := Tryz.zeroValue83
  t39 := Tryz.underlying126
  a39 := Tryz.isAgg126
  z39 := Tryz.sizeOf126
  v39 := Tryz.zeroValue126
  t45 := Tryz.underlying174
  a45 := Tryz.isAgg174
  z45 := Tryz.sizeOf174
  v45 := Tryz.zeroValue174
  t46 := Tryz.underlying175
  a46 := Tryz.isAgg175
  z46 := Tryz.sizeOf175
  v46 := Tryz.zeroValue175
  t50 := Tryz.underlying179
  a50 := Tryz.isAgg179
  z50 := Tryz.sizeOf179
  v50 := Tryz.zeroValue179
  t53 := Tryz.underlying182
  a53 := Tryz.isAgg182
  z53 := Tryz.sizeOf182
  v53 := Tryz.zeroValue182
  t55 := Tryz.underlying62
  a55 := Tryz.isAgg62
  z55 := Tryz.sizeOf62
  v55 := Tryz.zeroValue62
  t66 := Tryz.underlying215
  a66 := Tryz.isAgg215
  z66 := Tryz.sizeOf215
  v66 := Tryz.zeroValue215
  t70 := Tryz.underlying219
  a70 := Tryz.isAgg219
  z70 := Tryz.sizeOf219
  v70 := Tryz.zeroValue219
  t76 := Tryz.underlying245
  a76 := Tryz.isAgg245
  z76 := Tryz.sizeOf245
  v76 := Tryz.zeroValue245
  t77 := Tryz.underlying246
  a77 := Tryz.isAgg246
  z77 := Tryz.sizeOf246
  v77 := Tryz.zeroValue246 }
def sortRenC : Go.Shelf.Ren := ⟨fun | 6 => 71 | 14 => 112 | 15 => 83 | 20 => 158 | 21 => 159 | 22 => 160 | 23 => 161 | 24 => 162 | 25 => 163 | 26 => 164 | 27 => 165 | 28 => 129 | 29 => 130 | 46 => 198 | 47 => 171 | 48 => 172 | 49 => 199 | 50 => 200 | 57 => 222 | n => n, fun | 0 => 0 | 3 => 3 | 4 => 4 | 5 => 5 | 9 => 9 | 22 => 54 | 24 => 69 | 25 => 113 | 39 => 126 | 45 => 174 | 46 => 175 | 50 => 179 | 53 => 182 | 55 => 62 | 66 => 215 | 70 => 219 | 76 => 245 | 77 => 246 | n => n, fun | n => n⟩
theorem sortLaysC : SlLaysF0.n6 Tryz.prog sortRenC := {
  mixed := by kernel_rfl
  f6 := ⟨"slices.SortFunc[[]jobcase/api.Change,jobcase/api.Change]", by kernel_rfl, Tryz.func71.trans (congrArg some (by kernel_rfl))⟩
  f14 := ⟨"slices.pdqsortCmpFunc[jobcase/api.Change]", by kernel_rfl, Tryz.func112.trans (congrArg some (by kernel_rfl))⟩
  f15 := Tryz.func83.trans (congrArg some (by kernel_rfl))
  f20 := ⟨"slices.insertionSortCmpFunc[jobcase/api.Change]", by kernel_rfl, Tryz.func158.trans (congrArg some (by kernel_rfl))⟩
  f21 := ⟨"slices.heapSortCmpFunc[jobcase/api.Change]", by kernel_rfl, Tryz.func159.trans (congrArg some (by kernel_rfl))⟩
  f22 := ⟨"slices.breakPatternsCmpFunc[jobcase/api.Change]", by kernel_rfl, Tryz.func160.trans (congrArg some (by kernel_rfl))⟩
  f23 := ⟨"slices.choosePivotCmpFunc[jobcase/api.Change]", by kernel_rfl, Tryz.func161.trans (congrArg some (by kernel_rfl))⟩
  f24 := ⟨"slices.reverseRangeCmpFunc[jobcase/api.Change]", by kernel_rfl, Tryz.func162.trans (congrArg some (by kernel_rfl))⟩
  f25 := ⟨"slices.partialInsertionSortCmpFunc[jobcase/api.Change]", by kernel_rfl, Tryz.func163.trans (congrArg some (by kernel_rfl))⟩
  f26 := ⟨"slices.partitionEqualCmpFunc[jobcase/api.Change]", by kernel_rfl, Tryz.func164.trans (congrArg some (by kernel_rfl))⟩
  f27 := ⟨"slices.partitionCmpFunc[jobcase/api.Change]", by kernel_rfl, Tryz.func165.trans (congrArg some (by kernel_rfl))⟩
  f28 := Tryz.func129.trans (congrArg some (by kernel_rfl))
  f29 := Tryz.func130.trans (congrArg some (by kernel_rfl))
  f46 := ⟨"slices.siftDownCmpFunc[jobcase/api.Change]", by kernel_rfl, Tryz.func198.trans (congrArg some (by kernel_rfl))⟩
  f47 := Tryz.func171.trans (congrArg some (by kernel_rfl))
  f48 := Tryz.func172.trans (congrArg some (by kernel_rfl))
  f49 := ⟨"slices.medianAdjacentCmpFunc[jobcase/api.Change]", by kernel_rfl, Tryz.func199.trans (congrArg some (by kernel_rfl))⟩
  f50 := ⟨"slices.medianCmpFunc[jobcase/api.Change]", by kernel_rfl, Tryz.func200.trans (congrArg some (by kernel_rfl))⟩
  f57 := ⟨"slices.order2CmpFunc[jobcase/api.Change]", by kernel_rfl, Tryz.func222.trans (congrArg some (by kernel_rfl))⟩
  t0 := Tryz.underlying0
  a0 := Tryz.isAgg0
  z0 := Tryz.sizeOf0
  v0 := Tryz.zeroValue0
  t3 := Tryz.underlying3
  a3 := Tryz.isAgg3
  z3 := Tryz.sizeOf3
  v3 := Tryz.zeroValue3
  t4 := Tryz.underlying4
  a4 := Tryz.isAgg4
  z4 := Tryz.sizeOf4
  v4 := Tryz.zeroValue4
  t5 := Tryz.underlying5
  a5 := Tryz.isAgg5
  z5 := Tryz.sizeOf5
  v5 := Tryz.zeroValue5
  t9 := Tryz.underlying9
  a9 := Tryz.isAgg9
  z9 := Tryz.sizeOf9
  v9 := Tryz.zeroValue9
  t22 := Tryz.underlying54
  a22 := Tryz.isAgg54
  z22 := Tryz.sizeOf54
  v22 := Tryz.zeroValue54
  t25 := Tryz.underlying113
  a25 := Tryz.isAgg113
  z25 := Tryz.sizeOf113
  v25 := Tryz.zeroValue113
  t39 := Tryz.underlying126
  a39 := Tryz.isAgg126
  z39 := Tryz.sizeOf126
  v39 := Tryz.zeroValue126
  t45 := Tryz.underlying174
  a45 := Tryz.isAgg174
  z45 := Tryz.sizeOf174
  v45 := Tryz.zeroValue174
  t46 := Tryz.underlying175
  a46 := Tryz.isAgg175
  z46 := Tryz.sizeOf175
  v46 := Tryz.zeroValue175
  t50 := Tryz.underlying179
  a50 := Tryz.isAgg179
  z50 := Tryz.sizeOf179
  v50 := Tryz.zeroValue179
  t53 := Tryz.underlying182
  a53 := Tryz.isAgg182
  z53 := Tryz.sizeOf182
  v53 := Tryz.zeroValue182
  t55 := Tryz.underlying62
  a55 := Tryz.isAgg62
  z55 := Tryz.sizeOf62
  v55 := Tryz.zeroValue62
  t66 := Tryz.underlying215
  a66 := Tryz.isAgg215
  z66 := Tryz.sizeOf215
  v66 := Tryz.zeroValue215
  t70 := Tryz.underlying219
  a70 := Tryz.isAgg219
  z70 := Tryz.sizeOf219
  v70 := Tryz.zeroValue219
  t76 := Tryz.underlying245
  a76 := Tryz.isAgg245
  z76 := Tryz.sizeOf245
  v76 := Tryz.zeroValue245
  t77 := Tryz.underlying246
  a77 := Tryz.isAgg246
  z77 := Tryz.sizeOf246
  v77 := Tryz.zeroValue246 }
end Go.Proofs.YtjpmomklkkifjaaGreatDoor.T
namespace Go.Proofs.YtjpmomklkkifjaaGreatDoor.T
open Go.Lib
theorem cmp_neg : ∀ a b : List UInt8, compareBytes b a = - compareBytes a b
  | [], [] => rfl
  | [], _ :: _ => rfl
  | _ :: _, [] => rfl
  | x :: a, y :: b => by
    unfold compareBytes
    by_cases h1 : x < y
    · have h2 : ¬ y < x := by rw [UInt8.lt_iff_toNat_lt] at *; omega
      rw [if_neg h2, if_pos h1, if_pos h1]
      decide
    · by_cases h2 : y < x
      · rw [if_pos h2, if_neg h1, if_pos h2]
      · rw [if_neg h2, if_neg h1, if_neg h1, if_neg h2]
        exact cmp_neg a b
theorem cmp_range : ∀ a b : List UInt8, -1 ≤ compareBytes a b ∧ compareBytes a b ≤ 1
  | [], [] => by decide
  | [], _ :: _ => by simp [compareBytes]
  | _ :: _, [] => by simp [compareBytes]
  | x :: a, y :: b => by
    unfold compareBytes
    have := cmp_range a b
    repeat' split
    all_goals omega
theorem cmp_zero : ∀ a b : List UInt8, compareBytes a b = 0 ↔ a = b
  | [], [] => by simp [compareBytes]
  | [], _ :: _ => by simp [compareBytes]
  | _ :: _, [] => by simp [compareBytes]
  | x :: a, y :: b => by
    unfold compareBytes
    by_cases h1 : x < y
    · rw [if_pos h1]
      simp only [List.cons.injEq]
      constructor
      · intro h; omega
      · rintro ⟨rfl, _⟩
        rw [UInt8.lt_iff_toNat_lt] at h1
        omega
    · rw [if_neg h1]
      by_cases h2 : y < x
      · rw [if_pos h2]
        simp only [List.cons.injEq]
        constructor
        · intro h; omega
        · rintro ⟨rfl, _⟩
          rw [UInt8.lt_iff_toNat_lt] at h2
          omega
      · rw [if_neg h2, cmp_zero a b]
        have e : x = y := by
          rw [UInt8.lt_iff_toNat_lt] at h1 h2
          exact UInt8.toNat_inj.1 (by omega)
        simp [e]
theorem cmp_trans : ∀ a b c : List UInt8, compareBytes a b < 0 → compareBytes b c < 0 → compareBytes a c < 0
  | [], [], _, h, _ => by simp [compareBytes] at h
  | _ :: _, [], _, h, _ => by simp [compareBytes] at h
  | _, _ :: _, [], _, h => by simp [compareBytes] at h
  | [], _ :: _, _ :: _, _, _ => by simp [compareBytes]
  | x :: a, y :: b, z :: c, h1, h2 => by
    unfold compareBytes at h1 h2 ⊢
    simp only [UInt8.lt_iff_toNat_lt] at h1 h2 ⊢
    have ih := cmp_trans a b c
    repeat' split at h1
    all_goals repeat' split at h2
    all_goals repeat' split
    all_goals first | omega | (exact ih h1 h2)
def cmpB (a b : ByteArray) : Int := compareBytes a.data.toList b.data.toList
def kLt (a b : ByteArray) : Prop := cmpB a b < 0
theorem cmpB_neg (a b : ByteArray) : cmpB b a = - cmpB a b := cmp_neg _ _
theorem cmpB_zero (a b : ByteArray) : cmpB a b = 0 ↔ a = b := by
  unfold cmpB
  rw [cmp_zero]
  constructor
  · intro h
    cases a; cases b
    simp only at h
    congr 1
    exact Array.toList_inj.1 h
  · rintro rfl; rfl
theorem kLt_trans {a b c : ByteArray} (h : kLt a b) (k : kLt b c) : kLt a c := cmp_trans _ _ _ h k
theorem kLt_irrefl (a : ByteArray) : ¬ kLt a a := by
  unfold kLt
  rw [(cmpB_zero a a).2 rfl]
  decide
theorem kLt_asymm {a b : ByteArray} (h : kLt a b) : ¬ kLt b a := fun k => kLt_irrefl a (kLt_trans h k)
theorem kLt_ne {a b : ByteArray} (h : kLt a b) : a ≠ b := fun e => kLt_irrefl a (by rw [← e] at h; exact h)
theorem kLt_tri (a b : ByteArray) : kLt a b ∨ a = b ∨ kLt b a := by
  unfold kLt
  rw [cmpB_neg a b, ← cmpB_zero a b]
  omega
instance (a b : ByteArray) : Decidable (kLt a b) := inferInstanceAs (Decidable (cmpB a b < 0))
structure Item where
  key : ByteArray
  name : ByteArray
  node : Int
def Sorted (l : List Item) : Prop := l.Pairwise fun a b => kLt a.key b.key
def inter : List Item → List (List Item) → List Item
  | its, [] => its
  | [], l :: _ => l
  | i :: its, l :: ls => l ++ i :: inter its ls
def pre : List Item → List (List Item) → List Item
  | i :: its, l :: ls => l ++ i :: pre its ls
  | _, _ => []
def post : List Item → List (List Item) → List Item
  | i :: its, l :: ls => i :: (l ++ post its ls)
  | _, _ => []
theorem inter_nil (its : List Item) : inter its [] = its := by cases its <;> rfl
theorem inter_post : ∀ (its : List Item) (l : List Item) (ls : List (List Item)), its.length = ls.length → inter its (l :: ls) = l ++ post its ls
  | [], l, [], _ => by simp [inter, post]
  | i :: its, l, m :: ls, h => by
    simp only [inter, post]
    rw [inter_post its m ls (by simpa using h)]
theorem inter_split : ∀ (a : List Item) (x : List (List Item)) (c : List Item) (l : List Item) (y : List (List Item)), a.length = x.length → c.length = y.length →
    inter (a ++ c) (x ++ l :: y) = pre a x ++ l ++ post c y
  | [], [], c, l, y, _, h => by simpa [pre] using inter_post c l y h
  | i :: a, m :: x, c, l, y, h1, h2 => by
    simp only [List.cons_append, inter, pre, List.append_assoc]
    rw [inter_split a x c l y (by simpa using h1) h2]
    simp
theorem inter_two : ∀ (a : List Item) (x : List (List Item)) (m : Item) (c : List Item) (y : List (List Item)), x.length = a.length + 1 → y.length = c.length + 1 →
    inter (a ++ m :: c) (x ++ y) = inter a x ++ m :: inter c y
  | [], [l], m, c, y, _, h2 => by simp [inter]
  | i :: a, l :: x, m, c, y, h1, h2 => by
    simp only [List.cons_append, inter, List.append_assoc]
    rw [inter_two a x m c y (by simpa using h1) h2]
theorem pre_last : ∀ (a : List Item) (x : List (List Item)), a.length = x.length → a ≠ [] → ∃ p i, i ∈ a ∧ pre a x = p ++ [i]
  | [i], [l], _, _ => ⟨l, i, by simp, by simp [pre]⟩
  | i :: j :: a, l :: x, h, _ => by
    obtain ⟨p, q, hq, e⟩ := pre_last (j :: a) x (by simpa using h) (by simp)
    exact ⟨l ++ i :: p, q, List.mem_cons_of_mem _ hq, by simp [pre, e]⟩
  | [], _, _, h => absurd rfl h
theorem post_first : ∀ (c : List Item) (y : List (List Item)), c.length = y.length → ∀ i c', c = i :: c' → ∃ p, post c y = i :: p
  | _, l :: y, h, i, c', e => by subst e; exact ⟨_, rfl⟩
  | _, [], h, i, c', e => by subst e; simp at h
theorem Sorted.mid {a b c : List Item} (h : Sorted (a ++ b ++ c)) : Sorted b :=
  (List.pairwise_append.1 (List.pairwise_append.1 h).1).2.1
theorem pre_low {a : List Item} {x : List (List Item)} {t : List Item} {key : ByteArray} (hl : a.length = x.length) (hs : Sorted (pre a x ++ t)) (h : ∀ i ∈ a, kLt i.key key) : ∀ i ∈ pre a x, kLt i.key key := by
  by_cases ha : a = []
  · subst ha
    intro i hi
    cases x <;> simp [pre] at hi
  · obtain ⟨p, q, hq, e⟩ := pre_last a x hl ha
    rw [e] at hs ⊢
    intro i hi
    rcases List.mem_append.1 hi with h1 | h1
    · have := (List.pairwise_append.1 (List.pairwise_append.1 hs).1).2.2 i h1 q (by simp)
      exact kLt_trans this (h q hq)
    · simp at h1
      subst h1
      exact h i hq
theorem post_high {c : List Item} {y : List (List Item)} {t : List Item} {key : ByteArray} (hl : c.length = y.length) (hs : Sorted (t ++ post c y)) (h : ∀ i ∈ c, kLt key i.key) : ∀ i ∈ post c y, kLt key i.key := by
  cases c with
  | nil =>
    intro i hi
    cases y <;> simp [post] at hi
  | cons q c' =>
    obtain ⟨p, e⟩ := post_first (q :: c') y hl q c' rfl
    rw [e] at hs ⊢
    intro i hi
    rcases List.mem_cons.1 hi with h1 | h1
    · subst h1; exact h i (by simp)
    · have := (List.pairwise_cons.1 (List.pairwise_append.1 hs).2.1).1 i h1
      exact kLt_trans (h q (by simp)) this
theorem inter_sub : ∀ (its : List Item) (ls : List (List Item)), ls = [] ∨ ls.length = its.length + 1 → its.Sublist (inter its ls)
  | its, [], _ => by rw [inter_nil]; exact List.Sublist.refl _
  | [], l :: _, _ => by simp
  | i :: its, l :: ls, h => by
    have h' : ls.length = its.length + 1 := by rcases h with h | h <;> simp at h; exact h
    simp only [inter]
    exact List.Sublist.trans (List.Sublist.cons_cons i (inter_sub its ls (.inr h'))) (List.sublist_append_right _ _)
theorem Sorted.items {its : List Item} {ls : List (List Item)} (h : Sorted (inter its ls)) (hl : ls = [] ∨ ls.length = its.length + 1) : Sorted its :=
  List.Pairwise.sublist (inter_sub its ls hl) h
def putL : List Item → Item → List Item
  | [], it => [it]
  | x :: xs, it => if kLt it.key x.key then it :: x :: xs else if x.key = it.key then it :: xs else x :: putL xs it
theorem putL_low {it : Item} : ∀ (a m : List Item), (∀ i ∈ a, kLt i.key it.key) → putL (a ++ m) it = a ++ putL m it
  | [], _, _ => rfl
  | x :: a, m, h => by
    have h1 := h x (by simp)
    simp only [List.cons_append, putL]
    rw [if_neg (kLt_asymm h1), if_neg (kLt_ne h1), putL_low a m (fun i hi => h i (by simp [hi]))]
theorem putL_high {it : Item} : ∀ (m c : List Item), (∀ i ∈ c, kLt it.key i.key) → putL (m ++ c) it = putL m it ++ c
  | [], [], _ => rfl
  | [], y :: c, h => by
    simp only [List.nil_append, putL]
    rw [if_pos (h y (by simp))]
    rfl
  | x :: m, c, h => by
    simp only [List.cons_append, putL]
    split
    · rfl
    · split
      · rfl
      · rw [putL_high m c h]; rfl
theorem putL_at {it : Item} (a c : List Item) (ha : ∀ i ∈ a, kLt i.key it.key) (hc : ∀ i ∈ c, kLt it.key i.key) : putL (a ++ c) it = a ++ it :: c := by
  rw [putL_low a c ha, show c = [] ++ c from rfl, putL_high [] c hc]
  rfl
theorem putL_same {it x : Item} (a c : List Item) (ha : ∀ i ∈ a, kLt i.key it.key) (hx : x.key = it.key) : putL (a ++ x :: c) it = a ++ it :: c := by
  rw [putL_low a _ ha]
  simp only [putL]
  rw [if_neg (by rw [hx]; exact kLt_irrefl _), if_pos hx]
theorem putL_mem {it y : Item} : ∀ (l : List Item), y ∈ putL l it → y = it ∨ y ∈ l
  | [], h => by simp [putL] at h; exact .inl h
  | x :: l, h => by
    simp only [putL] at h
    split at h
    · exact List.mem_cons.1 h
    · split at h
      · exact (List.mem_cons.1 h).imp id (List.mem_cons_of_mem _)
      · rcases List.mem_cons.1 h with h1 | h1
        · right; simp [h1]
        · rcases putL_mem l h1 with h2 | h2
          · exact .inl h2
          · right; simp [h2]
theorem putL_sorted {it : Item} : ∀ {l : List Item}, Sorted l → Sorted (putL l it)
  | [], _ => by simp [putL, Sorted]
  | x :: l, h => by
    have h0 := List.pairwise_cons.1 h
    simp only [putL]
    split
    · rename_i h1
      refine List.pairwise_cons.2 ⟨fun y hy => ?_, h⟩
      rcases List.mem_cons.1 hy with h2 | h2
      · subst h2; exact h1
      · exact kLt_trans h1 (h0.1 y h2)
    · split
      · rename_i h1 h2
        exact List.pairwise_cons.2 ⟨fun y hy => by rw [← h2]; exact h0.1 y hy, h0.2⟩
      · rename_i h1 h2
        refine List.pairwise_cons.2 ⟨fun y hy => ?_, putL_sorted h0.2⟩
        rcases putL_mem l hy with h3 | h3
        · subst h3
          rcases kLt_tri x.key y.key with h4 | h4 | h4
          · exact h4
          · exact absurd h4 h2
          · exact absurd h4 h1
        · exact h0.1 y h3
def getL (l : List Item) (key : ByteArray) : Option Item := l.find? fun x => decide (x.key = key)
def dropL (l : List Item) (key : ByteArray) : List Item := l.filter fun x => !decide (x.key = key)
def afterL (l : List Item) (key : ByteArray) : List Item := l.filter fun x => decide (kLt key x.key)
end Go.Proofs.YtjpmomklkkifjaaGreatDoor.T
