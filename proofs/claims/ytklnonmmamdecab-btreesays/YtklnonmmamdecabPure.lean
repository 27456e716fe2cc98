/-
  Entries in their order: rows between rows, put, taken away. Plain facts.
-/
import Derived.Lib.Bytealg
namespace Go.Proofs.Ytklnonmmamdecab
open Go.Lib

theorem cmp_neg : ∀ a b : List UInt8, compareBytes b a = - compareBytes a b
  | [], [] => rfl
  | [], _ :: _ => rfl
  | _ :: _, [] => rfl
  | x :: a, y :: b => by
    unfold compareBytes
    by_cases h1 : x < y
    · have h2 : ¬ y < x := by rw [UInt8.lt_iff_toNat_lt] at *; omega
      rw [if_neg h2, if_pos h1, if_pos h1]
      decide
    · by_cases h2 : y < x
      · rw [if_pos h2, if_neg h1, if_pos h2]
      · rw [if_neg h2, if_neg h1, if_neg h1, if_neg h2]
        exact cmp_neg a b
theorem cmp_range : ∀ a b : List UInt8, -1 ≤ compareBytes a b ∧ compareBytes a b ≤ 1
  | [], [] => by decide
  | [], _ :: _ => by simp [compareBytes]
  | _ :: _, [] => by simp [compareBytes]
  | x :: a, y :: b => by
    unfold compareBytes
    have := cmp_range a b
    repeat' split
    all_goals omega
theorem cmp_zero : ∀ a b : List UInt8, compareBytes a b = 0 ↔ a = b
  | [], [] => by simp [compareBytes]
  | [], _ :: _ => by simp [compareBytes]
  | _ :: _, [] => by simp [compareBytes]
  | x :: a, y :: b => by
    unfold compareBytes
    by_cases h1 : x < y
    · rw [if_pos h1]
      simp only [List.cons.injEq]
      constructor
      · intro h; omega
      · rintro ⟨rfl, _⟩
        rw [UInt8.lt_iff_toNat_lt] at h1
        omega
    · rw [if_neg h1]
      by_cases h2 : y < x
      · rw [if_pos h2]
        simp only [List.cons.injEq]
        constructor
        · intro h; omega
        · rintro ⟨rfl, _⟩
          rw [UInt8.lt_iff_toNat_lt] at h2
          omega
      · rw [if_neg h2, cmp_zero a b]
        have e : x = y := by
          rw [UInt8.lt_iff_toNat_lt] at h1 h2
          exact UInt8.toNat_inj.1 (by omega)
        simp [e]
theorem cmp_trans : ∀ a b c : List UInt8, compareBytes a b < 0 → compareBytes b c < 0 → compareBytes a c < 0
  | [], [], _, h, _ => by simp [compareBytes] at h
  | _ :: _, [], _, h, _ => by simp [compareBytes] at h
  | _, _ :: _, [], _, h => by simp [compareBytes] at h
  | [], _ :: _, _ :: _, _, _ => by simp [compareBytes]
  | x :: a, y :: b, z :: c, h1, h2 => by
    unfold compareBytes at h1 h2 ⊢
    simp only [UInt8.lt_iff_toNat_lt] at h1 h2 ⊢
    have ih := cmp_trans a b c
    repeat' split at h1
    all_goals repeat' split at h2
    all_goals repeat' split
    all_goals first | omega | (exact ih h1 h2)

/-- How two keys compare. -/
def cmpB (a b : ByteArray) : Int := compareBytes a.data.toList b.data.toList
/-- The first key is lower. -/
def kLt (a b : ByteArray) : Prop := cmpB a b < 0

theorem cmpB_neg (a b : ByteArray) : cmpB b a = - cmpB a b := cmp_neg _ _
theorem cmpB_zero (a b : ByteArray) : cmpB a b = 0 ↔ a = b := by
  unfold cmpB
  rw [cmp_zero]
  constructor
  · intro h
    cases a; cases b
    simp only at h
    congr 1
    exact Array.toList_inj.1 h
  · rintro rfl; rfl
theorem kLt_trans {a b c : ByteArray} (h : kLt a b) (k : kLt b c) : kLt a c := cmp_trans _ _ _ h k
theorem kLt_irrefl (a : ByteArray) : ¬ kLt a a := by
  unfold kLt
  rw [(cmpB_zero a a).2 rfl]
  decide
theorem kLt_asymm {a b : ByteArray} (h : kLt a b) : ¬ kLt b a := fun k => kLt_irrefl a (kLt_trans h k)
theorem kLt_ne {a b : ByteArray} (h : kLt a b) : a ≠ b := fun e => kLt_irrefl a (by rw [← e] at h; exact h)
/-- One of three. -/
theorem kLt_tri (a b : ByteArray) : kLt a b ∨ a = b ∨ kLt b a := by
  unfold kLt
  rw [cmpB_neg a b, ← cmpB_zero a b]
  omega
instance (a b : ByteArray) : Decidable (kLt a b) := inferInstanceAs (Decidable (cmpB a b < 0))

/-- An entry under its key. -/
structure Item where
  key : ByteArray
  name : ByteArray
  node : Int

/-- In order, no key twice. -/
def Sorted (l : List Item) : Prop := l.Pairwise fun a b => kLt a.key b.key

/-- Rows with entries between them; no rows: the entries alone. -/
def inter : List Item → List (List Item) → List Item
  | its, [] => its
  | [], l :: _ => l
  | i :: its, l :: ls => l ++ i :: inter its ls
/-- What stands ahead of a row. -/
def pre : List Item → List (List Item) → List Item
  | i :: its, l :: ls => l ++ i :: pre its ls
  | _, _ => []
/-- What stands behind a row. -/
def post : List Item → List (List Item) → List Item
  | i :: its, l :: ls => i :: (l ++ post its ls)
  | _, _ => []

theorem inter_nil (its : List Item) : inter its [] = its := by cases its <;> rfl
theorem inter_post : ∀ (its : List Item) (l : List Item) (ls : List (List Item)), its.length = ls.length → inter its (l :: ls) = l ++ post its ls
  | [], l, [], _ => by simp [inter, post]
  | i :: its, l, m :: ls, h => by
    simp only [inter, post]
    rw [inter_post its m ls (by simpa using h)]
theorem inter_split : ∀ (a : List Item) (x : List (List Item)) (c : List Item) (l : List Item) (y : List (List Item)), a.length = x.length → c.length = y.length →
    inter (a ++ c) (x ++ l :: y) = pre a x ++ l ++ post c y
  | [], [], c, l, y, _, h => by simpa [pre] using inter_post c l y h
  | i :: a, m :: x, c, l, y, h1, h2 => by
    simp only [List.cons_append, inter, pre, List.append_assoc]
    rw [inter_split a x c l y (by simpa using h1) h2]
    simp
/-- Two parts with an entry between them. -/
theorem inter_two : ∀ (a : List Item) (x : List (List Item)) (m : Item) (c : List Item) (y : List (List Item)), x.length = a.length + 1 → y.length = c.length + 1 →
    inter (a ++ m :: c) (x ++ y) = inter a x ++ m :: inter c y
  | [], [l], m, c, y, _, h2 => by simp [inter]
  | i :: a, l :: x, m, c, y, h1, h2 => by
    simp only [List.cons_append, inter, List.append_assoc]
    rw [inter_two a x m c y (by simpa using h1) h2]

theorem pre_last : ∀ (a : List Item) (x : List (List Item)), a.length = x.length → a ≠ [] → ∃ p i, i ∈ a ∧ pre a x = p ++ [i]
  | [i], [l], _, _ => ⟨l, i, by simp, by simp [pre]⟩
  | i :: j :: a, l :: x, h, _ => by
    obtain ⟨p, q, hq, e⟩ := pre_last (j :: a) x (by simpa using h) (by simp)
    exact ⟨l ++ i :: p, q, List.mem_cons_of_mem _ hq, by simp [pre, e]⟩
  | [], _, _, h => absurd rfl h
theorem post_first : ∀ (c : List Item) (y : List (List Item)), c.length = y.length → ∀ i c', c = i :: c' → ∃ p, post c y = i :: p
  | _, l :: y, h, i, c', e => by subst e; exact ⟨_, rfl⟩
  | _, [], h, i, c', e => by subst e; simp at h

theorem Sorted.mid {a b c : List Item} (h : Sorted (a ++ b ++ c)) : Sorted b :=
  (List.pairwise_append.1 (List.pairwise_append.1 h).1).2.1

/-- What stands ahead of a row is lower than a key that the entries ahead are lower than. -/
theorem pre_low {a : List Item} {x : List (List Item)} {t : List Item} {key : ByteArray} (hl : a.length = x.length) (hs : Sorted (pre a x ++ t)) (h : ∀ i ∈ a, kLt i.key key) : ∀ i ∈ pre a x, kLt i.key key := by
  by_cases ha : a = []
  · subst ha
    intro i hi
    cases x <;> simp [pre] at hi
  · obtain ⟨p, q, hq, e⟩ := pre_last a x hl ha
    rw [e] at hs ⊢
    intro i hi
    rcases List.mem_append.1 hi with h1 | h1
    · have := (List.pairwise_append.1 (List.pairwise_append.1 hs).1).2.2 i h1 q (by simp)
      exact kLt_trans this (h q hq)
    · simp at h1
      subst h1
      exact h i hq
theorem post_high {c : List Item} {y : List (List Item)} {t : List Item} {key : ByteArray} (hl : c.length = y.length) (hs : Sorted (t ++ post c y)) (h : ∀ i ∈ c, kLt key i.key) : ∀ i ∈ post c y, kLt key i.key := by
  cases c with
  | nil =>
    intro i hi
    cases y <;> simp [post] at hi
  | cons q c' =>
    obtain ⟨p, e⟩ := post_first (q :: c') y hl q c' rfl
    rw [e] at hs ⊢
    intro i hi
    rcases List.mem_cons.1 hi with h1 | h1
    · subst h1; exact h i (by simp)
    · have := (List.pairwise_cons.1 (List.pairwise_append.1 hs).2.1).1 i h1
      exact kLt_trans (h q (by simp)) this

/-- The entries between the rows are in order, if all is. -/
theorem inter_sub : ∀ (its : List Item) (ls : List (List Item)), ls = [] ∨ ls.length = its.length + 1 → its.Sublist (inter its ls)
  | its, [], _ => by rw [inter_nil]; exact List.Sublist.refl _
  | [], l :: _, _ => by simp
  | i :: its, l :: ls, h => by
    have h' : ls.length = its.length + 1 := by rcases h with h | h <;> simp at h; exact h
    simp only [inter]
    exact List.Sublist.trans (List.Sublist.cons_cons i (inter_sub its ls (.inr h'))) (List.sublist_append_right _ _)
theorem Sorted.items {its : List Item} {ls : List (List Item)} (h : Sorted (inter its ls)) (hl : ls = [] ∨ ls.length = its.length + 1) : Sorted its :=
  List.Pairwise.sublist (inter_sub its ls hl) h

/-- An entry is put. -/
def putL : List Item → Item → List Item
  | [], it => [it]
  | x :: xs, it => if kLt it.key x.key then it :: x :: xs else if x.key = it.key then it :: xs else x :: putL xs it

theorem putL_low {it : Item} : ∀ (a m : List Item), (∀ i ∈ a, kLt i.key it.key) → putL (a ++ m) it = a ++ putL m it
  | [], _, _ => rfl
  | x :: a, m, h => by
    have h1 := h x (by simp)
    simp only [List.cons_append, putL]
    rw [if_neg (kLt_asymm h1), if_neg (kLt_ne h1), putL_low a m (fun i hi => h i (by simp [hi]))]
theorem putL_high {it : Item} : ∀ (m c : List Item), (∀ i ∈ c, kLt it.key i.key) → putL (m ++ c) it = putL m it ++ c
  | [], [], _ => rfl
  | [], y :: c, h => by
    simp only [List.nil_append, putL]
    rw [if_pos (h y (by simp))]
    rfl
  | x :: m, c, h => by
    simp only [List.cons_append, putL]
    split
    · rfl
    · split
      · rfl
      · rw [putL_high m c h]; rfl
theorem putL_at {it : Item} (a c : List Item) (ha : ∀ i ∈ a, kLt i.key it.key) (hc : ∀ i ∈ c, kLt it.key i.key) : putL (a ++ c) it = a ++ it :: c := by
  rw [putL_low a c ha, show c = [] ++ c from rfl, putL_high [] c hc]
  rfl
theorem putL_same {it x : Item} (a c : List Item) (ha : ∀ i ∈ a, kLt i.key it.key) (hx : x.key = it.key) : putL (a ++ x :: c) it = a ++ it :: c := by
  rw [putL_low a _ ha]
  simp only [putL]
  rw [if_neg (by rw [hx]; exact kLt_irrefl _), if_pos hx]

theorem putL_mem {it y : Item} : ∀ (l : List Item), y ∈ putL l it → y = it ∨ y ∈ l
  | [], h => by simp [putL] at h; exact .inl h
  | x :: l, h => by
    simp only [putL] at h
    split at h
    · exact List.mem_cons.1 h
    · split at h
      · exact (List.mem_cons.1 h).imp id (List.mem_cons_of_mem _)
      · rcases List.mem_cons.1 h with h1 | h1
        · right; simp [h1]
        · rcases putL_mem l h1 with h2 | h2
          · exact .inl h2
          · right; simp [h2]
theorem putL_sorted {it : Item} : ∀ {l : List Item}, Sorted l → Sorted (putL l it)
  | [], _ => by simp [putL, Sorted]
  | x :: l, h => by
    have h0 := List.pairwise_cons.1 h
    simp only [putL]
    split
    · rename_i h1
      refine List.pairwise_cons.2 ⟨fun y hy => ?_, h⟩
      rcases List.mem_cons.1 hy with h2 | h2
      · subst h2; exact h1
      · exact kLt_trans h1 (h0.1 y h2)
    · split
      · rename_i h1 h2
        exact List.pairwise_cons.2 ⟨fun y hy => by rw [← h2]; exact h0.1 y hy, h0.2⟩
      · rename_i h1 h2
        refine List.pairwise_cons.2 ⟨fun y hy => ?_, putL_sorted h0.2⟩
        rcases putL_mem l hy with h3 | h3
        · subst h3
          rcases kLt_tri x.key y.key with h4 | h4 | h4
          · exact h4
          · exact absurd h4 h2
          · exact absurd h4 h1
        · exact h0.1 y h3

/-- The entry of a key. -/
def getL (l : List Item) (key : ByteArray) : Option Item := l.find? fun x => decide (x.key = key)
/-- No entry of a key any more. -/
def dropL (l : List Item) (key : ByteArray) : List Item := l.filter fun x => !decide (x.key = key)
/-- Those behind a key. -/
def afterL (l : List Item) (key : ByteArray) : List Item := l.filter fun x => decide (kLt key x.key)

#print axioms putL_sorted
end Go.Proofs.Ytklnonmmamdecab
