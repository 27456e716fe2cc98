/-
  Entries in their order: rows between rows, put, taken away. Plain facts.
-/
import Derived.Lib.Bytealg
import Derived.Test.YtcjfhfalffngjaaLight
namespace Go.Proofs.Ytcjfhfalffngjaa
set_option linter.unusedVariables false
set_option linter.unusedSimpArgs false
open Go.Lib

theorem cmp_neg : ∀ a b : List UInt8, compareBytes b a = - compareBytes a b
  | [], [] => rfl
  | [], _ :: _ => rfl
  | _ :: _, [] => rfl
  | x :: a, y :: b => by
    unfold compareBytes
    by_cases h1 : x < y
    · have h2 : ¬ y < x := by rw [UInt8.lt_iff_toNat_lt] at *; omega
      rw [if_neg h2, if_pos h1, if_pos h1]
      decide
    · by_cases h2 : y < x
      · rw [if_pos h2, if_neg h1, if_pos h2]
      · rw [if_neg h2, if_neg h1, if_neg h1, if_neg h2]
        exact cmp_neg a b
theorem cmp_range : ∀ a b : List UInt8, -1 ≤ compareBytes a b ∧ compareBytes a b ≤ 1
  | [], [] => by decide
  | [], _ :: _ => by simp [compareBytes]
  | _ :: _, [] => by simp [compareBytes]
  | x :: a, y :: b => by
    unfold compareBytes
    have := cmp_range a b
    repeat' split
    all_goals omega
theorem cmp_zero : ∀ a b : List UInt8, compareBytes a b = 0 ↔ a = b
  | [], [] => by simp [compareBytes]
  | [], _ :: _ => by simp [compareBytes]
  | _ :: _, [] => by simp [compareBytes]
  | x :: a, y :: b => by
    unfold compareBytes
    by_cases h1 : x < y
    · rw [if_pos h1]
      simp only [List.cons.injEq]
      constructor
      · intro h; omega
      · rintro ⟨rfl, _⟩
        rw [UInt8.lt_iff_toNat_lt] at h1
        omega
    · rw [if_neg h1]
      by_cases h2 : y < x
      · rw [if_pos h2]
        simp only [List.cons.injEq]
        constructor
        · intro h; omega
        · rintro ⟨rfl, _⟩
          rw [UInt8.lt_iff_toNat_lt] at h2
          omega
      · rw [if_neg h2, cmp_zero a b]
        have e : x = y := by
          rw [UInt8.lt_iff_toNat_lt] at h1 h2
          exact UInt8.toNat_inj.1 (by omega)
        simp [e]
theorem cmp_trans : ∀ a b c : List UInt8, compareBytes a b < 0 → compareBytes b c < 0 → compareBytes a c < 0
  | [], [], _, h, _ => by simp [compareBytes] at h
  | _ :: _, [], _, h, _ => by simp [compareBytes] at h
  | _, _ :: _, [], _, h => by simp [compareBytes] at h
  | [], _ :: _, _ :: _, _, _ => by simp [compareBytes]
  | x :: a, y :: b, z :: c, h1, h2 => by
    unfold compareBytes at h1 h2 ⊢
    simp only [UInt8.lt_iff_toNat_lt] at h1 h2 ⊢
    have ih := cmp_trans a b c
    repeat' split at h1
    all_goals repeat' split at h2
    all_goals repeat' split
    all_goals first | omega | (exact ih h1 h2)

/-- How two keys compare. -/
def cmpB (a b : ByteArray) : Int := compareBytes a.data.toList b.data.toList
/-- The first key is lower. -/
def kLt (a b : ByteArray) : Prop := cmpB a b < 0

theorem cmpB_neg (a b : ByteArray) : cmpB b a = - cmpB a b := cmp_neg _ _
theorem cmpB_zero (a b : ByteArray) : cmpB a b = 0 ↔ a = b := by
  unfold cmpB
  rw [cmp_zero]
  constructor
  · intro h
    cases a; cases b
    simp only at h
    congr 1
    exact Array.toList_inj.1 h
  · rintro rfl; rfl
theorem kLt_trans {a b c : ByteArray} (h : kLt a b) (k : kLt b c) : kLt a c := cmp_trans _ _ _ h k
theorem kLt_irrefl (a : ByteArray) : ¬ kLt a a := by
  unfold kLt
  rw [(cmpB_zero a a).2 rfl]
  decide
theorem kLt_asymm {a b : ByteArray} (h : kLt a b) : ¬ kLt b a := fun k => kLt_irrefl a (kLt_trans h k)
theorem kLt_ne {a b : ByteArray} (h : kLt a b) : a ≠ b := fun e => kLt_irrefl a (by rw [← e] at h; exact h)
/-- One of three. -/
theorem kLt_tri (a b : ByteArray) : kLt a b ∨ a = b ∨ kLt b a := by
  unfold kLt
  rw [cmpB_neg a b, ← cmpB_zero a b]
  omega
instance (a b : ByteArray) : Decidable (kLt a b) := inferInstanceAs (Decidable (cmpB a b < 0))

/-- In order, no key twice. -/
def Sorted (l : List ChD) : Prop := l.Pairwise fun a b => kLt a.key b.key

/-- An entry is put. -/
def putL : List ChD → ChD → List ChD
  | [], it => [it]
  | x :: xs, it => if kLt it.key x.key then it :: x :: xs else if x.key = it.key then it :: xs else x :: putL xs it

theorem putL_low {it : ChD} : ∀ (a m : List ChD), (∀ i ∈ a, kLt i.key it.key) → putL (a ++ m) it = a ++ putL m it
  | [], _, _ => rfl
  | x :: a, m, h => by
    have h1 := h x (by simp)
    simp only [List.cons_append, putL]
    rw [if_neg (kLt_asymm h1), if_neg (kLt_ne h1), putL_low a m (fun i hi => h i (by simp [hi]))]
theorem putL_high {it : ChD} : ∀ (m c : List ChD), (∀ i ∈ c, kLt it.key i.key) → putL (m ++ c) it = putL m it ++ c
  | [], [], _ => rfl
  | [], y :: c, h => by
    simp only [List.nil_append, putL]
    rw [if_pos (h y (by simp))]
    rfl
  | x :: m, c, h => by
    simp only [List.cons_append, putL]
    split
    · rfl
    · split
      · rfl
      · rw [putL_high m c h]; rfl
theorem putL_at {it : ChD} (a c : List ChD) (ha : ∀ i ∈ a, kLt i.key it.key) (hc : ∀ i ∈ c, kLt it.key i.key) : putL (a ++ c) it = a ++ it :: c := by
  rw [putL_low a c ha, show c = [] ++ c from rfl, putL_high [] c hc]
  rfl
theorem putL_same {it x : ChD} (a c : List ChD) (ha : ∀ i ∈ a, kLt i.key it.key) (hx : x.key = it.key) : putL (a ++ x :: c) it = a ++ it :: c := by
  rw [putL_low a _ ha]
  simp only [putL]
  rw [if_neg (by rw [hx]; exact kLt_irrefl _), if_pos hx]

theorem putL_mem {it y : ChD} : ∀ (l : List ChD), y ∈ putL l it → y = it ∨ y ∈ l
  | [], h => by simp [putL] at h; exact .inl h
  | x :: l, h => by
    simp only [putL] at h
    split at h
    · exact List.mem_cons.1 h
    · split at h
      · exact (List.mem_cons.1 h).imp id (List.mem_cons_of_mem _)
      · rcases List.mem_cons.1 h with h1 | h1
        · right; simp [h1]
        · rcases putL_mem l h1 with h2 | h2
          · exact .inl h2
          · right; simp [h2]
theorem putL_sorted {it : ChD} : ∀ {l : List ChD}, Sorted l → Sorted (putL l it)
  | [], _ => by simp [putL, Sorted]
  | x :: l, h => by
    have h0 := List.pairwise_cons.1 h
    simp only [putL]
    split
    · rename_i h1
      refine List.pairwise_cons.2 ⟨fun y hy => ?_, h⟩
      rcases List.mem_cons.1 hy with h2 | h2
      · subst h2; exact h1
      · exact kLt_trans h1 (h0.1 y h2)
    · split
      · rename_i h1 h2
        exact List.pairwise_cons.2 ⟨fun y hy => by rw [← h2]; exact h0.1 y hy, h0.2⟩
      · rename_i h1 h2
        refine List.pairwise_cons.2 ⟨fun y hy => ?_, putL_sorted h0.2⟩
        rcases putL_mem l hy with h3 | h3
        · subst h3
          rcases kLt_tri x.key y.key with h4 | h4 | h4
          · exact h4
          · exact absurd h4 h2
          · exact absurd h4 h1
        · exact h0.1 y h3

/-- The entry of a key. -/
def getL (l : List ChD) (key : ByteArray) : Option ChD := l.find? fun x => decide (x.key = key)
/-- No entry of a key any more. -/
def dropL (l : List ChD) (key : ByteArray) : List ChD := l.filter fun x => !decide (x.key = key)
/-- Those behind a key. -/
def afterL (l : List ChD) (key : ByteArray) : List ChD := l.filter fun x => decide (kLt key x.key)

#print axioms putL_sorted
open Go.RowKit
/-- An entry's three cells. -/
def cellsOf (it : ChD) : List Value := [.string it.key, .string it.val, .bool it.gone]
def flat (l : List ChD) : List Value := l.flatMap cellsOf
theorem flat_nil : flat [] = [] := rfl
theorem flat_cons (x : ChD) (l : List ChD) : flat (x :: l) = .string x.key :: .string x.val :: .bool x.gone :: flat l := rfl
theorem flat_append (a b : List ChD) : flat (a ++ b) = flat a ++ flat b := by simp [flat]
theorem flat_length (l : List ChD) : (flat l).length = l.length * 3 := by
  induction l with
  | nil => rfl
  | cons x l ih => rw [flat_cons]; simp [ih]; omega
theorem flat_take (l : List ChD) (n : Nat) : (flat l).take (n * 3) = flat (l.take n) := by
  induction l generalizing n with
  | nil => simp [flat]
  | cons x l ih =>
    cases n with
    | zero => simp [flat]
    | succ n => rw [show (n + 1) * 3 = n * 3 + 1 + 1 + 1 by omega]; simp only [flat_cons, List.take_succ_cons, ih]
theorem flat_drop (l : List ChD) (n : Nat) : (flat l).drop (n * 3) = flat (l.drop n) := by
  induction l generalizing n with
  | nil => simp [flat]
  | cons x l ih =>
    cases n with
    | zero => simp [flat]
    | succ n => rw [show (n + 1) * 3 = n * 3 + 1 + 1 + 1 by omega]; simp only [flat_cons, List.drop_succ_cons, ih]
theorem flat_get (l : List ChD) (i : Nat) (h : i < l.length) : (flat l)[i * 3]? = some (.string (l[i]).key) ∧ (flat l)[i * 3 + 1]? = some (.string (l[i]).val) ∧ (flat l)[i * 3 + 2]? = some (.bool (l[i]).gone) := by
  induction l generalizing i with
  | nil => simp at h
  | cons x l ih =>
    cases i with
    | zero => simp [flat_cons]
    | succ i =>
      have := ih i (by simpa using h)
      rw [show (i + 1) * 3 = i * 3 + 1 + 1 + 1 by omega]
      simp only [flat_cons, List.getElem_cons_succ]
      simpa using this
theorem flat_one (l : List ChD) : ∀ u ∈ flat l, u.oneCell' = true := by
  intro u hu
  obtain ⟨x, _, hx⟩ := List.mem_flatMap.1 hu
  simp [cellsOf] at hx
  rcases hx with rfl | rfl | rfl <;> rfl
/-- An entry in another's place. -/
theorem flat_set (l : List ChD) (i : Nat) (x : ChD) (h : i < l.length) : (((flat l).set (i * 3) (.string x.key)).set (i * 3 + 1) (.string x.val)).set (i * 3 + 2) (.bool x.gone) = flat (l.set i x) := by
  induction l generalizing i with
  | nil => simp at h
  | cons y l ih =>
    cases i with
    | zero => simp [flat_cons]
    | succ i =>
      have := ih i (by simpa using h)
      rw [show (i + 1) * 3 = i * 3 + 1 + 1 + 1 by omega]
      simp only [flat_cons, List.set_cons_succ, ← this]

#print axioms flat_set
end Go.Proofs.Ytcjfhfalffngjaa
