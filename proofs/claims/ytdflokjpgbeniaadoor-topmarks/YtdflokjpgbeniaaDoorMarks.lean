/-
  What the sort leaves of marks: those of class 202, then the others, each as they stood. Plain facts.
-/
import Derived.Test.YtdflokjpgbeniaaDoorSort
namespace Go.Proofs.YtdflokjpgbeniaaDoor
open Go.Sort

/-- A mark. -/
def Mark (r : Int) : Prop := classZ r = 202 ∨ classZ r = 230
/-- Marks in the order of their classes. -/
def sortM (l : List Int) : List Int := l.filter (fun r => classZ r == 202) ++ l.filter (fun r => !(classZ r == 202))

theorem last_or (l : List Int) : l = [] ∨ ∃ A a, l = A ++ [a] := by
  rcases List.eq_nil_or_concat l with h | ⟨A, a, h⟩
  · exact .inl h
  · exact .inr ⟨A, a, by rw [h, List.concat_eq_append]⟩
theorem get_list (A R : List Int) (b : Int) : (A ++ b :: R).toArray[A.length]! = b := by
  simp
theorem swp_list (A R : List Int) (b x : Int) : swp (A ++ b :: x :: R).toArray (A.length + 1) A.length = (A ++ x :: b :: R).toArray := by
  unfold swp
  have h1 : (A ++ b :: x :: R).toArray[A.length]! = b := get_list _ _ _
  have h2 : (A ++ b :: x :: R).toArray[A.length + 1]! = x := by
    simp
  rw [h1, h2]
  simp

theorem bubble (x : Int) (hx : classZ x = 202) (A : List Int) (hA : ∀ a ∈ A, classZ a = 202) : ∀ (n : Nat) (B R : List Int), B.length = n → (∀ b ∈ B, classZ b = 230) →
    insInner (ltOf cmpZ) 0 (A.length + B.length) (A ++ B ++ x :: R).toArray = (A ++ x :: B ++ R).toArray := by
  intro n
  induction n with
  | zero =>
    intro B R hn _
    have : B = [] := List.eq_nil_of_length_eq_zero hn
    subst this
    simp only [List.append_nil, List.length_nil, Nat.add_zero]
    rcases last_or A with rfl | ⟨A', a, rfl⟩
    · rw [insInner_stop _ _ _ _ (.inl (by simp))]
      simp
    · rw [insInner_stop]
      · simp
      · right
        have e1 : ((A' ++ [a]) ++ x :: R).toArray[(A' ++ [a]).length]! = x := get_list _ _ _
        have e2 : ((A' ++ [a]) ++ x :: R).toArray[(A' ++ [a]).length - 1]! = a := by
          simp
        rw [e1, e2]
        have ha := hA a (by simp)
        simp [ltOf, cmpZ, hx, ha]
  | succ n ih =>
    intro B R hn hB
    rcases last_or B with rfl | ⟨B', b, rfl⟩
    · simp at hn
    · have hl : A.length + (B' ++ [b]).length = (A ++ B').length + 1 := by simp; omega
      have hb := hB b (by simp)
      have e0 : A ++ (B' ++ [b]) ++ x :: R = (A ++ B') ++ b :: x :: R := by simp
      rw [hl, e0, insInner_go]
      · rw [Nat.add_sub_cancel, swp_list]
        have := ih B' (b :: R) (by simpa using hn) (fun c hc => hB c (by simp [hc]))
        rw [List.length_append, this]
        simp
      · omega
      · have e1 : ((A ++ B') ++ b :: x :: R).toArray[(A ++ B').length + 1]! = x := by
          have e : (A ++ B') ++ b :: x :: R = (A ++ B' ++ [b]) ++ x :: R := by simp
          have el : (A ++ B').length + 1 = (A ++ B' ++ [b]).length := by simp; omega
          rw [e, el]
          exact get_list _ _ _
        have e2 : ((A ++ B') ++ b :: x :: R).toArray[(A ++ B').length + 1 - 1]! = b := get_list _ _ _
        rw [e1, e2]
        simp [ltOf, cmpZ, hx, hb]

theorem stays (x : Int) (S R : List Int) (hx : classZ x = 230) (hS : ∀ a ∈ S, Mark a) : insInner (ltOf cmpZ) 0 S.length (S ++ x :: R).toArray = (S ++ x :: R).toArray := by
  rcases last_or S with rfl | ⟨A', a, rfl⟩
  · rw [insInner_stop _ _ _ _ (.inl (by simp))]
  · rw [insInner_stop]
    right
    have e1 : ((A' ++ [a]) ++ x :: R).toArray[(A' ++ [a]).length]! = x := get_list _ _ _
    have e2 : ((A' ++ [a]) ++ x :: R).toArray[(A' ++ [a]).length - 1]! = a := by
      simp
    rw [e1, e2]
    rcases hS a (by simp) with ha | ha <;> simp [ltOf, cmpZ, hx, ha]

theorem sortM_mem (l : List Int) (a : Int) : a ∈ sortM l ↔ a ∈ l := by
  unfold sortM
  rw [List.mem_append, List.mem_filter, List.mem_filter]
  cases h : classZ a == 202 <;> simp
theorem sortM_length (l : List Int) : (sortM l).length = l.length := by
  induction l with
  | nil => rfl
  | cons x l ih =>
    unfold sortM at ih ⊢
    rw [List.length_append] at ih ⊢
    rw [List.filter_cons, List.filter_cons]
    cases h : classZ x == 202 <;> simp <;> omega

theorem step (pre R : List Int) (x : Int) (hp : ∀ a ∈ pre, Mark a) (hx : Mark x) : insInner (ltOf cmpZ) 0 pre.length (sortM pre ++ x :: R).toArray = (sortM (pre ++ [x]) ++ R).toArray := by
  rw [← sortM_length pre]
  rcases hx with hx | hx
  · have h1 : sortM (pre ++ [x]) = pre.filter (fun r => classZ r == 202) ++ x :: pre.filter (fun r => !(classZ r == 202)) := by
      simp [sortM, List.filter_append, hx]
    rw [h1]
    have := bubble x hx (pre.filter (fun r => classZ r == 202)) (fun a ha => by simpa using (List.mem_filter.1 ha).2) _ (pre.filter (fun r => !(classZ r == 202))) R rfl (fun b hb => by
      have hb1 := List.mem_filter.1 hb
      rcases hp b hb1.1 with h | h
      · simp [h] at hb1
      · exact h)
    have e : (sortM pre).length = (pre.filter (fun r => classZ r == 202)).length + (pre.filter (fun r => !(classZ r == 202))).length := by
      unfold sortM
      rw [List.length_append]
    rw [e]
    unfold sortM
    rw [this]
  · have h1 : sortM (pre ++ [x]) = sortM pre ++ [x] := by simp [sortM, List.filter_append, hx]
    rw [h1, stays x _ R hx (fun a ha => hp a ((sortM_mem _ _).1 ha))]
    simp

theorem outer : ∀ (R pre : List Int), (∀ a ∈ pre, Mark a) → (∀ a ∈ R, Mark a) → insOuter (ltOf cmpZ) 0 (pre.length + R.length) pre.length (sortM pre ++ R).toArray = (sortM (pre ++ R)).toArray
  | [], pre, _, _ => by
    rw [insOuter_stop _ _ _ _ _ (by simp)]
    simp
  | x :: R, pre, hp, hR => by
    rw [insOuter_go _ _ _ _ _ (by simp), step pre R x hp (hR x (by simp))]
    have := outer R (pre ++ [x]) (fun a ha => by
      rcases List.mem_append.1 ha with h | h
      · exact hp a h
      · simp at h; subst h; exact hR a (by simp)) (fun a ha => hR a (by simp [ha]))
    simp only [List.length_append, List.length_cons, List.length_nil] at this ⊢
    rw [show pre.length + (R.length + 1) = pre.length + (0 + 1) + R.length by omega, show pre.length + 1 = pre.length + (0 + 1) by omega, this]
    simp

/-- WHAT THE SORT LEAVES. -/
theorem sorted_marks (l : List Int) (h : ∀ a ∈ l, Mark a) : sorted l.toArray = (sortM l).toArray := by
  unfold sorted insertionSort
  cases l with
  | nil =>
    rw [insOuter_stop _ _ _ _ _ (by simp)]
    rfl
  | cons x l =>
    have h1 : sortM [x] = [x] := by
      unfold sortM
      cases h : classZ x == 202 <;> simp [h]
    have := outer l [x] (fun a ha => by simp at ha; subst ha; exact h a (by simp)) (fun a ha => h a (by simp [ha]))
    rw [h1] at this
    simpa [Nat.add_comm] using this
end Go.Proofs.YtdflokjpgbeniaaDoor
