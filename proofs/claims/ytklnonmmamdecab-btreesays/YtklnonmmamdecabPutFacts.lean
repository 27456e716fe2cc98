/-
  What putting an entry makes of rows with entries between them. Plain facts.
-/
import Derived.Test.YtklnonmmamdecabOwn
import Derived.Test.YtklnonmmamdecabSearch
namespace Go.Proofs.Ytklnonmmamdecab

/-- One entry between the rows in another's place. -/
theorem inter_set : ∀ (a : List Item) (c : List Item) (ls : List (List Item)), (ls = [] ∨ ls.length = a.length + c.length + 2) → ∃ A C, ∀ y, inter (a ++ y :: c) ls = A ++ y :: C
  | a, c, [], _ => ⟨a, c, fun y => by rw [inter_nil]⟩
  | [], c, l :: ls, _ => ⟨l, inter c ls, fun y => rfl⟩
  | i :: a, c, l :: ls, h => by
    have h' : ls.length = a.length + c.length + 2 := by rcases h with h | h <;> simp at h; omega
    obtain ⟨A, C, e⟩ := inter_set a c ls (.inr h')
    exact ⟨l ++ i :: A, C, fun y => by simp only [List.cons_append, inter]; rw [e y]; simp⟩
theorem Sorted.putL_here {it x : Item} {A C : List Item} (h : Sorted (A ++ x :: C)) (hx : x.key = it.key) : putL (A ++ x :: C) it = A ++ it :: C :=
  putL_same A C (fun i hi => by rw [← hx]; exact (List.pairwise_append.1 h).2.2 i hi x (by simp)) hx

/-- The rows' entries ahead of a key and behind it. -/
theorem put_mid {a c : List Item} {x y : List (List Item)} {l : List Item} {it : Item} (h1 : a.length = x.length) (h2 : c.length = y.length) (hs : Sorted (inter (a ++ c) (x ++ l :: y))) (ha : ∀ i ∈ a, kLt i.key it.key) (hc : ∀ i ∈ c, kLt it.key i.key) :
    putL (inter (a ++ c) (x ++ l :: y)) it = inter (a ++ c) (x ++ putL l it :: y) ∧ Sorted l := by
  rw [inter_split a x c l y h1 h2] at hs ⊢
  rw [inter_split a x c _ y h1 h2]
  have hp := pre_low h1 (t := l ++ post c y) (by rw [← List.append_assoc]; exact hs) ha
  have hq := post_high h2 hs hc
  exact ⟨by rw [List.append_assoc, putL_low _ _ hp, putL_high _ _ hq]; simp, hs.mid⟩
theorem inter_up {a c : List Item} {x y : List (List Item)} {l1 l2 : List Item} {m : Item} (h1 : a.length = x.length) (h2 : c.length = y.length) : inter (a ++ m :: c) (x ++ l1 :: l2 :: y) = inter (a ++ c) (x ++ (l1 ++ m :: l2) :: y) := by
  rw [inter_split a x (m :: c) l1 (l2 :: y) h1 (by simp [h2]), inter_split a x c _ y h1 h2]
  simp [post]

theorem Shape.sorted {h : Nat} {its : List Item} {kids : List Kid} (hs : Shape h its kids) (hL : Sorted (inter its (kids.map Kid.L))) : Sorted its :=
  hL.items (by rcases hs with ⟨_, rfl⟩ | ⟨_, hl⟩; exact .inl rfl; exact .inr (by simpa using hl))

/-- Where a key is found, or goes. -/
theorem Found.split {its : List Item} {key : ByteArray} {at' : Nat} {is' : Bool} (h : Found its key at' is') :
    (is' = true ∧ ∃ a x c, its = a ++ x :: c ∧ a.length = at' ∧ x.key = key ∧ ∀ i ∈ a, kLt i.key key) ∨ (is' = false ∧ ∃ a c, its = a ++ c ∧ a.length = at' ∧ (∀ i ∈ a, kLt i.key key) ∧ ∀ i ∈ c, kLt key i.key) := by
  obtain ⟨hl, ha, hr⟩ := h
  rcases hr with ⟨h1, x, hx, hk⟩ | ⟨h1, hc⟩
  · left
    obtain ⟨hlt, rfl⟩ := List.getElem?_eq_some_iff.1 hx
    exact ⟨h1, its.take at', its[at'], its.drop (at' + 1), by rw [← List.drop_eq_getElem_cons hlt, List.take_append_drop], by rw [List.length_take]; omega, hk, ha⟩
  · right
    exact ⟨h1, its.take at', its.drop at', (List.take_append_drop _ _).symm, by rw [List.length_take]; omega, ha, hc⟩

#print axioms put_mid
end Go.Proofs.Ytklnonmmamdecab
