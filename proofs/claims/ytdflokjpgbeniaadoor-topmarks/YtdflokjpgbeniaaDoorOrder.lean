/-
  How bytes compare; what the signs of a name are once they are folded. Plain facts.
-/
import Derived.Test.YtdflokjpgbeniaaDoorCheck
import Derived.Test.YtdflokjpgbeniaaDoorKey
namespace Go.Proofs.YtdflokjpgbeniaaDoor
open Go.Lib

theorem cmp_neg : ∀ a b : List UInt8, compareBytes b a = - compareBytes a b
  | [], [] => rfl
  | [], _ :: _ => rfl
  | _ :: _, [] => rfl
  | x :: a, y :: b => by
    unfold compareBytes
    by_cases h1 : x < y
    · have h2 : ¬ y < x := by rw [UInt8.lt_iff_toNat_lt] at *; omega
      rw [if_neg h2, if_pos h1, if_pos h1]
      decide
    · by_cases h2 : y < x
      · rw [if_pos h2, if_neg h1, if_pos h2]
      · rw [if_neg h2, if_neg h1, if_neg h1, if_neg h2]
        exact cmp_neg a b
theorem cmp_range : ∀ a b : List UInt8, -1 ≤ compareBytes a b ∧ compareBytes a b ≤ 1
  | [], [] => by decide
  | [], _ :: _ => by simp [compareBytes]
  | _ :: _, [] => by simp [compareBytes]
  | x :: a, y :: b => by
    unfold compareBytes
    have := cmp_range a b
    repeat' split
    all_goals omega
theorem cmp_zero : ∀ a b : List UInt8, compareBytes a b = 0 ↔ a = b
  | [], [] => by simp [compareBytes]
  | [], _ :: _ => by simp [compareBytes]
  | _ :: _, [] => by simp [compareBytes]
  | x :: a, y :: b => by
    unfold compareBytes
    by_cases h1 : x < y
    · rw [if_pos h1]
      simp only [List.cons.injEq]
      constructor
      · intro h; omega
      · rintro ⟨rfl, _⟩
        rw [UInt8.lt_iff_toNat_lt] at h1
        omega
    · rw [if_neg h1]
      by_cases h2 : y < x
      · rw [if_pos h2]
        simp only [List.cons.injEq]
        constructor
        · intro h; omega
        · rintro ⟨rfl, _⟩
          rw [UInt8.lt_iff_toNat_lt] at h2
          omega
      · rw [if_neg h2, cmp_zero a b]
        have e : x = y := by
          rw [UInt8.lt_iff_toNat_lt] at h1 h2
          exact UInt8.toNat_inj.1 (by omega)
        simp [e]
theorem cmp_trans : ∀ a b c : List UInt8, compareBytes a b < 0 → compareBytes b c < 0 → compareBytes a c < 0
  | [], [], _, h, _ => by simp [compareBytes] at h
  | _ :: _, [], _, h, _ => by simp [compareBytes] at h
  | _, _ :: _, [], _, h => by simp [compareBytes] at h
  | [], _ :: _, _ :: _, _, _ => by simp [compareBytes]
  | x :: a, y :: b, z :: c, h1, h2 => by
    unfold compareBytes at h1 h2 ⊢
    simp only [UInt8.lt_iff_toNat_lt] at h1 h2 ⊢
    have ih := cmp_trans a b c
    repeat' split at h1
    all_goals repeat' split at h2
    all_goals repeat' split
    all_goals first | omega | (exact ih h1 h2)

/-- A base that is folded, or the two together. -/
def BaseF (r : Int) : Prop := r = 32 ∨ r = 45 ∨ r = 46 ∨ r = 95 ∨ r = 963 ∨ (97 ≤ r ∧ r ≤ 122) ∨ (48 ≤ r ∧ r ≤ 57)

theorem weight_table : ∀ n : Fin 128, (n.val = 32 ∨ n.val = 45 ∨ n.val = 46 ∨ n.val = 95 ∨ (97 ≤ n.val ∧ n.val ≤ 122) ∨ (48 ≤ n.val ∧ n.val ≤ 57) ∨ n.val = 67) → 2 ≤ weightE (n.val : Int) := by decide +kernel
theorem weight_base {r : Int} (h : BaseF r ∨ r = 67) : 2 ≤ weightE r := by
  rcases h with (h | h | h | h | h | h | h) | h
  all_goals first
    | (have := weight_table ⟨r.toNat, by omega⟩ (by simp only; omega); simpa [Int.toNat_of_nonneg (show 0 ≤ r by omega)] using this)
    | (subst h; decide +kernel)
theorem weight_mark {r : Int} (h : Mark r) : weightE r = 0 ∧ 2 ≤ weightM r := by
  rcases mark_four h with rfl | rfl | rfl | rfl <;> exact ⟨by decide +kernel, by decide⟩

/-- The parts of a sign that is there: bases and marks. -/
theorem parts_sign {r : Int} (h : isZ r = true) : ∀ p ∈ splitZ r, baseZ p = true ∨ Mark p := by
  intro p hp
  unfold splitZ at hp
  cases hB : wholeB r with
  | true =>
    rw [hB] at hp
    obtain ⟨hm, _⟩ := whole_mem r hB
    have hf := tab_facts _ hm
    simp at hp
    rcases hp with rfl | rfl
    · exact .inl hf.2.2.1
    · exact .inr (mark_of_class (by have := hf.2.2.2.1; omega))
  | false =>
    rw [hB] at hp
    simp at hp
    subst hp
    unfold isZ at h
    rw [hB] at h
    simp only [Bool.false_or, Bool.or_eq_true, bne_iff_ne] at h
    rcases h with h | h
    · exact .inl h
    · exact .inr (mark_of_class h)
theorem fold_base {p : Int} (h : baseZ p = true) : BaseF (foldZ p) := by
  have h := of_decide_eq_true h
  unfold foldZ BaseF
  split
  · omega
  · split <;> omega
theorem fold_mark {p : Int} (h : Mark p) : foldZ p = p := by
  have := mark_range h
  unfold foldZ
  rw [if_neg (by omega), if_neg (by omega)]

theorem fold_kind {rs : List Int} (h : ∀ r ∈ rs, isZ r = true) : ∀ q ∈ foldL rs, BaseF q ∨ Mark q := by
  intro q hq
  obtain ⟨p, hp, rfl⟩ := List.mem_map.1 hq
  obtain ⟨r, hr, hpr⟩ := List.mem_flatMap.1 (splitL_mem p hp)
  rcases parts_sign (h r hr) p hpr with hb | hm
  · exact .inl (fold_base hb)
  · rw [fold_mark hm]
    exact .inr hm

theorem repl_kind {ts : List Int} (h : ∀ q ∈ ts, BaseF q ∨ Mark q) : ∀ q ∈ repl ts, (BaseF q ∨ q = 67) ∨ Mark q := by
  induction ts using repl.induct with
  | case1 => simp [repl]
  | case2 r =>
    intro q hq
    simp [repl] at hq
    subst hq
    rcases h q (by simp) with h1 | h1
    · exact .inl (.inl h1)
    · exact .inr h1
  | case3 r q t hc ih =>
    rw [repl, if_pos hc]
    intro x hx
    rcases List.mem_cons.1 hx with rfl | hx
    · exact .inl (.inr rfl)
    · exact ih (fun y hy => h y (by simp [hy])) x hx
  | case4 r q t hc ih =>
    rw [repl, if_neg hc]
    intro x hx
    rcases List.mem_cons.1 hx with rfl | hx
    · rcases h x (by simp) with h1 | h1
      · exact .inl (.inl h1)
      · exact .inr h1
    · exact ih (fun y hy => h y (by simp at hy ⊢; exact .inr hy)) x hx

theorem kind_elem {q : Int} (h : (BaseF q ∨ q = 67) ∨ Mark q) : Elem q := by
  unfold Elem
  rcases h with (h | h) | h
  · unfold BaseF at h
    omega
  · omega
  · exact .inr (.inr h)

/-- What a name's key is made of. -/
def elems (rs : List Int) : List Int := repl (foldL rs)

theorem Name.elem {rs : List Int} (h : Name rs) : ∀ r ∈ repl (foldL rs), Elem r := fun r hr => kind_elem (repl_kind (fold_kind h.signs) r hr)

theorem runS_head (p : Int) (ps : List Int) (h : classZ p = 0) : ∃ t, (runS (p :: ps)).1 = p :: t := by
  suffices hh : ∀ (l : List Int) (st : List Int × List Int), (∃ t, st.1 = p :: t) → ∃ t, (l.foldl stepS st).1 = p :: t by
    unfold runS
    rw [List.foldl_cons]
    refine hh ps _ ⟨[], ?_⟩
    unfold stepS
    rw [if_pos h]
    rfl
  intro l
  induction l with
  | nil => exact fun st h => h
  | cons x l ih =>
    intro st ⟨t, ht⟩
    rw [List.foldl_cons]
    refine ih _ ?_
    unfold stepS
    split
    · exact ⟨t ++ sortM st.2 ++ [x], by simp [ht]⟩
    · exact ⟨t, ht⟩

theorem first_part {r : Int} (h : isZ r = true) (hc : classZ r = 0) : ∃ p t, splitZ r = p :: t ∧ classZ p = 0 ∧ baseZ p = true := by
  unfold splitZ
  cases hB : wholeB r with
  | true =>
    obtain ⟨hm, _⟩ := whole_mem r hB
    have hf := tab_facts _ hm
    exact ⟨_, _, rfl, base_class _ hf.2.2.1, hf.2.2.1⟩
  | false =>
    refine ⟨r, [], rfl, hc, ?_⟩
    unfold isZ at h
    rw [hB, hc] at h
    simpa using h

theorem Name.fold_head {rs : List Int} (h : Name rs) : ∃ q t, foldL rs = q :: t ∧ BaseF q := by
  obtain ⟨r, t, rfl⟩ : ∃ r t, rs = r :: t := by
    cases hrs : rs with
    | nil => exact absurd hrs h.ne
    | cons r t => exact ⟨r, t, rfl⟩
  obtain ⟨p, t2, hp, hc, hb⟩ := first_part (h.signs r (by simp)) (h.first r t rfl)
  have e : partsL (r :: t) = p :: (t2 ++ partsL t) := by
    show splitZ r ++ partsL t = _
    rw [hp]
    rfl
  obtain ⟨t3, h3⟩ := runS_head p (t2 ++ partsL t) hc
  refine ⟨foldZ p, (t3 ++ sortM (runS (partsL (r :: t))).2).map foldZ, ?_, fold_base hb⟩
  unfold foldL splitL
  rw [e] at *
  rw [h3]
  simp

theorem repl_head {q : Int} {t : List Int} (h : BaseF q) : ∃ q' t', repl (q :: t) = q' :: t' ∧ (BaseF q' ∨ q' = 67) := by
  cases t with
  | nil => exact ⟨q, [], by rw [repl], .inl h⟩
  | cons x t =>
    rw [repl]
    split
    · exact ⟨_, _, rfl, .inr rfl⟩
    · exact ⟨_, _, rfl, .inl h⟩

theorem runK_ne {q : Int} {t : List Int} (h : weightE q ≠ 0) : (runK (q :: t)).1 ≠ [] := by
  suffices hh : ∀ (l : List Int) (st : List Int × List Int), st.1 ≠ [] → (l.foldl stepK st).1 ≠ [] by
    unfold runK
    rw [List.foldl_cons]
    refine hh t _ ?_
    unfold stepK
    rw [if_pos h]
    simp
  intro l
  induction l with
  | nil => exact fun st h => h
  | cons x l ih =>
    intro st hs
    rw [List.foldl_cons]
    refine ih _ ?_
    unfold stepK
    split
    · simp
    · split
      · exact hs
      · exact hs

theorem Name.key_ne {rs : List Int} (h : Name rs) : (runK (repl (foldL rs))).1 ≠ [] := by
  obtain ⟨q, t, e, hb⟩ := h.fold_head
  obtain ⟨q', t', e', hb'⟩ := repl_head (t := t) hb
  rw [e, e']
  exact runK_ne (by have := weight_base hb'; omega)
end Go.Proofs.YtdflokjpgbeniaaDoor
