/-
  What is split up is split up once; what is folded is folded once; letters the other way round are alike. Plain facts; no Go text.
-/
import Derived.Test.YtdflokjpgbeniaaDoorInj
namespace Go.Proofs.YtdflokjpgbeniaaDoor

/-- Parts, put in order. -/
def joinS (ps : List Int) : List Int := (runS ps).1 ++ sortM (runS ps).2
theorem splitL_join (rs : List Int) : splitL rs = joinS (partsL rs) := rfl

theorem sortM_map (f : Int → Int) (hf : ∀ r, classZ (f r) = classZ r) (l : List Int) : sortM (l.map f) = (sortM l).map f := by
  unfold sortM
  rw [List.filter_map, List.filter_map, List.map_append]
  have e1 : ((fun r => classZ r == 202) ∘ f) = fun r => classZ r == 202 := by funext r; simp [hf]
  have e2 : ((fun r => !(classZ r == 202)) ∘ f) = fun r => !(classZ r == 202) := by funext r; simp [hf]
  rw [e1, e2]
theorem filter_none (l : List Int) : l.filter (fun _ => false) = [] := List.filter_eq_nil_iff.2 (fun _ _ h => by cases h)
theorem sortM_sortM (l : List Int) : sortM (sortM l) = sortM l := by
  unfold sortM
  rw [List.filter_append, List.filter_append, List.filter_filter, List.filter_filter, List.filter_filter, List.filter_filter]
  have e1 : (fun a => (classZ a == 202) && !(classZ a == 202)) = fun _ => false := by funext a; cases classZ a == 202 <;> rfl
  have e2 : (fun a => !(classZ a == 202) && (classZ a == 202)) = fun _ => false := by funext a; cases classZ a == 202 <;> rfl
  rw [e1, e2, filter_none, List.append_nil, List.nil_append]
  simp

theorem foldl_map (f : Int → Int) (hf : ∀ r, classZ (f r) = classZ r) : ∀ (ps : List Int) (st : List Int × List Int), (ps.map f).foldl stepS (st.1.map f, st.2.map f) = (((ps.foldl stepS st).1).map f, ((ps.foldl stepS st).2).map f)
  | [], st => rfl
  | p :: ps, st => by
    rw [List.map_cons, List.foldl_cons, List.foldl_cons]
    have e : stepS (st.1.map f, st.2.map f) (f p) = ((stepS st p).1.map f, (stepS st p).2.map f) := by
      unfold stepS
      rw [hf]
      split
      · simp [sortM_map f hf]
      · simp
    rw [e]
    exact foldl_map f hf ps (stepS st p)
theorem joinS_map (f : Int → Int) (hf : ∀ r, classZ (f r) = classZ r) (ps : List Int) : joinS (ps.map f) = (joinS ps).map f := by
  have h := foldl_map f hf ps ([], [])
  unfold joinS runS
  simp only [List.map_nil] at h
  rw [h, List.map_append, sortM_map f hf]

/-- What is folded hangs on the folded parts alone. -/
theorem foldL_parts (rs : List Int) : foldL rs = joinS ((partsL rs).map foldZ) := by
  rw [joinS_map foldZ class_fold]
  rfl

theorem runS_marks (a m : List Int) (h : runS a = (a, [])) (hm : ∀ x ∈ m, Mark x) : runS (a ++ m) = (a, m) := by
  suffices hh : ∀ (l : List Int), l.reverse = m → runS (a ++ m) = (a, m) from hh m.reverse (by simp)
  intro l
  induction l generalizing m with
  | nil =>
    intro e
    simp at e
    subst e
    rw [List.append_nil]
    exact h
  | cons x l ih =>
    intro e
    have hx : m = l.reverse ++ [x] := by rw [← e]; simp
    have h2 := ih l.reverse (fun y hy => hm y (by rw [hx]; exact List.mem_append.2 (.inl hy))) rfl
    have hmx := hm x (by rw [hx]; simp)
    rw [hx, ← List.append_assoc, runS_snoc, h2]
    unfold stepS
    rw [if_neg (by rcases hmx with h | h <;> omega)]
theorem runS_again (ps : List Int) : runS (runS ps).1 = ((runS ps).1, []) := by
  suffices h : ∀ (l : List Int), l.reverse = ps → runS (runS ps).1 = ((runS ps).1, []) from h ps.reverse (by simp)
  intro l
  induction l generalizing ps with
  | nil =>
    intro e
    simp at e
    subst e
    rfl
  | cons p l ih =>
    intro e
    have hp : ps = l.reverse ++ [p] := by rw [← e]; simp
    have h1 := ih l.reverse rfl
    have hm := (runS_facts l.reverse).1
    rw [hp, runS_snoc]
    by_cases hc : classZ p = 0
    · have es : stepS (runS l.reverse) p = ((runS l.reverse).1 ++ sortM (runS l.reverse).2 ++ [p], []) := by unfold stepS; rw [if_pos hc]
      rw [es]
      simp only
      rw [runS_snoc, runS_marks _ _ h1 (fun x hx => hm x ((sortM_mem _ _).1 hx))]
      unfold stepS
      rw [if_pos hc]
      simp only
      rw [sortM_sortM]
    · have es : stepS (runS l.reverse) p = ((runS l.reverse).1, (runS l.reverse).2 ++ [p]) := by unfold stepS; rw [if_neg hc]
      rw [es]
      exact h1
/-- What is in order stays. -/
theorem joinS_again (ps : List Int) : joinS (joinS ps) = joinS ps := by
  have hm := (runS_facts ps).1
  have h1 := runS_marks _ (sortM (runS ps).2) (runS_again ps) (fun x hx => hm x ((sortM_mem _ _).1 hx))
  unfold joinS
  rw [h1]
  simp only
  rw [sortM_sortM]

theorem whole_big {r : Int} (h : r < 192 ∨ 768 ≤ r) : wholeB r = false := by
  cases hB : wholeB r with
  | false => rfl
  | true =>
    obtain ⟨hm, hx⟩ := whole_mem r hB
    have h3 : ∀ x ∈ tab, 192 ≤ x.1 ∧ x.1 < 768 := by decide +kernel
    have := h3 _ hm
    omega
theorem splitZ_self {r : Int} (h : r < 192 ∨ 768 ≤ r) : splitZ r = [r] := by
  unfold splitZ
  rw [whole_big h]
  rfl
theorem partsL_self {rs : List Int} (h : ∀ r ∈ rs, r < 192 ∨ 768 ≤ r) : partsL rs = rs := by
  induction rs with
  | nil => rfl
  | cons r rs ih =>
    show splitZ r ++ partsL rs = _
    rw [splitZ_self (h r (by simp)), ih (fun x hx => h x (by simp [hx]))]
    rfl

/-- Letters the other way round. -/
def swapZ (r : Int) : Int := if 97 ≤ r ∧ r ≤ 122 then r - 32 else if 65 ≤ r ∧ r ≤ 90 then r + 32 else r
theorem fold_swap (r : Int) : foldZ (swapZ r) = foldZ r := by
  unfold foldZ swapZ
  by_cases h1 : 97 ≤ r ∧ r ≤ 122
  · rw [if_pos h1, if_pos (by omega), if_neg (by omega), if_neg (by omega)]
    omega
  · rw [if_neg h1]
    by_cases h2 : 65 ≤ r ∧ r ≤ 90
    · rw [if_pos h2, if_neg (by omega), if_neg (by omega), if_pos h2]
    · rw [if_neg h2]
theorem swap_cases (r : Int) : swapZ r = r ∨ (r < 192 ∧ swapZ r < 192) := by
  unfold swapZ
  split
  · omega
  · split <;> omega
theorem swap_small {r : Int} (h : SmallR r) : SmallR (swapZ r) := by
  unfold swapZ SmallR at *
  split
  · omega
  · split <;> omega
theorem parts_swap (rs : List Int) : (partsL (rs.map swapZ)).map foldZ = (partsL rs).map foldZ := by
  induction rs with
  | nil => rfl
  | cons r rs ih =>
    show (splitZ (swapZ r) ++ partsL (rs.map swapZ)).map foldZ = (splitZ r ++ partsL rs).map foldZ
    rw [List.map_append, List.map_append, ih]
    congr 1
    rcases swap_cases r with h | ⟨h1, h2⟩
    · rw [h]
    · rw [splitZ_self (.inl h1), splitZ_self (.inl h2)]
      simp [fold_swap]

theorem fold_swapped (rs : List Int) : foldL (rs.map swapZ) = foldL rs := by
  rw [foldL_parts, foldL_parts, parts_swap]

theorem marks_fold (ps : List Int) : marks (ps.map foldZ) = marks ps := by
  unfold marks
  rw [List.filter_map, List.length_map]
  have e : ((fun p => classZ p != 0) ∘ foldZ) = fun p => classZ p != 0 := by funext r; simp [class_fold]
  rw [e]
theorem marks_le (ps : List Int) : marks ps ≤ ps.length := List.length_filter_le _ _

/-- The parts of signs that are there are no whole signs. -/
theorem part_plain {p : Int} (h : baseZ p = true ∨ Mark p) : p < 192 ∨ 768 ≤ p := by
  rcases h with h | h
  · have := of_decide_eq_true h; omega
  · have := mark_range h; omega
theorem Name.part {rs : List Int} (h : Name rs) : ∀ p ∈ splitL rs, baseZ p = true ∨ Mark p := by
  intro p hp
  obtain ⟨r, hr, hpr⟩ := List.mem_flatMap.1 (splitL_mem p hp)
  exact parts_sign (h.signs r hr) p hpr

theorem fold_swapped_split {rs : List Int} (h : Name rs) : foldL ((splitL rs).map swapZ) = foldL rs := by
  have e : partsL ((splitL rs).map swapZ) = (splitL rs).map swapZ := by
    refine partsL_self (fun r hr => ?_)
    obtain ⟨p, hp, rfl⟩ := List.mem_map.1 hr
    rcases swap_cases p with h1 | h1
    · rw [h1]
      exact part_plain (h.part p hp)
    · exact .inl h1.2
  rw [foldL_parts, e, List.map_map]
  have e2 : (foldZ ∘ swapZ) = foldZ := by funext r; exact fold_swap r
  rw [e2, splitL_join, ← joinS_map foldZ class_fold, joinS_again, foldL_parts]
theorem fold_folded {rs : List Int} (h : Name rs) : foldL (foldL rs) = foldL rs := by
  have e : partsL (foldL rs) = foldL rs := by
    refine partsL_self (fun r hr => ?_)
    rcases fold_kind h.signs r hr with h1 | h1
    · unfold BaseF at h1; omega
    · have := mark_range h1; omega
  have e2 : (foldL rs).map foldZ = foldL rs := by
    unfold foldL
    rw [List.map_map]
    exact List.map_congr_left (fun r _ => fold_fold r)
  rw [foldL_parts (foldL rs), e, e2, foldL_parts, joinS_again]

/-- A text that is folded as a name is has a key. -/
theorem keyed_like {rs ts : List Int} (h : Name rs) (he : foldL ts = foldL rs) (hs : ∀ r ∈ ts, SmallR r) (hl : ts.length ≤ 400) (hm : marks (partsL ts) < 20) : Keyed ts :=
  ⟨hs, hl, hm, by rw [he]; exact h.elem, by rw [he]; exact h.key_ne⟩
theorem keyed_swapped {rs : List Int} (h : Name rs) : Keyed (rs.map swapZ) := by
  refine keyed_like h (fold_swapped rs) ?_ (by rw [List.length_map]; have := h.short; omega) ?_
  · intro r hr
    obtain ⟨p, hp, rfl⟩ := List.mem_map.1 hr
    exact swap_small (h.small p hp)
  · rw [← marks_fold, parts_swap, marks_fold]
    exact h.marks
theorem keyed_swapped_split {rs : List Int} (h : Name rs) : Keyed ((splitL rs).map swapZ) := by
  have hf := h.few
  refine keyed_like h (fold_swapped_split h) ?_ (by rw [List.length_map]; omega) ?_
  · intro r hr
    obtain ⟨p, hp, rfl⟩ := List.mem_map.1 hr
    exact swap_small (splitL_small h.small p hp)
  · have e : partsL ((splitL rs).map swapZ) = (splitL rs).map swapZ := by
      refine partsL_self (fun r hr => ?_)
      obtain ⟨p, hp, rfl⟩ := List.mem_map.1 hr
      rcases swap_cases p with h1 | h1
      · rw [h1]
        exact part_plain (h.part p hp)
      · exact .inl h1.2
    rw [e]
    have := marks_le ((splitL rs).map swapZ)
    rw [List.length_map] at this
    omega
theorem keyed_folded {rs : List Int} (h : Name rs) : Keyed (foldL rs) := by
  have hf := h.few
  have hl : (foldL rs).length ≤ 12 := by rw [foldL_length, ← splitL_length]; exact hf
  refine keyed_like h (fold_folded h) (foldL_small h.small) (by omega) ?_
  have e : partsL (foldL rs) = foldL rs := by
    refine partsL_self (fun r hr => ?_)
    rcases fold_kind h.signs r hr with h1 | h1
    · unfold BaseF at h1; omega
    · have := mark_range h1; omega
  rw [e]
  have := marks_le (foldL rs)
  omega
end Go.Proofs.YtdflokjpgbeniaaDoor
