/-
  Rows of marks in the order of their classes, and how two of them become one. Plain facts.
-/
import Derived.Test.YtdflokjpgbeniaaDoorMarks
namespace Go.Proofs.YtdflokjpgbeniaaDoor

/-- Those of the lower class, and the rest. -/
def lowM (l : List Int) : List Int := l.filter (fun r => classZ r == 202)
def highM (l : List Int) : List Int := l.filter (fun r => !(classZ r == 202))
theorem sortM_low_high (l : List Int) : sortM l = lowM l ++ highM l := rfl
theorem lowM_none : lowM [] = [] := rfl
theorem highM_none : highM [] = [] := rfl
theorem lowM_append (a b : List Int) : lowM (a ++ b) = lowM a ++ lowM b := by simp [lowM]
theorem highM_append (a b : List Int) : highM (a ++ b) = highM a ++ highM b := by simp [highM]

/-- In order. -/
structure Srt (l : List Int) : Prop where
  marks : ∀ x ∈ l, Mark x
  cut : ∀ A B, l = A ++ B → highM A = [] ∨ lowM B = []

theorem Srt.left {A B : List Int} (h : Srt (A ++ B)) : Srt A :=
  ⟨fun x hx => h.marks x (by simp [hx]), fun A1 B1 e => by
    rcases h.cut A1 (B1 ++ B) (by rw [e]; simp) with h1 | h1
    · exact .inl h1
    · rw [lowM_append] at h1
      exact .inr (List.append_eq_nil_iff.1 h1).1⟩
theorem Srt.right {A B : List Int} (h : Srt (A ++ B)) : Srt B :=
  ⟨fun x hx => h.marks x (by simp [hx]), fun A1 B1 e => by
    rcases h.cut (A ++ A1) B1 (by rw [e]; simp) with h1 | h1
    · rw [highM_append] at h1
      exact .inl (List.append_eq_nil_iff.1 h1).2
    · exact .inr h1⟩
theorem lowM_one {x : Int} (h : classZ x = 202) : lowM [x] = [x] ∧ highM [x] = [] := by simp [lowM, highM, h]
theorem highM_one {x : Int} (h : classZ x = 230) : lowM [x] = [] ∧ highM [x] = [x] := by simp [lowM, highM, h]
theorem Srt.last {A : List Int} {x : Int} (h : Srt (A ++ [x])) (hx : classZ x = 202) : highM (A ++ [x]) = [] := by
  rcases h.cut A [x] rfl with h1 | h1
  · rw [highM_append, h1, (lowM_one hx).2]
    rfl
  · rw [(lowM_one hx).1] at h1
    cases h1
theorem Srt.first {B : List Int} {x : Int} (h : Srt (x :: B)) (hx : classZ x = 230) : lowM (x :: B) = [] := by
  have e : x :: B = [x] ++ B := rfl
  rcases h.cut [x] B rfl with h1 | h1
  · rw [(highM_one hx).2] at h1
    cases h1
  · rw [e, lowM_append, h1, (highM_one hx).1]
    rfl
theorem Srt.self : ∀ {l : List Int}, Srt l → sortM l = l
  | [], _ => rfl
  | x :: t, h => by
    rcases h.marks x (by simp) with hx | hx
    · have ht := Srt.self (Srt.right (A := [x]) (B := t) h)
      rw [sortM_low_high] at ht ⊢
      have e : x :: t = [x] ++ t := rfl
      rw [e, lowM_append, highM_append, (lowM_one hx).1, (lowM_one hx).2, List.nil_append, List.append_assoc, ht]
    · have h1 := h.first hx
      rw [sortM_low_high, h1, List.nil_append]
      refine List.filter_eq_self.2 (fun y hy => ?_)
      have := List.filter_eq_nil_iff.1 h1 y hy
      simpa using this
theorem low_mem {l : List Int} {x : Int} (h : x ∈ lowM l) : classZ x = 202 := by
  have := (List.mem_filter.1 h).2
  simpa using this
theorem high_mem {l : List Int} {x : Int} (h : x ∈ highM l) : classZ x ≠ 202 := by
  have := (List.mem_filter.1 h).2
  simpa using this
theorem high_nil {l : List Int} (h : ∀ x ∈ l, classZ x = 202) : highM l = [] := List.filter_eq_nil_iff.2 (fun x hx => by simp [h x hx])
theorem low_nil {l : List Int} (h : ∀ x ∈ l, classZ x ≠ 202) : lowM l = [] := List.filter_eq_nil_iff.2 (fun x hx => by simp [h x hx])
theorem srt_sortM {l : List Int} (h : ∀ x ∈ l, Mark x) : Srt (sortM l) := by
  refine ⟨fun x hx => h x ((sortM_mem _ _).1 hx), fun A B e => ?_⟩
  rw [sortM_low_high] at e
  rcases List.append_eq_append_iff.1 e with ⟨c, h1, h2⟩ | ⟨c, h1, h2⟩
  · exact .inr (low_nil (fun x hx => high_mem (l := l) (by rw [h2]; simp [hx])))
  · exact .inl (high_nil (fun x hx => low_mem (l := l) (by rw [h1]; simp [hx])))

/-- What a cut leaves on its two sides. -/
theorem cut_le {La Rb : List Int} (hL : Srt La) (hR : Srt Rb) (h : La = [] ∨ Rb = [] ∨ ∃ A x y B, La = A ++ [x] ∧ Rb = y :: B ∧ ¬ classZ y < classZ x) : highM La = [] ∨ lowM Rb = [] := by
  rcases h with rfl | rfl | ⟨A, x, y, B, rfl, rfl, h⟩
  · exact .inl rfl
  · exact .inr rfl
  · rcases hL.marks x (by simp) with hx | hx
    · exact .inl (hL.last hx)
    · rcases hR.marks y (by simp) with hy | hy
      · omega
      · exact .inr (hR.first hy)
theorem cut_lt {Ra Lb : List Int} (hR : Srt Ra) (hL : Srt Lb) (h : Ra = [] ∨ Lb = [] ∨ ∃ A y x B, Ra = A ++ [y] ∧ Lb = x :: B ∧ classZ y < classZ x) : Ra = [] ∨ Lb = [] ∨ (highM Ra = [] ∧ lowM Lb = []) := by
  rcases h with rfl | rfl | ⟨A, y, x, B, rfl, rfl, h⟩
  · exact .inl rfl
  · exact .inr (.inl rfl)
  · refine .inr (.inr ?_)
    rcases hR.marks y (by simp) with hy | hy
    · rcases hL.marks x (by simp) with hx | hx
      · omega
      · exact ⟨hR.last hy, hL.first hx⟩
    · rcases hL.marks x (by simp) with hx | hx <;> omega

theorem merge_split {La Lb Ra Rb : List Int} (hL : Srt (La ++ Lb)) (hR : Srt (Ra ++ Rb))
    (h1 : La = [] ∨ Rb = [] ∨ ∃ A x y B, La = A ++ [x] ∧ Rb = y :: B ∧ ¬ classZ y < classZ x)
    (h2 : Ra = [] ∨ Lb = [] ∨ ∃ A y x B, Ra = A ++ [y] ∧ Lb = x :: B ∧ classZ y < classZ x) :
    sortM (La ++ Ra) ++ sortM (Lb ++ Rb) = sortM (La ++ Lb ++ (Ra ++ Rb)) := by
  have c1 := hL.cut La Lb rfl
  have c2 := hR.cut Ra Rb rfl
  have c3 := cut_le hL.left hR.right h1
  have c4 := cut_lt hR.left hL.right h2
  simp only [sortM_low_high, lowM_append, highM_append]
  rcases c4 with rfl | rfl | ⟨h4, h5⟩
  · rcases c1 with c1 | c1 <;> rcases c3 with c3 | c3 <;> simp only [lowM_none, highM_none, c1, c3, List.append_nil, List.nil_append, List.append_assoc]
  · rcases c2 with c2 | c2 <;> rcases c3 with c3 | c3 <;> simp only [lowM_none, highM_none, c2, c3, List.append_nil, List.nil_append, List.append_assoc]
  · rcases c3 with c3 | c3 <;> simp [h4, h5, c3]

theorem merge_one {x : Int} {Ra Rb : List Int} (hx : Mark x) (hR : Srt (Ra ++ Rb))
    (h1 : Ra = [] ∨ ∃ A y, Ra = A ++ [y] ∧ classZ y < classZ x) (h2 : Rb = [] ∨ ∃ y B, Rb = y :: B ∧ ¬ classZ y < classZ x) :
    Ra ++ [x] ++ Rb = sortM ([x] ++ (Ra ++ Rb)) := by
  have h := merge_split (La := []) (Lb := [x]) (Ra := Ra) (Rb := Rb) ⟨by simpa using hx, fun A B e => ?_⟩ hR (.inl rfl) ?_
  · simp only [List.nil_append] at h
    rw [← h, hR.left.self]
    have h3 := merge_split (La := [x]) (Lb := []) (Ra := []) (Rb := Rb) ⟨by simpa using hx, fun A B e => ?_⟩ hR.right ?_ (.inl rfl)
    · simp only [List.append_nil, List.nil_append] at h3
      rw [← h3, hR.right.self]
      have h4 : sortM [x] = [x] := by
        rcases hx with hx | hx
        · simp [sortM_low_high, lowM_one hx]
        · simp [sortM_low_high, highM_one hx]
      rw [h4]
      simp
    · simp only [List.append_nil] at e
      rcases A with _ | ⟨z, A⟩
      · exact .inl rfl
      · simp at e
        obtain ⟨_, rfl, rfl⟩ := e
        exact .inr rfl
    · rcases h2 with h2 | ⟨y, B, h2, h5⟩
      · exact .inr (.inl h2)
      · exact .inr (.inr ⟨[], x, y, B, rfl, h2, h5⟩)
  · rcases A with _ | ⟨z, A⟩
    · exact .inl rfl
    · simp at e
      obtain ⟨_, rfl, rfl⟩ := e
      exact .inr rfl
  · rcases h1 with h1 | ⟨A, y, h1, h5⟩
    · exact .inl h1
    · exact .inr (.inr ⟨A, y, x, [], h1, rfl, h5⟩)

theorem srt_single {x : Int} (hx : Mark x) : Srt [x] := ⟨by simpa using hx, fun A B e => by
  rcases A with _ | ⟨z, A⟩
  · exact .inl rfl
  · simp at e
    obtain ⟨_, rfl, rfl⟩ := e
    exact .inr rfl⟩

theorem merge_two {y : Int} {La Lb : List Int} (hy : Mark y) (hL : Srt (La ++ Lb))
    (h1 : La = [] ∨ ∃ A x, La = A ++ [x] ∧ ¬ classZ y < classZ x) (h2 : Lb = [] ∨ ∃ x B, Lb = x :: B ∧ classZ y < classZ x) :
    La ++ [y] ++ Lb = sortM (La ++ Lb ++ [y]) := by
  have h := merge_split (La := La) (Lb := Lb) (Ra := [y]) (Rb := []) hL (by simpa using srt_single hy) (.inr (.inl rfl)) ?_
  · simp only [List.append_nil] at h
    rw [← h, hL.right.self]
    have h3 := merge_split (La := La) (Lb := []) (Ra := []) (Rb := [y]) (by simpa using hL.left) (by simpa using srt_single hy) ?_ (.inl rfl)
    · simp only [List.append_nil, List.nil_append] at h3
      rw [← h3, hL.left.self, (srt_single hy).self]
    · rcases h1 with h1 | ⟨A, x, h1, h5⟩
      · exact .inl h1
      · exact .inr (.inr ⟨A, x, y, [], h1, rfl, h5⟩)
  · rcases h2 with h2 | ⟨x, B, h2, h5⟩
    · exact .inr (.inl h2)
    · exact .inr (.inr ⟨[], y, x, B, rfl, h2, h5⟩)
end Go.Proofs.YtdflokjpgbeniaaDoor
