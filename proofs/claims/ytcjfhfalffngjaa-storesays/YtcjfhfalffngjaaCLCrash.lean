/-
  A log on a disk that may fall: behind a fall within Add the deeds are the old ones, or these and the new one. Plain facts.
-/
import Derived.Test.YtcjfhfalffngjaaCLOpen
namespace Go.Proofs.Ytcjfhfalffngjaa
open Go.RowKit Go.Lib
set_option maxRecDepth 100000
set_option linter.unusedVariables false
set_option linter.unusedSimpArgs false

/-- Sectors laid from a place on. -/
def setL : List (List UInt8) → Nat → List (List UInt8) → List (List UInt8)
  | now, _, [] => now
  | now, a, s :: r => setL (now.set a (padL s)) (a + 1) r
theorem setL_length : ∀ (l now : List (List UInt8)) (a : Nat), (setL now a l).length = now.length
  | [], now, a => rfl
  | s :: r, now, a => by rw [setL, setL_length r]; simp
theorem setL_out : ∀ (l now : List (List UInt8)) (a x : Nat), (x < a ∨ a + l.length ≤ x) → (setL now a l).getD x [] = now.getD x []
  | [], now, a, x, h => rfl
  | s :: r, now, a, x, h => by
    rw [List.length_cons] at h
    rw [setL, setL_out r _ (a + 1) x (by omega), List.getD, List.getD, List.getElem?_set_ne (by omega)]
theorem setL_in : ∀ (l now : List (List UInt8)) (a j : Nat) (s : List UInt8), a + l.length ≤ now.length → l[j]? = some s → (setL now a l).getD (a + j) [] = padL s
  | [], now, a, j, s, h, hj => by simp at hj
  | s0 :: r, now, a, j, s, h, hj => by
    rw [List.length_cons] at h
    rw [setL]
    cases j with
    | zero =>
      simp only [List.getElem?_cons_zero, Option.some.injEq] at hj
      subst hj
      show (setL (now.set a (padL s0)) (a + 1) r).getD a [] = padL s0
      rw [setL_out r _ (a + 1) a (by omega), List.getD, List.getElem?_set_self (by omega)]
      rfl
    | succ j =>
      rw [List.getElem?_cons_succ] at hj
      rw [show a + (j + 1) = a + 1 + j by omega]
      exact setL_in r _ (a + 1) j s (by rw [List.length_set]; omega) hj
def wrs (a : Nat) (l : List (List UInt8)) : List (Nat × List UInt8) := l.mapIdx fun i s => (a + i, padL s)
theorem wrs_cons (a : Nat) (s : List UInt8) (l : List (List UInt8)) : wrs a (s :: l) = (a, padL s) :: wrs (a + 1) l := by
  unfold wrs
  rw [List.mapIdx_cons]
  congr 1
  congr 1
  funext i s
  rw [show a + (i + 1) = a + 1 + i by omega]
theorem wrs_ge {a : Nat} {l : List (List UInt8)} {y : Nat × List UInt8} (h : y ∈ wrs a l) : a ≤ y.1 := by
  obtain ⟨i, hi, rfl⟩ := List.mem_mapIdx.1 h
  exact Nat.le_add_right _ _
theorem keepL_out (k : Nat) : ∀ (r : List (Nat × List UInt8)) (i : Nat) (K : List (List UInt8)) (x : Nat), (∀ y ∈ r, y.1 ≠ x) → (keepL k i r K).getD x [] = K.getD x []
  | [], i, K, x, h => rfl
  | y :: r, i, K, x, h => by
    rw [keepL, keepL_out k r _ _ x fun z hz => h z (by simp [hz])]
    split
    · rw [List.getD, List.getD, List.getElem?_set_ne (h y (by simp))]
    · rfl
theorem keepL_one (k : Nat) (x : Nat) (s : List UInt8) (K : List (List UInt8)) : keepL k 0 [(x, s)] K = K.set x s ∨ keepL k 0 [(x, s)] K = K := by
  rw [keepL, keepL]
  split
  · exact .inl rfl
  · exact .inr rfl

theorem calm_fall {d : DK} (hl : d.left < 0) (hd : d.down = false) : d.fall = false := by unfold DK.fall; rw [hd]; simp; omega
theorem calm_step {d : DK} (hl : d.left < 0) (hd : d.down = false) : d.stepped = d := by unfold DK.stepped; rw [calm_fall hl hd]; simp; omega
theorem fell_down {d : DK} (h : d.fall = true) : d.stepped.down = true := by unfold DK.stepped; rw [h]; rfl
theorem step_down {d : DK} (h : d.fall = false) : d.stepped.down = d.down := by unfold DK.stepped; rw [h]; simp only [Bool.false_eq_true, if_false]; split <;> rfl
theorem fall_down {d : DK} (h : d.fall = false) : d.down = false := by unfold DK.fall at h; simp at h; exact h.1

/-- What lay does on a disk that is up. -/
structure Laid (l : List (List UInt8)) (d : DK) (a : Nat) (d' : DK) : Prop where
  now : d'.now = setL d.now a l
  kept : d'.kept = setL d.now a l
  wr : d'.wr = []
  down : d'.down = false
  left : d.left < 0 → d'.left = d.left
structure Fell (l : List (List UInt8)) (d : DK) (a : Nat) (d' : DK) : Prop where
  down : d'.down = true
  len : d'.now.length = d.now.length
  kept : d'.kept = d.kept
  wr : ∃ k, d'.wr = d.wr ++ wrs a (l.take k)
  left : ¬ d.left < 0
theorem lay_case : ∀ (l : List (List UInt8)) (d : DK) (a : Nat), d.down = false → a + l.length ≤ d.now.length → (∀ s ∈ l, s.length ≤ 140) → ((layP l d a).1 = none ∧ Laid l d a (layP l d a).2) ∨ ((layP l d a).1 = some 10 ∧ Fell l d a (layP l d a).2)
  | [], d, a, hd, ha, hs => by
    rw [layP]
    unfold DK.flushE DK.flushed
    cases hf : d.fall with
    | true =>
      refine .inr ⟨rfl, fell_down hf, by show d.stepped.now.length = _; rw [stepped_now], by show d.stepped.kept = _; rw [stepped_kept], ⟨0, by show d.stepped.wr = _; rw [stepped_wr]; simp [wrs]⟩, fun hl => by rw [calm_fall hl hd] at hf; cases hf⟩
    | false =>
      refine .inl ⟨rfl, ?_, ?_, rfl, ?_, fun hl => ?_⟩
      · simp only [Bool.false_eq_true, if_false, DK.firm, setL, stepped_now]
      · simp only [Bool.false_eq_true, if_false, DK.firm, setL, stepped_now]
      · simp only [Bool.false_eq_true, if_false, DK.firm]; rw [step_down hf, hd]
      · simp only [Bool.false_eq_true, if_false, DK.firm]; rw [calm_step hl hd]
  | s :: r, d, a, hd, ha, hs => by
    rw [List.length_cons] at ha
    have hsl := hs s (by simp)
    have hbad : (!d.has (a : Int) || decide (140 < s.length)) = false := by
      simp [DK.has]; omega
    obtain ⟨h1, h2⟩ := writeE_good d a s hbad
    rw [layP]
    unfold DK.flushE at h1
    cases hf : d.fall with
    | true =>
      rw [hf] at h1 h2
      simp only [if_true] at h1 h2
      rw [h1, h2]
      exact .inr ⟨rfl, fell_down hf, by rw [stepped_now], by rw [stepped_kept], ⟨0, by rw [stepped_wr]; simp [wrs]⟩, fun hl => by rw [calm_fall hl hd] at hf; cases hf⟩
    | false =>
      rw [hf] at h1 h2
      simp only [Bool.false_eq_true, if_false, Int.toNat_natCast] at h1 h2
      rw [h1, h2]
      simp only
      have hdn : (d.stepped.laid a (padL s)).down = false := by simp only [DK.laid]; rw [step_down hf, hd]
      have hlen : (d.stepped.laid a (padL s)).now.length = d.now.length := by simp only [DK.laid, List.length_set, stepped_now]
      rcases lay_case r (d.stepped.laid a (padL s)) (a + 1) hdn (by rw [hlen]; omega) (fun x hx => hs x (by simp [hx])) with ⟨g1, g2⟩ | ⟨g1, g2⟩
      · refine .inl ⟨g1, ?_, ?_, g2.wr, g2.down, fun hl => ?_⟩
        · rw [g2.now, setL]; simp only [DK.laid, stepped_now]
        · rw [g2.kept, setL]; simp only [DK.laid, stepped_now]
        · have hl2 : (d.stepped.laid a (padL s)).left = d.left := by simp only [DK.laid]; rw [calm_step hl hd]
          rw [g2.left (by rw [hl2]; exact hl), hl2]
      · refine .inr ⟨g1, g2.down, by rw [g2.len, hlen], by rw [g2.kept]; simp only [DK.laid, stepped_kept], ?_, fun hl => ?_⟩
        · obtain ⟨k, hk⟩ := g2.wr
          refine ⟨k + 1, ?_⟩
          rw [hk, List.take_succ_cons, wrs_cons]
          simp only [DK.laid, stepped_wr]
          simp
        · exact g2.left (by simp only [DK.laid]; rw [calm_step hl hd]; exact hl)

/-- All that was there is kept, and it is up. -/
structure Steady (d : DK) : Prop where
  wr : d.wr = []
  kept : d.kept = d.now
  down : d.down = false
theorem Laid.steady {l : List (List UInt8)} {d d' : DK} {a : Nat} (h : Laid l d a d') : Steady d' := ⟨h.wr, by rw [h.kept, h.now], h.down⟩
/-- Sectors that tell the old deeds; the new ones. -/
structure OldS (now : List (List UInt8)) (fr used many : Nat) (S : List (List UInt8)) : Prop where
  len : S.length = now.length
  pre : ∀ j, j < used → S.getD (fr + j) [] = now.getD (fr + j) []
  stop : used < many → S.getD (fr + used) [] = nought
structure NewS (now : List (List UInt8)) (fr used many : Nat) (L : List (List UInt8)) (S : List (List UInt8)) : Prop where
  len : S.length = now.length
  pre : ∀ j, j < used → S.getD (fr + j) [] = now.getD (fr + j) []
  deed : ∀ j s, L[j]? = some s → S.getD (fr + (used + j)) [] = padL s
  stop : used + L.length < many → S.getD (fr + (used + L.length)) [] = nought
theorem restP_len (used many : Nat) (r : List (List UInt8)) (h : used + (r.length + 1) ≤ many) : used + 1 + (restP used many r).length ≤ many ∧ r.length ≤ (restP used many r).length := by
  unfold restP
  split
  · rw [List.length_append, List.length_singleton]; omega
  · omega
theorem restP_short (used many : Nat) (r : List (List UInt8)) (h : ∀ s ∈ r, s.length ≤ 140) : ∀ s ∈ restP used many r, s.length ≤ 140 := by
  unfold restP
  split
  · intro s hs
    rcases List.mem_append.1 hs with hs | hs
    · exact h s hs
    · rw [List.mem_singleton.1 hs]; simp
  · exact h
theorem restP_get {used many : Nat} {r : List (List UInt8)} {j : Nat} {s : List UInt8} (h : r[j]? = some s) : (restP used many r)[j]? = some s := by
  unfold restP
  split
  · rw [List.getElem?_append_left (List.getElem?_eq_some_iff.1 h).1]; exact h
  · exact h
theorem restP_last {used many : Nat} {r : List (List UInt8)} (h : used + (r.length + 1) < many) : (restP used many r)[r.length]? = some [] := by
  unfold restP
  rw [if_pos h, List.getElem?_append_right (Nat.le_refl _), Nat.sub_self]
  rfl
/-- Where all three lays went through. -/
theorem new_of {now : List (List UInt8)} {fr used many : Nat} {s0 : List UInt8} {r : List (List UInt8)} (hlen : fr + many ≤ now.length) (hm : used + (r.length + 1) ≤ many) :
    NewS now fr used many (s0 :: r) (setL (setL (setL now (fr + used) [[]]) (fr + (used + 1)) (restP used many r)) (fr + used) [s0]) := by
  obtain ⟨q1, q2⟩ := restP_len used many r hm
  refine ⟨by simp only [setL_length], fun j hj => ?_, fun j s hj => ?_, fun hs => ?_⟩
  · rw [setL_out _ _ _ _ (by simp; omega), setL_out _ _ _ _ (by omega), setL_out _ _ _ _ (by simp; omega)]
  · cases j with
    | zero =>
      simp only [List.getElem?_cons_zero, Option.some.injEq] at hj
      subst hj
      exact setL_in [s0] _ _ 0 s0 (by simp only [setL_length, List.length_singleton]; omega) rfl
    | succ j =>
      rw [List.getElem?_cons_succ] at hj
      rw [setL_out _ _ _ _ (by simp; omega), show fr + (used + (j + 1)) = fr + (used + 1) + j by omega]
      exact setL_in _ _ _ j s (by rw [setL_length]; omega) (restP_get hj)
  · rw [List.length_cons] at hs ⊢
    rw [setL_out _ _ _ _ (by simp; omega), show fr + (used + (r.length + 1)) = fr + (used + 1) + r.length by omega]
    rw [setL_in _ _ _ r.length [] (by rw [setL_length]; omega) (restP_last hs), padL_nil]
theorem old_two {now : List (List UInt8)} {fr used many : Nat} {r : List (List UInt8)} (hlen : fr + many ≤ now.length) (hm : used + (r.length + 1) ≤ many) :
    OldS now fr used many (setL (setL now (fr + used) [[]]) (fr + (used + 1)) (restP used many r)) := by
  obtain ⟨q1, q2⟩ := restP_len used many r hm
  refine ⟨by simp only [setL_length], fun j hj => ?_, fun hs => ?_⟩
  · rw [setL_out _ _ _ _ (by omega), setL_out _ _ _ _ (by simp; omega)]
  · rw [setL_out _ _ _ _ (by omega)]
    have := setL_in [[]] now (fr + used) 0 [] (by simp only [List.length_singleton]; omega) rfl
    rw [Nat.add_zero] at this
    rw [this, padL_nil]

/-- What put does on a disk that is up. -/
structure PutBounds (d : DK) (fr used many : Nat) (s0 : List UInt8) (r : List (List UInt8)) : Prop where
  down : d.down = false
  len : fr + many ≤ d.now.length
  many : used + (r.length + 1) ≤ many
  s0 : s0.length ≤ 140
  r : ∀ s ∈ r, s.length ≤ 140
theorem put_done {d : DK} {fr used many : Nat} {s0 : List UInt8} {r : List (List UInt8)} (hb : PutBounds d fr used many s0 r) :
    ((putP d fr used many s0 r).1 = none ∧ Steady (putP d fr used many s0 r).2 ∧ NewS d.now fr used many (s0 :: r) (putP d fr used many s0 r).2.now ∧ (d.left < 0 → (putP d fr used many s0 r).2.left = d.left)) ∨
    ((putP d fr used many s0 r).1 = some 10 ∧ ¬ d.left < 0 ∧ (putP d fr used many s0 r).2.now.length = d.now.length ∧ (Steady d → (used < many → d.now.getD (fr + used) [] = nought) → ∀ k, OldS d.now fr used many (keepL k 0 (putP d fr used many s0 r).2.wr (putP d fr used many s0 r).2.kept) ∨ NewS d.now fr used many (s0 :: r) (keepL k 0 (putP d fr used many s0 r).2.wr (putP d fr used many s0 r).2.kept))) := by
  obtain ⟨hd, hlen, hm, hs0, hr⟩ := hb
  obtain ⟨q1, q2⟩ := restP_len used many r hm
  obtain ⟨e1, d1, h1⟩ : ∃ e1 d1, layP [[]] d (fr + used) = (e1, d1) := ⟨_, _, rfl⟩
  have c1 := lay_case [[]] d (fr + used) hd (by simp only [List.length_singleton]; omega) (by intro s hs; rw [List.mem_singleton.1 hs]; simp)
  rw [h1] at c1
  unfold putP
  rw [h1]
  rcases c1 with ⟨he, g1⟩ | ⟨he, g1⟩
  · simp only at he
    subst he
    simp only
    have hl1 : d1.now.length = d.now.length := by rw [g1.now, setL_length]
    obtain ⟨e2, d2, h2⟩ : ∃ e2 d2, layP (restP used many r) d1 (fr + (used + 1)) = (e2, d2) := ⟨_, _, rfl⟩
    have c2 := lay_case (restP used many r) d1 (fr + (used + 1)) g1.down (by rw [hl1]; omega) (restP_short _ _ _ hr)
    rw [h2] at c2
    rw [h2]
    rcases c2 with ⟨he, g2⟩ | ⟨he, g2⟩
    · simp only at he
      subst he
      simp only
      have hl2 : d2.now.length = d.now.length := by rw [g2.now, setL_length, hl1]
      obtain ⟨e3, d3, h3⟩ : ∃ e3 d3, layP [s0] d2 (fr + used) = (e3, d3) := ⟨_, _, rfl⟩
      have c3 := lay_case [s0] d2 (fr + used) g2.down (by simp only [List.length_singleton]; omega) (by intro s hs; rw [List.mem_singleton.1 hs]; exact hs0)
      rw [h3] at c3
      rw [h3]
      have hnew := new_of (s0 := s0) hlen hm
      have hold := old_two hlen hm
      simp only at g1 g2
      rw [← g1.now] at hnew hold
      rw [← g2.now] at hnew hold
      rcases c3 with ⟨he, g3⟩ | ⟨he, g3⟩
      · simp only at he g3
        refine .inl ⟨he, g3.steady, by rw [g3.now]; exact hnew, fun hl => ?_⟩
        have l1 := g1.left hl
        have l2 := g2.left (by rw [l1]; exact hl)
        simp only
        rw [g3.left (by rw [l2, l1]; exact hl), l2, l1]
      · simp only at he g3
        refine .inr ⟨he, fun hl => ?_, by rw [g3.len, hl2], fun _ _ k => ?_⟩
        · have l1 := g1.left hl
          have l2 := g2.left (by rw [l1]; exact hl)
          exact g3.left (by rw [l2, l1]; exact hl)
        · obtain ⟨m, hm⟩ := g3.wr
          simp only
          rw [hm, g3.kept, g2.wr, List.nil_append, g2.steady.kept]
          cases m with
          | zero => exact .inl hold
          | succ m =>
            rw [List.take_succ_cons, List.take_nil, wrs_cons]
            rcases keepL_one k (fr + used) (padL s0) d2.now with h | h
            · refine .inr ?_
              show NewS _ _ _ _ _ (keepL k 0 [(fr + used, padL s0)] d2.now)
              rw [h]
              exact hnew
            · refine .inl ?_
              show OldS _ _ _ _ (keepL k 0 [(fr + used, padL s0)] d2.now)
              rw [h]
              exact hold
    · simp only at he g2
      subst he
      simp only
      refine .inr ⟨trivial, fun hl => g2.left (by rw [g1.left hl]; exact hl), by rw [g2.len, hl1], fun _ _ k => .inl ?_⟩
      obtain ⟨m, hm⟩ := g2.wr
      rw [hm, g2.kept, g1.wr, List.nil_append, g1.steady.kept]
      have hge : ∀ x, x ≤ fr + used → (keepL k 0 (wrs (fr + (used + 1)) ((restP used many r).take m)) d1.now).getD x [] = d1.now.getD x [] := fun x hx => keepL_out k _ _ _ x fun y hy => by have := wrs_ge hy; omega
      refine ⟨by rw [keepL_len, hl1], fun j hj => ?_, fun hs => ?_⟩
      · rw [hge _ (by omega), g1.now, setL_out _ _ _ _ (by simp; omega)]
      · rw [hge _ (by omega), g1.now]
        have := setL_in [[]] d.now (fr + used) 0 [] (by simp only [List.length_singleton]; omega) rfl
        rw [Nat.add_zero] at this
        rw [this, padL_nil]
  · simp only at he g1
    subst he
    simp only
    refine .inr ⟨trivial, g1.left, g1.len, fun hst hno k => .inl ?_⟩
    obtain ⟨m, hm⟩ := g1.wr
    rw [hm, g1.kept, hst.wr, List.nil_append, hst.kept]
    have hself : OldS d.now fr used many d.now := ⟨rfl, fun _ _ => rfl, hno⟩
    cases m with
    | zero => exact hself
    | succ m =>
      rw [List.take_succ_cons, List.take_nil, wrs_cons]
      rcases keepL_one k (fr + used) (padL []) d.now with h | h
      · show OldS _ _ _ _ (keepL k 0 [(fr + used, padL [])] d.now)
        rw [h]
        refine ⟨by simp, fun j hj => ?_, fun hs => ?_⟩
        · rw [List.getD, List.getD, List.getElem?_set_ne (by omega)]
        · rw [List.getD, List.getElem?_set_self (by omega), padL_nil]; rfl
      · show OldS _ _ _ _ (keepL k 0 [(fr + used, padL [])] d.now)
        rw [h]
        exact hself
#print axioms put_done
end Go.Proofs.Ytcjfhfalffngjaa
