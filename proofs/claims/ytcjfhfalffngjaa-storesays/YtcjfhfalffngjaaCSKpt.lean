/-
  A disk that is formatted holds an empty store. Plain facts. Rows to which changes that may be are applied stay rows that are kept. Plain facts.
-/
import Derived.Test.YtcjfhfalffngjaaCSLayP
namespace Go.Proofs.Ytcjfhfalffngjaa
open Go.RowKit Go.Lib
set_option maxRecDepth 100000
set_option linter.unusedVariables false
set_option linter.unusedSimpArgs false

theorem kpt_nil : Kpt [] := ⟨List.Pairwise.nil, (fun c hc => by cases hc), (fun c hc => by cases hc)⟩
theorem format_store {n : Nat} (hn : 104 ≤ n) : (layD (newP n) 0 (textL []) 0).1 = none ∧ (layD (newP n) 0 (textL []) 0).2.now.length = n ∧ (layD (newP n) 0 (textL []) 0).2.left = -1 ∧ StoreOk (layD (newP n) 0 (textL []) 0).2 0 0 [] [] 0 := by
  have hlen : (newP n).now.length = n := by simp [newP]
  have hleft : (newP n).left < 0 := by simp [newP]
  have hcut : cutL (textL []) = [] := rfl
  have c1 := lay_case [] (newP n) (1 + 0 * 44) rfl (by rw [hlen]; simp; omega) (fun s hs => by cases hs)
  obtain ⟨e1, d1, h1⟩ : ∃ e1 d1, layP [] (newP n) (1 + 0 * 44) = (e1, d1) := ⟨_, _, rfl⟩
  rw [h1] at c1
  unfold layD
  rw [hcut, h1]
  rcases c1 with ⟨he, g⟩ | ⟨he, g⟩
  · simp only at he g
    subst he
    simp only
    have hl1 : d1.now.length = n := by rw [g.now, setL_length, hlen]
    obtain ⟨e2, d2, h2⟩ : ∃ e2 d2, layP [headL 0 (textL []).length 0] d1 0 = (e2, d2) := ⟨_, _, rfl⟩
    have c2 := lay_case [headL 0 (textL []).length 0] d1 0 g.down (by simp only [List.length_singleton]; omega) (by intro s hs; rw [List.mem_singleton.1 hs, headL_length]; omega)
    rw [h2] at c2
    rw [h2]
    rcases c2 with ⟨he, g2⟩ | ⟨he, g2⟩
    · simp only at he g2
      have hnow : d2.now = (newP n).now.set 0 (padL (headL 0 (textL []).length 0)) := by rw [g2.now, g.now]; rfl
      have hl2 : d2.now.length = n := by rw [hnow, List.length_set, hlen]
      have hat : ∀ x, x ≠ 0 → x < n → d2.now.getD x [] = nought := fun x hx hxn => by
        rw [hnow, List.getD, List.getElem?_set_ne (Ne.symm hx)]
        simp only [newP]
        rw [List.getElem?_replicate, if_pos hxn]
        rfl
      refine ⟨he, hl2, by simp only; rw [g2.left (by rw [g.left hleft]; exact hleft), g.left hleft]; rfl, g2.steady, by rw [hl2]; exact hn, by decide, by rw [hnow, List.getD, List.getElem?_set_self (by rw [hlen]; omega)]; rfl, fun i hi => by simp [textL] at hi, kpt_nil, by decide, ?_⟩
      have hok : LogOk d2 90 (d2.now.length - 90) 1 [] 0 := ⟨g2.steady, by omega, pre_zero _ _, Nat.zero_le _, fun _ => hat 90 (by decide) (by omega)⟩
      exact hok.rd
    · exact absurd (by rw [g.left hleft]; exact hleft) g2.left
  · exact absurd hleft g.left
/-- A store that was restarted, armed or read is the same. -/
theorem StoreOk.again {d : DK} {half f1 used : Nat} {L : List ChD} {D : List (List ChD)} (h : StoreOk d half f1 L D used) (k : Nat) : StoreOk (d.again k) half f1 L D used := by
  have e : (d.again k).now = d.now := by
    unfold DK.again
    simp only
    rw [h.steady.wr, h.steady.kept]
    rfl
  exact h.agree ⟨rfl, rfl, rfl⟩ (by rw [e]) fun x _ => by rw [e]
theorem StoreOk.armed {d : DK} {half f1 used : Nat} {L : List ChD} {D : List (List ChD)} (h : StoreOk d half f1 L D used) (n : Int) : StoreOk (d.armed n) half f1 L D used :=
  h.agree (d' := d.armed n) ⟨h.steady.wr, h.steady.kept, h.steady.down⟩ rfl fun x _ => rfl
/-- A deed put into its log leaves the rest of it. -/
theorem StoreOk.logged {d d' : DK} {half f1 used used' : Nat} {L : List ChD} {D D' : List (List ChD)} (h : StoreOk d half f1 L D used) (hl : d'.now.length = d.now.length) (hlog : LogRd d' 90 (d.now.length - 90) (f1 + 1) D' used') (ha : ∀ x, x < 90 → d'.now.getD x [] = d.now.getD x []) : StoreOk d' half f1 L D' used' := by
  have htl := textL_length h.kpt.ok
  have hfew := h.few
  have hh := h.hf
  exact ⟨hlog.steady, by rw [hl]; exact h.len, h.hf, by rw [ha 0 (by decide)]; exact h.head, fun i hi => by rw [ha _ (by omega)]; exact h.text i hi, h.kpt, h.few, by rw [hl]; exact hlog⟩
/-- A sector that nothing touches. -/
structure Off (d : DK) (x : Nat) (v : List UInt8) : Prop where
  now : d.now.getD x [] = v
  kept : d.kept.getD x [] = v
  wr : ∀ y ∈ d.wr, y.1 ≠ x
theorem Off.stepped {d : DK} {x : Nat} {v : List UInt8} (h : Off d x v) : Off d.stepped x v := ⟨by rw [stepped_now]; exact h.now, by rw [stepped_kept]; exact h.kept, by rw [stepped_wr]; exact h.wr⟩
theorem Off.written {d : DK} {x : Nat} {v : List UInt8} (h : Off d x v) (a : Nat) (s : List UInt8) (hx : a ≠ x) : Off (d.written (a : Int) s) x v := by
  unfold DK.written
  split
  · exact h
  split
  · exact h.stepped
  · have hs := h.stepped
    refine ⟨?_, hs.kept, fun y hy => ?_⟩
    · simp only [DK.laid, Int.toNat_natCast]
      rw [List.getD, List.getElem?_set_ne hx]
      exact hs.now
    · simp only [DK.laid, Int.toNat_natCast, List.mem_append, List.mem_singleton] at hy
      rcases hy with hy | rfl
      · exact hs.wr y hy
      · exact hx
theorem Off.flushed {d : DK} {x : Nat} {v : List UInt8} (h : Off d x v) : Off d.flushed x v := by
  unfold DK.flushed
  split
  · exact h.stepped
  · exact ⟨h.stepped.now, h.stepped.now, fun y hy => by simp [DK.firm] at hy⟩
theorem Off.lay {x : Nat} {v : List UInt8} : ∀ (l : List (List UInt8)) (d : DK) (a : Nat), Off d x v → (x < a ∨ a + l.length ≤ x) → Off (layP l d a).2 x v
  | [], d, a, h, hx => h.flushed
  | s :: r, d, a, h, hx => by
    rw [List.length_cons] at hx
    rw [layP]
    have hw := h.written a s (by omega)
    cases d.writeE (a : Int) s with
    | some e => exact hw
    | none => exact Off.lay r _ (a + 1) hw (by omega)
theorem Off.put {x : Nat} {v : List UInt8} {d : DK} {fr used many : Nat} {s0 : List UInt8} {r : List (List UInt8)} (h : Off d x v) (hx : x < fr) : Off (putP d fr used many s0 r).2 x v := by
  have h1 := Off.lay [[]] d (fr + used) h (.inl (by omega))
  unfold putP
  cases hy : layP [[]] d (fr + used) with
  | mk e1 d1 =>
    rw [hy] at h1
    cases e1 with
    | some k => exact h1
    | none =>
      simp only at h1 ⊢
      have h2 := Off.lay (restP used many r) d1 (fr + (used + 1)) h1 (.inl (by omega))
      cases hz : layP (restP used many r) d1 (fr + (used + 1)) with
      | mk e2 d2 =>
        rw [hz] at h2
        cases e2 with
        | some k => exact h2
        | none => exact Off.lay [s0] d2 (fr + used) h2 (.inl (by omega))
theorem Off.add {x : Nat} {v : List UInt8} {d : DK} {fr many first used : Nat} (h : Off d x v) (l : List ChD) (hx : x < fr) : Off (addP d fr many first used l).2.1 x v := by
  unfold addP
  split
  · exact h
  split
  · exact h
  split
  · exact h
  · have hp := h.put (used := used) (many := many) (s0 := (deedS (first + used) l).headD []) (r := (deedS (first + used) l).tail) hx
    split
    · rename_i he; rw [he] at hp; exact hp
    · rename_i he; rw [he] at hp; exact hp
theorem Off.again {x : Nat} {v : List UInt8} {d : DK} (h : Off d x v) (k : Nat) : (d.again k).now.getD x [] = v := by
  unfold DK.again
  simp only
  rw [keepL_out k _ _ _ x h.wr]
  exact h.kept
theorem Steady.off {d : DK} (h : Steady d) (x : Nat) : Off d x (d.now.getD x []) := ⟨rfl, by rw [h.kept], fun y hy => by rw [h.wr] at hy; cases hy⟩
/-- A deed is committed into the log of a store: refused; done; or it fell, and is there or not. -/
theorem StoreOk.add {d : DK} {half f1 used : Nat} {L : List ChD} {D : List (List ChD)} (h : StoreOk d half f1 L D used) (hf : f1 ≤ 900000) (hl : d.now.length ≤ 130) (l : List ChD) :
    (∃ k, k ≠ 10 ∧ addP d 90 (d.now.length - 90) (f1 + 1) used l = (some k, d, used)) ∨
    (∃ d', addP d 90 (d.now.length - 90) (f1 + 1) used l = (none, d', used + (l.length + 1)) ∧ (d.left < 0 → d'.left = d.left) ∧ d'.now.length = d.now.length ∧ StoreOk d' half f1 L (D ++ [l]) (used + (l.length + 1))) ∨
    (∃ d', addP d 90 (d.now.length - 90) (f1 + 1) used l = (some 10, d', used) ∧ ¬ d.left < 0 ∧ ∀ k, (d'.again k).now.length = d.now.length ∧ (StoreOk (d'.again k) half f1 L D used ∨ StoreOk (d'.again k) half f1 L (D ++ [l]) (used + (l.length + 1)))) := by
  have hoff := fun x (hx : x < 90) => (h.steady.off x).add (fr := 90) (many := d.now.length - 90) (first := f1 + 1) (used := used) l hx
  rcases add_case2 h.log (by omega) l with ⟨k, hk, he⟩ | ⟨d', he, h2, h3, h4⟩ | ⟨d', he, h2, h3⟩
  · exact .inl ⟨k, hk, he⟩
  · refine .inr (.inl ⟨d', he, h2, h3, h.logged h3 h4 fun x hx => ?_⟩)
    have := (hoff x hx).now
    rw [he] at this
    exact this
  · refine .inr (.inr ⟨d', he, h2, fun k => ⟨(h3 k).1, ?_⟩⟩)
    have ha : ∀ x, x < 90 → (d'.again k).now.getD x [] = d.now.getD x [] := fun x hx => by
      have := (hoff x hx).again k
      rw [he] at this
      exact this
    rcases (h3 k).2 with h4 | h4
    · exact .inl (h.logged (h3 k).1 h4 ha)
    · exact .inr (h.logged (h3 k).1 h4 ha)
#print axioms StoreOk.add
#print axioms format_store
#print axioms StoreOk.logged
end Go.Proofs.Ytcjfhfalffngjaa
namespace Go.Proofs.Ytcjfhfalffngjaa
open Go.RowKit Go.Lib
set_option maxRecDepth 100000
set_option linter.unusedVariables false
set_option linter.unusedSimpArgs false

theorem putL_sub {c y : ChD} : ∀ (L : List ChD), y ∈ putL L c → y = c ∨ y ∈ L
  | [], h => by simp [putL] at h; exact .inl h
  | x :: L, h => by
    unfold putL at h
    split at h
    · rcases List.mem_cons.1 h with h | h
      · exact .inl h
      · exact .inr h
    split at h
    · rcases List.mem_cons.1 h with h | h
      · exact .inl h
      · exact .inr (List.mem_cons_of_mem _ h)
    · rcases List.mem_cons.1 h with h | h
      · exact .inr (by rw [h]; exact List.mem_cons_self)
      · rcases putL_sub L h with h | h
        · exact .inl h
        · exact .inr (List.mem_cons_of_mem _ h)
theorem Kpt.one {L : List ChD} (h : Kpt L) {c : ChD} (hc : checkP c = none) : Kpt (applyOne L c) := by
  refine ⟨applyOne_sorted h.sorted c, fun y hy => ?_, fun y hy => ?_⟩
  · unfold applyOne at hy
    split at hy
    · exact h.ok y ((List.mem_filter.1 hy).1)
    · rcases putL_sub L hy with rfl | hy
      · exact hc
      · exact h.ok y hy
  · unfold applyOne at hy
    split at hy
    · exact h.there y ((List.mem_filter.1 hy).1)
    · rename_i hg
      rcases putL_sub L hy with rfl | hy
      · simpa using hg
      · exact h.there y hy
theorem Kpt.apply : ∀ {l L : List ChD}, Kpt L → (∀ c ∈ l, checkP c = none) → Kpt (applyP L l)
  | [], L, h, _ => h
  | c :: l, L, h, hc => Kpt.apply (l := l) (h.one (hc c (by simp))) fun x hx => hc x (by simp [hx])
theorem Kpt.fold : ∀ {D : List (List ChD)} {L : List ChD}, Kpt L → (∀ l ∈ D, ∀ c ∈ l, checkP c = none) → Kpt (foldA L D)
  | [], L, h, _ => h
  | l :: D, L, h, hc => Kpt.fold (D := D) (h.apply (hc l (by simp))) fun x hx => hc x (by simp [hx])
#print axioms Kpt.fold
end Go.Proofs.Ytcjfhfalffngjaa
