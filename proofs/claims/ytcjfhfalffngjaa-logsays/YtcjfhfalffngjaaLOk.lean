/-
  A log that is read as deeds, and what Add makes of it. Plain facts.
-/
import Derived.Test.YtcjfhfalffngjaaLCrash
namespace Go.Proofs.Ytcjfhfalffngjaa
open Go.RowKit Go.Lib
set_option maxRecDepth 100000
set_option linter.unusedVariables false
set_option linter.unusedSimpArgs false

structure LogOk (d : DK) (fr many first : Nat) (D : List (List ChD)) (used : Nat) : Prop where
  steady : Steady d
  len : fr + many ≤ d.now.length
  pre : Pre (secAt d.now fr) first used D
  le : used ≤ many
  stop : used < many → d.now.getD (fr + used) [] = nought
theorem LogOk.read {d : DK} {fr many first used : Nat} {D : List (List ChD)} (h : LogOk d fr many first D used) : readP d fr many first = ⟨D, [], used⟩ :=
  h.pre.go h.le fun hu => by unfold secAt; rw [h.stop hu]
theorem old_ok {d d' : DK} {fr many first used : Nat} {D : List (List ChD)} (h : LogOk d fr many first D used) (hs : Steady d') (ho : OldS d.now fr used many d'.now) : LogOk d' fr many first D used :=
  ⟨hs, by rw [ho.len]; exact h.len, h.pre.congr fun j hj => by unfold secAt; rw [ho.pre j hj], h.le, ho.stop⟩
theorem new_ok {now : List (List UInt8)} {d' : DK} {fr many first used : Nat} {D : List (List ChD)} (hlen : fr + many ≤ now.length) (hp : Pre (secAt now fr) first used D) {l : List ChD} (hc : ∀ c ∈ l, checkP c = none) (hm : used + (l.length + 1) ≤ many) (hf : first + many < 4294967296) (hs : Steady d') (hn : NewS now fr used many (deedS (first + used) l) d'.now) : LogOk d' fr many first (D ++ [l]) (used + (l.length + 1)) := by
  have hl := deedS_length (first + used) l
  refine ⟨hs, by rw [hn.len]; exact hlen, ?_, hm, ?_⟩
  · refine (hp.congr (get' := secAt d'.now fr) fun j hj => by unfold secAt; rw [hn.pre j hj]).deed l hc (by omega) fun j s hj => ?_
    unfold secAt
    rw [hn.deed j s hj]
  · intro hu
    have := hn.stop (by rw [hl]; exact hu)
    rw [hl] at this
    exact this
theorem checkP_ten (c : ChD) : checkP c ≠ some 10 := by
  unfold checkP
  split
  · decide
  split
  · decide
  · decide
theorem faultL_ten : ∀ l : List ChD, faultL l ≠ some 10
  | [] => by simp [faultL]
  | c :: l => by
    rw [faultL]
    cases hc : checkP c with
    | some k => simp only; rw [← hc]; exact checkP_ten c
    | none => exact faultL_ten l
theorem deed_cons (n : Nat) (l : List ChD) : ∃ s0 r, deedS n l = s0 :: r ∧ r.length = l.length := by
  cases hx : deedS n l with
  | nil => have := deedS_length n l; rw [hx] at this; simp at this
  | cons s0 r =>
    have := deedS_length n l
    rw [hx, List.length_cons] at this
    exact ⟨s0, r, rfl, by omega⟩
/-- Add on a disk that is up: refused; done; or it fell. -/
theorem add_case {d : DK} {fr many first used : Nat} {D : List (List ChD)} (hd : d.down = false) (hlen : fr + many ≤ d.now.length) (hp : Pre (secAt d.now fr) first used D) (hle : used ≤ many) (hf : first + many < 4294967296) (l : List ChD) :
    (∃ k, k ≠ 10 ∧ addP d fr many first used l = (some k, d, used)) ∨
    (∃ d', addP d fr many first used l = (none, d', used + (l.length + 1)) ∧ (d.left < 0 → d'.left = d.left) ∧ d'.now.length = d.now.length ∧ LogOk d' fr many first (D ++ [l]) (used + (l.length + 1))) ∨
    (∃ d', addP d fr many first used l = (some 10, d', used) ∧ ¬ d.left < 0 ∧ (LogOk d fr many first D used → ∀ k, (d'.again k).now.length = d.now.length ∧ (LogOk (d'.again k) fr many first D used ∨ LogOk (d'.again k) fr many first (D ++ [l]) (used + (l.length + 1))))) := by
  by_cases h12 : 12 < l.length
  · exact .inl ⟨2, by decide, addP_many h12⟩
  by_cases hfull : many - used < l.length + 1
  · exact .inl ⟨9, by decide, addP_full h12 hfull⟩
  cases hft : faultL l with
  | some k => exact .inl ⟨k, fun e => faultL_ten l (by rw [hft, e]), addP_fault h12 hfull hft⟩
  | none =>
    have hc := faultL_all hft
    obtain ⟨s0, r, hdd, hrl⟩ := deed_cons (first + used) l
    have hsh := deedS_short (n := first + used) hc
    rw [hdd] at hsh
    have hb : PutBounds d fr used many s0 r := ⟨hd, hlen, by omega, hsh s0 (by simp), fun s hs => hsh s (by simp [hs])⟩
    rcases put_done hb with ⟨h1, h2, h3, h4⟩ | ⟨h1, h2, h3, h4⟩
    · have hpp : putP d fr used many s0 r = (none, (putP d fr used many s0 r).2) := by rw [← h1]
      refine .inr (.inl ⟨_, addP_done h12 hfull hft hdd hpp, h4, h3.len, ?_⟩)
      exact new_ok hlen hp hc (by omega) hf h2 (by rw [hdd]; exact h3)
    · have hpp : putP d fr used many s0 r = (some 10, (putP d fr used many s0 r).2) := by rw [← h1]
      refine .inr (.inr ⟨_, addP_fell h12 hfull hft hdd hpp, h2, fun hL k => ?_⟩)
      rcases h4 hL.steady hL.stop k with ho | hn
      · exact ⟨ho.len, .inl (old_ok hL ⟨rfl, rfl, rfl⟩ ho)⟩
      · exact ⟨hn.len, .inr (new_ok hlen hp hc (by omega) hf ⟨rfl, rfl, rfl⟩ (by rw [hdd]; exact hn))⟩
theorem LogOk.again {d : DK} {fr many first used : Nat} {D : List (List ChD)} (h : LogOk d fr many first D used) (k : Nat) : LogOk (d.again k) fr many first D used := by
  have e : (d.again k).now = d.now := by
    unfold DK.again
    simp only
    rw [h.steady.wr, h.steady.kept]
    rfl
  exact ⟨⟨rfl, rfl, rfl⟩, by rw [e]; exact h.len, by rw [e]; exact h.pre, h.le, by rw [e]; exact h.stop⟩
theorem again_left (d : DK) (k : Nat) : (d.again k).left = -1 := rfl
theorem LogOk.armed {d : DK} {fr many first used : Nat} {D : List (List ChD)} (h : LogOk d fr many first D used) (n : Int) : LogOk (d.armed n) fr many first D used := ⟨⟨h.steady.wr, h.steady.kept, h.steady.down⟩, h.len, h.pre, h.le, h.stop⟩
theorem LogOk.new {n fr many first : Nat} (h : fr + many ≤ n) : LogOk (newP n) fr many first [] 0 := by
  refine ⟨⟨rfl, rfl, rfl⟩, by simp [newP]; omega, pre_zero _ _, Nat.zero_le _, fun hm => ?_⟩
  simp only [newP]
  rw [List.getD, List.getElem?_replicate, if_pos (by omega)]
  rfl
#print axioms add_case
#print axioms LogOk.new
end Go.Proofs.Ytcjfhfalffngjaa
