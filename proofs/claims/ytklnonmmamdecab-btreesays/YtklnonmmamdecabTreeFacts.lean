/-
  What Get, Put and Drop say of each other, of lists; the contract of Tree.Deep.
-/
import Derived.Test.YtklnonmmamdecabDeep
import Derived.Test.YtklnonmmamdecabTreeDrop
import Derived.Test.YtklnonmmamdecabTopWalkW
namespace Go.Proofs.Ytklnonmmamdecab
open Go.RowKit Go.Lib
set_option linter.unusedVariables false
set_option linter.unusedSimpArgs false

theorem putL_self (it : Item) : ∀ L : List Item, it ∈ putL L it
  | [] => by simp [putL]
  | x :: L => by
    simp only [putL]
    split
    · simp
    · split
      · simp
      · have := putL_self it L; simp [this]
theorem getL_put {L : List Item} (it : Item) (hs : Sorted L) : getL (putL L it) it.key = some it :=
  getL_some (putL_sorted hs) (putL_self it L)
theorem getL_drop (L : List Item) (key : ByteArray) : getL (dropL L key) key = none :=
  getL_none fun x hx => by
    have := (List.mem_filter.1 hx).2
    simpa using this
theorem getL_is {L : List Item} {key : ByteArray} {x : Item} (h : getL L key = some x) : x.key = key ∧ ∃ A C, L = A ++ x :: C := by
  have h1 := List.find?_some h
  exact ⟨by simpa using h1, List.append_of_mem (List.mem_of_find?_eq_some h)⟩
theorem getL_not {L : List Item} {key : ByteArray} (h : getL L key = none) : ∀ x ∈ L, x.key ≠ key := fun x hx => by
  have := List.find?_eq_none.1 h x hx
  simpa using this
theorem dropL_some {L : List Item} {key : ByteArray} (hs : Sorted L) (h : (getL L key).isSome = true) : (dropL L key).length + 1 = L.length := by
  obtain ⟨x, hx⟩ := Option.isSome_iff_exists.1 h
  obtain ⟨rfl, A, C, rfl⟩ := getL_is hx
  rw [dropL_at hs]
  simp
  omega
theorem dropL_no {L : List Item} {key : ByteArray} (h : (getL L key).isSome = false) : dropL L key = L :=
  dropL_none (getL_not (by simpa using h))
theorem putL_len_some {L : List Item} {it : Item} (hs : Sorted L) (h : (getL L it.key).isSome = true) : (putL L it).length = L.length := by
  obtain ⟨x, hx⟩ := Option.isSome_iff_exists.1 h
  obtain ⟨h1, A, C, rfl⟩ := getL_is hx
  rw [hs.putL_here h1]
  simp
theorem putL_len_none {it : Item} : ∀ {L : List Item}, (∀ x ∈ L, x.key ≠ it.key) → (putL L it).length = L.length + 1
  | [], _ => by simp [putL]
  | x :: L, h => by
    have h1 := h x (by simp)
    have h2 := putL_len_none (L := L) (fun y hy => h y (by simp [hy]))
    simp only [putL]
    split
    · simp
    · simp [h2]
theorem putL_len_no {L : List Item} {it : Item} (h : (getL L it.key).isSome = false) : (putL L it).length = L.length + 1 :=
  putL_len_none (getL_not (by simpa using h))

/-- How Deep ends. -/
def TreeDeepEnd (base : Nat) (w0 : World) (K0 : Nat → Nat) (tb : Nat) (L : List Item) (l2 : List Res) (e : Ending) (w' : World) : Prop :=
  ∃ h : Nat, e = .returned (.int .i64 ((h : Int) + 1)) ∧ (h = 0 ∨ 2 ^ (h + 1) ≤ L.length + 1) ∧ TreeIn base w0 K0 w' tb L l2

set_option maxRecDepth 100000 in
set_option maxHeartbeats 4000000 in
theorem treeDeep_calls (base : Nat) (w0 : World) (K0 : Nat → Nat) (w : World) (tb : Nat) (L : List Item) (l2 : List Res) (HT : TreeIn base w0 K0 w tb L l2) (hl : L.length ≤ 1000) :
    Calls Try.prog 17 #[.pointer (some ⟨tb, 0, none⟩)] w fun e w' => TreeDeepEnd base w0 K0 tb L l2 e w' := by
  have HT' := hide HT
  obtain ⟨hs, h, k, hL, hc, hc1, H⟩ := HT
  have hsub := H.subAt (n := h) (k := k) (by simp)
  have hmany : h = 0 ∨ 2 ^ (h + 1) ≤ L.length + 1 := by
    rcases hc1 with h1 | h1
    · exact .inl h1
    · rw [← hL]; exact .inr (hsub.many h1)
  have hh : h ≤ 61 := by
    rcases hmany with h1 | h1
    · omega
    · have h2 : 2 ^ (h + 1) ≤ 2 ^ 10 := by omega
      have := (Nat.pow_le_pow_iff_right (by omega : 1 < 2)).1 h2
      omega
  obtain ⟨its, kids, v0, v1, hcc, hLL, hsh, hk, c0, c1, r0, r1⟩ := hsub.cells
  have q0 : w.cell? ⟨tb, 0, none⟩ = some (.pointer (some ⟨k.b, 0, none⟩)) := H.cellAt (t := 55) (vs := [ptrV k.b]) (by simp) rfl
  obtain ⟨n, hn⟩ : ∃ n, its.length = n := ⟨_, rfl⟩
  rw [hn] at r0 hcc
  obtain ⟨p0, cap0, rfl⟩ := row_len r0
  have HM := hide hmany
  by_cases hn0 : n = 0
  · subst hn0
    have h0 : h = 0 := by rcases hc1 with h1 | h1; exact h1; omega
    subst h0
    have hk0 : kids = [] := by rcases hsh with ⟨_, h⟩ | ⟨h, _⟩; exact h; omega
    subst hk0
    have e1 := leaf_calls k.b (.slice none 0 0) v1 0 w c1 base _ r1 (by omega)
    have E1 := hide e1
    clear e1 r0 r1 hsh hk hn hmany hL hs hc1 H hsub hLL
    go_enter Try.func17, Try.ntmps17
    go_wp2_with fail
    refine (unhide E1).mono ?_
    rintro e w2 ⟨rfl, rfl⟩
    simp only [decide_true]
    go_wp2_with fail
    go_ret
    exact ⟨0, rfl, .inl rfl, unhide HT'⟩
  · have hz : ((n : Int) == 0) = false := by rw [beq_eq_false_iff_ne]; omega
    have e1 := deep_all h hh base w k hsub ⟨by omega, hc⟩
    have E1 := hide e1
    clear e1 r0 r1 hsh hk hn hmany hL hs hc1 H hsub hLL hcc hn0
    go_enter Try.func17, Try.ntmps17
    go_wp2_with fail
    refine (unhide E1).mono ?_
    rintro e w2 ⟨rfl, q, rfl⟩
    go_wp2_with fail
    go_ret
    exact ⟨h, rfl, unhide HM, (unhide HT').drewN q⟩
end Go.Proofs.Ytklnonmmamdecab
