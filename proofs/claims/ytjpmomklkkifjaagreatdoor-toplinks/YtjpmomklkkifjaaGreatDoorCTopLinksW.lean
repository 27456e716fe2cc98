/-
  TopLinks: a file has as many links as entries name it; folders hang on the root.
-/
import Derived.Test.YtjpmomklkkifjaaGreatDoorCTopOnceW
namespace Go.Proofs.YtjpmomklkkifjaaGreatDoor.T
open Go.RowKit Go.Lib
set_option maxRecDepth 100000
set_option linter.unusedVariables false
set_option linter.unusedSimpArgs false

/-- The folder of the last entry that names a node. -/
def lastUp : List (Int × Item) → Int → Int
  | [], _ => 0
  | p :: T, i => if T.any (fun q => q.2.node == i) then lastUp T i else if p.2.node = i then p.1 else 0
theorem refs_snoc (T : List (Int × Item)) (p : Int × Item) (i : Int) : refsE (T ++ [p]) i = refsE T i + if p.2.node = i then 1 else 0 := by
  unfold refsE
  rw [List.countP_append]
  simp [List.countP_cons]
theorem lastUp_snoc (p : Int × Item) (i : Int) : ∀ T : List (Int × Item), lastUp (T ++ [p]) i = if p.2.node = i then p.1 else lastUp T i
  | [] => by simp [lastUp]
  | q :: T => by
    have ih := lastUp_snoc p i T
    simp only [List.cons_append, lastUp, List.any_append, List.any_cons, List.any_nil, Bool.or_false]
    by_cases h : p.2.node = i
    · rw [if_pos (by simp [h]), ih]; simp [h]
    · have : (p.2.node == i) = false := by simpa using h
      rw [this, Bool.or_false, ih]
      simp [h]
theorem lastUp_of {T : List (Int × Item)} {i : Int} {a : Int} {it : Item} (h1 : refsE T i = 1) (hm : (a, it) ∈ T) (hi : it.node = i) : lastUp T i = a := by
  induction T with
  | nil => cases hm
  | cons p T ih =>
    rw [refs_cons] at h1
    unfold lastUp
    by_cases hp : p.2.node = i
    · rw [if_pos hp] at h1
      have h0 : refsE T i = 0 := by omega
      have hno : ∀ q ∈ T, ¬ (q.2.node == i) = true := by
        unfold refsE at h0
        rw [List.countP_eq_zero] at h0
        exact h0
      have hany : T.any (fun q => q.2.node == i) = false := by
        rw [List.any_eq_false]
        exact hno
      rw [hany]
      simp only [Bool.false_eq_true, if_false, if_pos hp]
      rcases List.mem_cons.1 hm with e | e
      · rw [← e]
      · exact absurd (by simpa using hi) (hno _ e)
    · rw [if_neg hp, Nat.add_zero] at h1
      rcases List.mem_cons.1 hm with e | e
      · exfalso; apply hp; rw [← e]; exact hi
      · have hany : T.any (fun q => q.2.node == i) = true := by
          rw [List.any_eq_true]
          exact ⟨_, e, by simpa using hi⟩
        rw [hany]
        simp only [if_true]
        exact ih h1 e
theorem pairs_take {L : List NV} {k : Nat} {u : NV} (h : L[k]? = some u) (F : Forest) : pairs (L.take (k + 1)) F = pairs (L.take k) F ++ tagE u.id (entsK F u) := by
  rw [List.take_add_one, h]
  show pairs (L.take k ++ [u]) F = _
  rw [pairs_append, pairs_cons]
  simp [pairs]
theorem tag_take {es : List Item} {j : Nat} {x : Item} (h : es[j]? = some x) (i : Int) : tagE i (es.take (j + 1)) = tagE i (es.take j) ++ [(i, x)] := by
  unfold tagE
  rw [List.take_add_one, h]
  simp
theorem pairs_perm {L N : List NV} (h : L.Perm N) (F : Forest) : (pairs L F).Perm (pairs N F) := h.flatMap_right _

/-- What TopLinks finds of a node. -/
structure LinkOk (N : List NV) (E : List (Int × Item)) (u : NV) : Prop where
  root : u.id = 1 → refsE E u.id = 0 ∧ u.kind = 1
  some : u.id ≠ 1 → 1 ≤ refsE E u.id ∧ (refsE E u.id : Int) = u.links
  folder : u.id ≠ 1 → u.kind = 1 → refsE E u.id = 1 ∧ lastUp E u.id = u.up
theorem Linked.ok {N : List NV} {E E' : List (Int × Item)} (h : Linked N E) (hp : E'.Perm E) {u : NV} (hu : u ∈ N) : LinkOk N E' u := by
  have hc : refsE E' u.id = refsE E u.id := by unfold refsE; exact hp.countP_eq _
  refine ⟨fun e => ?_, fun e => ?_, fun e hk => ?_⟩
  · rw [hc]
    obtain ⟨r, hr, h1, h2, _⟩ := h.root
    have := uniq_of h.nodup hu hr (by rw [e, h1])
    refine ⟨?_, by rw [this]; exact h2⟩
    unfold refsE
    rw [List.countP_eq_zero]
    intro x hx hn
    exact (h.named x hx).1 (by rw [← e]; simpa using hn)
  · rw [hc]
    have := h.cnt u hu e
    omega
  · have h1 := h.cnt u hu e
    have h2 : u.links = 1 := by
      rcases h.kinds u hu with h3 | h3
      · exact h3.2.1
      · rw [hk] at h3; exact absurd h3.1 (by decide)
    have h3 : refsE E' u.id = 1 := by rw [hc]; omega
    obtain ⟨it, h4, h5⟩ := h.ups u hu hk e
    exact ⟨h3, lastUp_of h3 (hp.mem_iff.2 h4) h5⟩
/-- The way up of a folder. -/
theorem Linked.climb {N : List NV} {E : List (Int × Item)} (h : Linked N E) {u : NV} (hu : u ∈ N) (hk : u.kind = 1) : upk N N.length u.id = 1 ∧ ∀ k, upk N k u.id ∈ N.map NV.id := by
  have hh := h.hang u hu hk
  obtain ⟨d, h1, h2, _⟩ := h.short hh
  obtain ⟨d0, h3, h4⟩ := h.way hh
  refine ⟨by rw [show N.length = d + (N.length - d) by omega, upk_add, h2]; exact h.stay _, fun k => ?_⟩
  by_cases hkd : k ≤ d0
  · exact (h4 k hkd).1
  · have : upk N k u.id = 1 := by rw [show k = d0 + (k - d0) by omega, upk_add, h3]; exact h.stay _
    rw [this]
    exact List.mem_map.2 ⟨_, h.at1.2.2.1, h.at1.2.2.2⟩
theorem upk_next (N : List NV) (k : Nat) (i : Int) : upk N (k + 1) i = (atN N (upk N k i)).up := by
  rw [upk_add]; rfl
end Go.Proofs.YtjpmomklkkifjaaGreatDoor.T
