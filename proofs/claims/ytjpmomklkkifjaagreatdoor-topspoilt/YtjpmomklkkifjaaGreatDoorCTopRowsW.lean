import Derived.Test.YtjpmomklkkifjaaGreatDoorCFLater
import Derived.Test.YtjpmomklkkifjaaGreatDoorCIParse
import Derived.Deep.RegionHeld3
import Derived.Test.YtjpmomklkkifjaaGreatDoorCFFind
import Derived.BigQuiet
import Derived.Deep.QuietTactic
set_option maxRecDepth 100000
set_option linter.unusedVariables false
set_option linter.unusedSimpArgs false
namespace Go.Proofs.YtjpmomklkkifjaaGreatDoor.T
open Go.RowKit Go.Lib
end Go.Proofs.YtjpmomklkkifjaaGreatDoor.T
namespace Go.Proofs.YtjpmomklkkifjaaGreatDoor.T
open Go.RowKit Go.Lib
def lastUp : List (Int × Item) → Int → Int
  | [], _ => 0
  | p :: T, i => if T.any (fun q => q.2.node == i) then lastUp T i else if p.2.node = i then p.1 else 0
theorem refs_snoc (T : List (Int × Item)) (p : Int × Item) (i : Int) : refsE (T ++ [p]) i = refsE T i + if p.2.node = i then 1 else 0 := by
  unfold refsE
  rw [List.countP_append]
  simp [List.countP_cons]
theorem lastUp_of {T : List (Int × Item)} {i : Int} {a : Int} {it : Item} (h1 : refsE T i = 1) (hm : (a, it) ∈ T) (hi : it.node = i) : lastUp T i = a := by
  induction T with
  | nil => cases hm
  | cons p T ih =>
    rw [refs_cons] at h1
    unfold lastUp
    by_cases hp : p.2.node = i
    · rw [if_pos hp] at h1
      have h0 : refsE T i = 0 := by omega
      have hno : ∀ q ∈ T, ¬ (q.2.node == i) = true := by
        unfold refsE at h0
        rw [List.countP_eq_zero] at h0
        exact h0
      have hany : T.any (fun q => q.2.node == i) = false := by
        rw [List.any_eq_false]
        exact hno
      rw [hany]
      simp only [Bool.false_eq_true, if_false, if_pos hp]
      rcases List.mem_cons.1 hm with e | e
      · rw [← e]
      · exact absurd (by simpa using hi) (hno _ e)
    · rw [if_neg hp, Nat.add_zero] at h1
      rcases List.mem_cons.1 hm with e | e
      · exfalso; apply hp; rw [← e]; exact hi
      · have hany : T.any (fun q => q.2.node == i) = true := by
          rw [List.any_eq_true]
          exact ⟨_, e, by simpa using hi⟩
        rw [hany]
        simp only [if_true]
        exact ih h1 e
theorem pairs_take {L : List NV} {k : Nat} {u : NV} (h : L[k]? = some u) (F : Forest) : pairs (L.take (k + 1)) F = pairs (L.take k) F ++ tagE u.id (entsK F u) := by
  rw [List.take_add_one, h]
  show pairs (L.take k ++ [u]) F = _
  rw [pairs_append, pairs_cons]
  simp [pairs]
theorem tag_take {es : List Item} {j : Nat} {x : Item} (h : es[j]? = some x) (i : Int) : tagE i (es.take (j + 1)) = tagE i (es.take j) ++ [(i, x)] := by
  unfold tagE
  rw [List.take_add_one, h]
  simp
theorem pairs_perm {L N : List NV} (h : L.Perm N) (F : Forest) : (pairs L F).Perm (pairs N F) := h.flatMap_right _
structure LinkOk (N : List NV) (E : List (Int × Item)) (u : NV) : Prop where
  root : u.id = 1 → refsE E u.id = 0 ∧ u.kind = 1
  some : u.id ≠ 1 → 1 ≤ refsE E u.id ∧ (refsE E u.id : Int) = u.links
  folder : u.id ≠ 1 → u.kind = 1 → refsE E u.id = 1 ∧ lastUp E u.id = u.up
theorem Linked.ok {N : List NV} {E E' : List (Int × Item)} (h : Linked N E) (hp : E'.Perm E) {u : NV} (hu : u ∈ N) : LinkOk N E' u := by
  have hc : refsE E' u.id = refsE E u.id := by unfold refsE; exact hp.countP_eq _
  refine ⟨fun e => ?_, fun e => ?_, fun e hk => ?_⟩
  · rw [hc]
    obtain ⟨r, hr, h1, h2, _⟩ := h.root
    have := uniq_of h.nodup hu hr (by rw [e, h1])
    refine ⟨?_, by rw [this]; exact h2⟩
    unfold refsE
    rw [List.countP_eq_zero]
    intro x hx hn
    exact (h.named x hx).1 (by rw [← e]; simpa using hn)
  · rw [hc]
    have := h.cnt u hu e
    omega
  · have h1 := h.cnt u hu e
    have h2 : u.links = 1 := by
      rcases h.kinds u hu with h3 | h3
      · exact h3.2.1
      · rw [hk] at h3; exact absurd h3.1 (by decide)
    have h3 : refsE E' u.id = 1 := by rw [hc]; omega
    obtain ⟨it, h4, h5⟩ := h.ups u hu hk e
    exact ⟨h3, lastUp_of h3 (hp.mem_iff.2 h4) h5⟩
end Go.Proofs.YtjpmomklkkifjaaGreatDoor.T
namespace Go.Proofs.YtjpmomklkkifjaaGreatDoor.T
open Go.RowKit Go.Lib
theorem isAt {L : List NV} {j : Nat} (h : j < L.length) : ∃ u, L[j]? = some u := ⟨L[j], by simp [h]⟩
end Go.Proofs.YtjpmomklkkifjaaGreatDoor.T
namespace Go.Proofs.YtjpmomklkkifjaaGreatDoor.T
open Go.RowKit
variable {w0 w : World} {N : List NV} {F : Forest} {next : Int} {l0 : List Res}
def ReadTo (w0 w : World) (db nb eb : Nat) (next : Int) (l0 : List Res) (T : List Tag) : Prop := ∃ D E nx, RdOk (pairsT T) (nodesT T) D E ∧ (Tag.nx ∈ T → nx = next) ∧ H0 w0 w (dfR db nb eb D E nx l0)
end Go.Proofs.YtjpmomklkkifjaaGreatDoor.T
namespace Go.Proofs.YtjpmomklkkifjaaGreatDoor.T
open Go.RowKit
variable {w0 w : World} {N : List NV} {F : Forest} {next : Int} {l0 : List Res}
def ParseEnd (w0 : World) (N : List NV) (F : Forest) (next : Int) (l0 : List Res) (e : Ending) (w' : World) : Prop :=
  ∃ gb gm N' F' acc, e = .returned (.tuple #[.pointer (some ⟨gb, 0, none⟩), .nilIface]) ∧ acc.Perm N ∧ Twins F F' acc N' ∧ Drawn F F' ∧ FSIn w0 w' gb gm N' F' next l0
end Go.Proofs.YtjpmomklkkifjaaGreatDoor.T
namespace Go.Proofs.YtjpmomklkkifjaaGreatDoor.T
open Go.RowKit
variable {w0 w : World} {fb mb gb gm : Nat} {N acc N' : List NV} {F F' : Forest} {next : Int} {rs' l2 : List Res}
end Go.Proofs.YtjpmomklkkifjaaGreatDoor.T
namespace Go.Proofs.YtjpmomklkkifjaaGreatDoor.T
open Go.RowKit
theorem keyS_few {s : ByteArray} (h : checkP s = none) : (keyS s).size ≤ 26 := by
  obtain ⟨hn, _, _⟩ := name_of_check h
  have h1 := hn.few
  have h2 := repl_len _ (foldL (signsOf s)) (Nat.le_refl _)
  have h3 : (foldL (signsOf s)).length = (splitL (signsOf s)).length := by simp [foldL]
  obtain ⟨f1, f2, _, _⟩ := runK_facts (repl (foldL (signsOf s)))
  have h4 : (keyS s).size = (keyZ (repl (foldL (signsOf s)))).length := by
    unfold keyS keyOf keyB toB
    simp [ByteArray.size]
  rw [h4]
  unfold keyZ
  simp only [List.length_append, List.length_cons, List.length_nil]
  omega
theorem name_few {s : ByteArray} (h : checkP s = none) : s.size ≤ 24 := by
  by_cases h1 : s.size = 0 ∨ 24 < s.size
  · rw [checkP_size h1] at h; simp at h
  · omega
theorem told_three {k : Nat} (h : k < 100) : (toldS k).size = 3 := by
  rw [Lib.size_eq, told_list ⟨k, h⟩]; rfl
def RowOk (c : CH) : Prop := c.key ≠ ⟨#[]⟩ ∧ c.key.size ≤ 48 ∧ c.val.size ≤ 44 ∧ c.gone = false
theorem one_app_ne {x : UInt8} {s : ByteArray} : (⟨#[x]⟩ ++ s : ByteArray) ≠ ⟨#[]⟩ := fun h => by
  have := congrArg ByteArray.size h
  rw [ByteArray.size_append] at this
  have h1 : (⟨#[x]⟩ : ByteArray).size = 1 := rfl
  have h2 : (⟨#[]⟩ : ByteArray).size = 0 := rfl
  omega
theorem one_size {x : UInt8} : (⟨#[x]⟩ : ByteArray).size = 1 := rfl
theorem RowsOk.row {N : List NV} {F : Forest} {next : Int} (h : RowsOk N F next) {c : CH} (hc : c ∈ rowsOf F next N) : RowOk c := by
  unfold rowsOf at hc
  rcases List.mem_cons.1 hc with e | hc
  · subst e
    have := h.top
    refine ⟨fun e => by have := congrArg ByteArray.size e; exact absurd this (by show ¬ (1 : Nat) = 0; omega), by show (1 : Nat) ≤ 48; omega, ?_, rfl⟩
    show (toldS next.toNat).size ≤ 44
    rw [told_three (by omega)]; omega
  · obtain ⟨v, hv, hc⟩ := List.mem_flatMap.1 hc
    have hi := h.ids v hv
    rcases ofNode_keys hc with e | ⟨x, hx, e⟩
    · subst e
      have := h.ups v hv
      have := h.links v hv
      have := h.text v hv
      refine ⟨one_app_ne, ?_, ?_, rfl⟩
      · show (⟨#[110]⟩ ++ toldS v.id.toNat : ByteArray).size ≤ 48
        rw [ByteArray.size_append, told_three (by omega), one_size]; omega
      · show (((⟨#[if v.kind = 1 then 100 else 102]⟩ ++ toldS v.up.toNat) ++ toldS v.links.toNat) ++ v.text : ByteArray).size ≤ 44
        rw [ByteArray.size_append, ByteArray.size_append, ByteArray.size_append, told_three (by omega), told_three (by omega), one_size]; omega
    · subst e
      obtain ⟨_, hx2, hx3⟩ := h.ents v hv x hx
      have h1 := keyS_few hx2
      have h2 := name_few hx2
      have h0 : ((entCh v.id x).key).size = 4 + (keyS x.name).size := by
        show ((⟨#[101]⟩ ++ toldS v.id.toNat) ++ keyS x.name : ByteArray).size = _
        rw [ByteArray.size_append, ByteArray.size_append, told_three (by omega), one_size]
      refine ⟨fun e => by rw [e] at h0; have h4 : (⟨#[]⟩ : ByteArray).size = 0 := rfl; omega, by omega, ?_, rfl⟩
      show (toldS x.node.toNat ++ x.name : ByteArray).size ≤ 44
      rw [ByteArray.size_append, told_three (by omega)]; omega
end Go.Proofs.YtjpmomklkkifjaaGreatDoor.T
