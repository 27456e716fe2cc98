/-
  What goes to another place and back is as it was. Plain facts. Rows that Rows has written, read one by one: what the draft is. Plain facts.
-/
import Derived.Test.YtjpmomklkkifjaaGreatDoorCIRound
import Derived.Test.YtjpmomklkkifjaaGreatDoorCFDone
import Derived.Test.YtjpmomklkkifjaaGreatDoorCFListP
namespace Go.Proofs.YtjpmomklkkifjaaGreatDoor.T
open Go.RowKit
set_option maxRecDepth 100000
set_option linter.unusedVariables false
set_option linter.unusedSimpArgs false

variable {N : List NV} {F : Forest} {next : Int}
theorem refs_one {i : Int} : ∀ {E : List (Int × Item)}, refsE E i = 1 → ∀ {x y : Int × Item}, x ∈ E → y ∈ E → x.2.node = i → y.2.node = i → x = y
  | [], h, x, y, hx, _, _, _ => by cases hx
  | e :: E, h, x, y, hx, hy, h1, h2 => by
    unfold refsE at h
    rw [List.countP_cons] at h
    by_cases he : e.2.node = i
    · rw [if_pos (by simpa using he)] at h
      have h0 : ∀ z ∈ E, z.2.node ≠ i := fun z hz e2 => by
        have := List.countP_eq_zero.1 (by omega : E.countP (fun x => x.2.node == i) = 0) z hz
        exact this (by simpa using e2)
      rcases List.mem_cons.1 hx with rfl | hx
      · rcases List.mem_cons.1 hy with rfl | hy
        · rfl
        · exact absurd h2 (h0 y hy)
      · exact absurd h1 (h0 x hx)
    · rw [if_neg (by simpa using he), Nat.add_zero] at h
      rcases List.mem_cons.1 hx with rfl | hx
      · exact absurd h1 he
      · rcases List.mem_cons.1 hy with rfl | hy
        · exact absurd h2 he
        · exact refs_one (E := E) h hx hy h1 h2
theorem On.trans {a b c : Int} (h : On N a b) (h2 : On N b c) : On N a c := by
  induction h with
  | here j => exact h2
  | up hv hk _ ih => exact .up hv hk (ih h2)
structure Upd (v v' : NV) : Prop where
  id : v'.id = v.id
  kind : v'.kind = v.kind
  tb : v'.tb = v.tb
theorem Upd.refl (v : NV) : Upd v v := ⟨rfl, rfl, rfl⟩
end Go.Proofs.YtjpmomklkkifjaaGreatDoor.T
namespace Go.Proofs.YtjpmomklkkifjaaGreatDoor.T
open Go.RowKit
set_option maxRecDepth 100000
set_option linter.unusedVariables false
set_option linter.unusedSimpArgs false

inductive Tag where
  | nx
  | nd (v : NV)
  | en (i : Int) (x : Item)
noncomputable def Tag.row (next : Int) : Tag → CH
  | .nx => nextCh next
  | .nd v => nodeCh v
  | .en i x => entCh i x
def Tag.node : Tag → Option NV
  | .nd v => some v
  | _ => none
def Tag.pair : Tag → Option (Int × Item)
  | .en i x => some (i, x)
  | _ => none
def tagsN (N : List NV) (F : Forest) : List Tag := .nx :: N.flatMap fun v => .nd v :: (entsK F v).map (Tag.en v.id)
def nodesT (T : List Tag) : List NV := T.filterMap Tag.node
def pairsT (T : List Tag) : List (Int × Item) := T.filterMap Tag.pair
theorem tags_rows (N : List NV) (F : Forest) (next : Int) : (tagsN N F).map (Tag.row next) = rowsOf F next N := by
  have h : ∀ M : List NV, (M.flatMap fun v => Tag.nd v :: (entsK F v).map (Tag.en v.id)).map (Tag.row next) = M.flatMap (ofNode F) := fun M => by
    induction M with
    | nil => rfl
    | cons v M ih =>
      rw [List.flatMap_cons, List.map_append, ih, List.flatMap_cons, List.map_cons, List.map_map]
      rfl
  unfold tagsN rowsOf
  rw [List.map_cons, h]
  rfl
theorem tags_nodes (N : List NV) (F : Forest) : nodesT (tagsN N F) = N := by
  have h0 : ∀ (i : Int) (L : List Item), (L.map (Tag.en i)).filterMap Tag.node = [] := fun i L => by
    induction L with
    | nil => rfl
    | cons x L ih => rw [List.map_cons, List.filterMap_cons]; exact ih
  have h : ∀ M : List NV, (M.flatMap fun v => Tag.nd v :: (entsK F v).map (Tag.en v.id)).filterMap Tag.node = M := fun M => by
    induction M with
    | nil => rfl
    | cons v M ih =>
      rw [List.flatMap_cons, List.filterMap_append, ih, List.filterMap_cons]
      show (v :: ((entsK F v).map (Tag.en v.id)).filterMap Tag.node) ++ M = _
      rw [h0]
      rfl
  exact h N
theorem tags_pairs (N : List NV) (F : Forest) : pairsT (tagsN N F) = pairs N F := by
  have h0 : ∀ (i : Int) (L : List Item), (L.map (Tag.en i)).filterMap Tag.pair = tagE i L := fun i L => by
    induction L with
    | nil => rfl
    | cons x L ih =>
      rw [List.map_cons, List.filterMap_cons]
      show (i, x) :: (L.map (Tag.en i)).filterMap Tag.pair = _
      rw [ih]
      rfl
  have h : ∀ M : List NV, (M.flatMap fun v => Tag.nd v :: (entsK F v).map (Tag.en v.id)).filterMap Tag.pair = pairs M F := fun M => by
    induction M with
    | nil => rfl
    | cons v M ih =>
      rw [List.flatMap_cons, List.filterMap_append, ih, List.filterMap_cons]
      show ((entsK F v).map (Tag.en v.id)).filterMap Tag.pair ++ pairs M F = _
      rw [h0]
      rfl
  exact h N
theorem perm_back {α β : Type} {f : α → β} : ∀ {A B : List β}, A.Perm B → ∀ L : List α, B = L.map f → ∃ T : List α, T.Perm L ∧ A = T.map f := by
  intro A B h
  induction h with
  | nil => intro L e; exact ⟨[], by cases L with | nil => exact .nil | cons x L => simp at e, rfl⟩
  | @cons x l1 l2 h ih =>
    intro L e
    cases L with
    | nil => simp at e
    | cons y L =>
      rw [List.map_cons] at e
      injection e with e1 e2
      obtain ⟨T, hp, rfl⟩ := ih L e2
      exact ⟨y :: T, hp.cons y, by rw [List.map_cons, e1]⟩
  | @swap x y l =>
    intro L e
    match L, e with
    | a :: b :: L, e =>
      rw [List.map_cons, List.map_cons] at e
      injection e with e1 e2
      injection e2 with e2 e3
      exact ⟨b :: a :: L, List.Perm.swap a b L, by rw [List.map_cons, List.map_cons, e1, e2, e3]⟩
  | trans _ _ ih1 ih2 =>
    intro L e
    obtain ⟨T2, hp2, rfl⟩ := ih2 L e
    obtain ⟨T1, hp1, e1⟩ := ih1 T2 rfl
    exact ⟨T1, hp1.trans hp2, e1⟩

def entsT (i : Int) (A : List (Int × Item)) : List Item := A.filterMap fun p => if p.1 = i then some p.2 else none
theorem entsT_snoc (i : Int) (A : List (Int × Item)) (p : Int × Item) : entsT i (A ++ [p]) = entsT i A ++ if p.1 = i then [p.2] else [] := by
  unfold entsT
  rw [List.filterMap_append]
  congr 1
  by_cases h : p.1 = i
  · simp [h]
  · simp [h]
structure RdOk (A : List (Int × Item)) (M : List NV) (D : List DN) (E : List DE) : Prop where
  dn : D.map (fun d => (d.id, d.kind, d.up, d.tail)) = M.map (fun v => (v.id, (⟨#[if v.kind = 1 then 100 else 102]⟩ : ByteArray), v.up, toldS v.links.toNat ++ v.text))
  z : ∀ d ∈ D, d.named = 0 ∧ d.fr = 0
  ef : (E.map DE.folder).Nodup
  ei : ∀ e ∈ E, e.items = entsT e.folder A ∧ e.items ≠ []
  ex : ∀ p ∈ A, ∃ e ∈ E, e.folder = p.1
  pr : (tagsOf E).Perm A
  len : E.length ≤ A.length
theorem RdOk.start : RdOk [] [] [] [] := ⟨rfl, by simp, by simp, by simp, by simp, .nil, by simp⟩
theorem RdOk.node {A : List (Int × Item)} {M : List NV} {D : List DN} {E : List DE} (h : RdOk A M D E) (v : NV) (blk : Nat) : RdOk A (M ++ [v]) (D ++ [⟨blk, v.id, ⟨#[if v.kind = 1 then 100 else 102]⟩, v.up, toldS v.links.toNat ++ v.text, 0, 0⟩]) E :=
  ⟨by rw [List.map_append, List.map_append, h.dn]; rfl, fun d hd => by
    rcases List.mem_append.1 hd with hd | hd
    · exact h.z d hd
    · rw [List.mem_singleton.1 hd]; exact ⟨rfl, rfl⟩, h.ef, h.ei, h.ex, h.pr, h.len⟩
theorem RdOk.ent {A : List (Int × Item)} {M : List NV} {D : List DN} {E E' : List DE} {i : Int} {x : Item} (h : RdOk A M D E) (ha : EntAdd E E' i x) : RdOk (A ++ [(i, x)]) M D E' := by
  rcases ha with ⟨hno, v', rfl⟩ | ⟨E1, e, E2, v', rfl, hi, rfl⟩
  · have hnil : entsT i A = [] := by
      unfold entsT
      rw [List.filterMap_eq_nil_iff]
      intro p hp
      obtain ⟨e, he, hf⟩ := h.ex p hp
      rw [if_neg]
      intro e2
      exact hno (List.mem_map.2 ⟨e, he, by rw [hf, e2]⟩)
    refine ⟨h.dn, h.z, ?_, fun e he => ?_, fun p hp => ?_, ?_, ?_⟩
    · rw [List.map_append, List.nodup_append]
      refine ⟨h.ef, by simp, fun a ha b hb e => ?_⟩
      simp at hb
      subst hb
      rw [e] at ha
      exact hno ha
    · rw [entsT_snoc]
      rcases List.mem_append.1 he with he | he
      · have hne : ¬ i = e.folder := fun e2 => hno (List.mem_map.2 ⟨e, he, e2.symm⟩)
        rw [if_neg hne, List.append_nil]
        exact h.ei e he
      · rw [List.mem_singleton.1 he]
        simp only
        rw [hnil]
        simp
    · rcases List.mem_append.1 hp with hp | hp
      · obtain ⟨e, he, hf⟩ := h.ex p hp
        exact ⟨e, List.mem_append_left _ he, hf⟩
      · rw [List.mem_singleton.1 hp]
        exact ⟨_, List.mem_append_right _ (List.mem_singleton.2 rfl), rfl⟩
    · have e1 : tagsOf (E ++ [⟨i, v', [x]⟩]) = tagsOf E ++ [(i, x)] := by simp [tagsOf, tagE]
      rw [e1]
      exact h.pr.append_right _
    · have := h.len
      simp only [List.length_append, List.length_cons, List.length_nil]
      omega
  · have hnd := h.ef
    rw [List.map_append, List.map_cons, List.nodup_append] at hnd
    have hmap : (E1 ++ (⟨i, v', e.items ++ [x]⟩ : DE) :: E2).map DE.folder = (E1 ++ e :: E2).map DE.folder := by simp [hi]
    refine ⟨h.dn, h.z, by rw [hmap]; exact h.ef, fun f hf => ?_, fun p hp => ?_, ?_, ?_⟩
    · rw [entsT_snoc]
      have hother : f ∈ E1 ++ e :: E2 → f.folder ≠ i → f.items = entsT f.folder A ++ (if i = f.folder then [x] else []) ∧ f.items ≠ [] := fun hm hne => by
        rw [if_neg (fun e2 => hne e2.symm), List.append_nil]
        exact h.ei f hm
      rcases List.mem_append.1 hf with hf | hf
      · exact hother (List.mem_append_left _ hf) (by rw [← hi]; exact hnd.2.2 f.folder (List.mem_map.2 ⟨f, hf, rfl⟩) e.folder (by simp))
      · rcases List.mem_cons.1 hf with rfl | hf
        · have := h.ei e (by simp)
          rw [hi] at this
          simp only
          rw [← this.1]
          simp
        · exact hother (List.mem_append_right _ (List.mem_cons_of_mem _ hf)) (fun e2 => (List.nodup_cons.1 hnd.2.1).1 (by rw [hi, ← e2]; exact List.mem_map.2 ⟨f, hf, rfl⟩))
    · have hfold : ∀ j, (∃ f ∈ E1 ++ e :: E2, f.folder = j) → ∃ f ∈ E1 ++ (⟨i, v', e.items ++ [x]⟩ : DE) :: E2, f.folder = j := fun j ⟨f, hf, e2⟩ => by
        have : j ∈ (E1 ++ e :: E2).map DE.folder := List.mem_map.2 ⟨f, hf, e2⟩
        rw [← hmap] at this
        obtain ⟨q, hq, e3⟩ := List.mem_map.1 this
        exact ⟨q, hq, e3⟩
      rcases List.mem_append.1 hp with hp | hp
      · exact hfold _ (h.ex p hp)
      · rw [List.mem_singleton.1 hp]
        exact hfold _ ⟨e, by simp, hi⟩
    · have e1 : (tagsOf (E1 ++ (⟨i, v', e.items ++ [x]⟩ : DE) :: E2)).Perm (tagsOf (E1 ++ e :: E2) ++ [(i, x)]) := by
        have a1 : tagsOf (E1 ++ (⟨i, v', e.items ++ [x]⟩ : DE) :: E2) = tagsOf E1 ++ (tagE i e.items ++ [(i, x)] ++ tagsOf E2) := by simp [tagsOf, tagE]
        have a2 : tagsOf (E1 ++ e :: E2) = tagsOf E1 ++ (tagE i e.items ++ tagsOf E2) := by simp [tagsOf, hi]
        rw [a1, a2, List.append_assoc, List.append_assoc, List.append_assoc]
        exact List.Perm.append_left _ (List.Perm.append_left _ List.perm_append_comm)
      exact e1.trans (h.pr.append_right _)
    · have := h.len
      simp only [List.length_append, List.length_cons] at this ⊢
      omega
theorem putAll_facts : ∀ (n : Nat) (L : List Item), L.length = n → (L.map Item.key).Nodup → Sorted (putAll L) ∧ (putAll L).Perm L := by
  intro n
  induction n with
  | zero =>
    intro L hl _
    have : L = [] := List.eq_nil_of_length_eq_zero hl
    subst this
    exact ⟨List.Pairwise.nil, .nil⟩
  | succ n ih =>
    intro L hl hn
    have hne : L ≠ [] := fun e => by rw [e] at hl; simp at hl
    have hdl := List.dropLast_concat_getLast hne
    generalize L.dropLast = L0 at hdl
    generalize L.getLast hne = x at hdl
    subst hdl
    have hl0 : L0.length = n := by simpa using hl
    rw [List.map_append, List.nodup_append] at hn
    obtain ⟨h1, h2⟩ := ih L0 hl0 hn.1
    have hg : getL (putAll L0) x.key = none := getL_none fun y hy e => hn.2.2 y.key (List.mem_map.2 ⟨y, h2.mem_iff.1 hy, rfl⟩) x.key (by simp) e
    rw [putAll_snoc]
    refine ⟨putL_sorted h1, (putL_perm hg).trans ((h2.cons x).trans ?_)⟩
    exact (List.perm_append_comm (l₁ := [x]) (l₂ := L0))
theorem putAll_eq {L S : List Item} (hp : L.Perm S) (hs : Sorted S) : putAll L = S := by
  have hk : (S.map Item.key).Nodup := by
    refine List.pairwise_map.2 (hs.imp fun hk e => ?_)
    rw [e] at hk
    exact kLt_irrefl _ hk
  obtain ⟨h1, h2⟩ := putAll_facts _ L rfl ((hp.map Item.key).nodup_iff.2 hk)
  exact (h2.trans hp).eq_of_pairwise (fun a b _ _ h3 h4 => absurd h4 (kLt_asymm h3)) h1 hs
end Go.Proofs.YtjpmomklkkifjaaGreatDoor.T
