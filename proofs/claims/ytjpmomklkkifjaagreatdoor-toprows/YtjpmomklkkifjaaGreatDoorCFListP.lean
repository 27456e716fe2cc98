/-
  A copy of folders and files beside the first: the pieces of both, and what makes them twins. The contract of FS.Copy: a second one whose nodes and entries tell the same. What the rows of an image are, as plain data; twins have the same; their keys differ. The contracts of strings.CutPrefix, and of image.cutNumber. A draft of folders and files in memory; the contract of readNode. What each deed leaves of the nodes and trees that were: no number gets another kind, and no folder more than one entry more; what is refused changes nothing. The contract of done, with what it leaves: an act upon folders and files; whatever it is, all goes together behind it. The contracts of FS.List, upon a folder, and of in. Who lists bit by bit: what is kept from part to part. Plain facts; and an append of entries beside folders and files.
-/
import Derived.Test.YtjpmomklkkifjaaGreatDoorCFNodes2
import Derived.Test.YtjpmomklkkifjaaGreatDoorCBCopied
import Derived.Shelf.Small.Wraps
import Derived.RegionTactic
import Derived.Test.YtjpmomklkkifjaaGreatDoorCFSort
import Derived.Test.YtjpmomklkkifjaaGreatDoorCFDone
namespace Go.Proofs.YtjpmomklkkifjaaGreatDoor.T
open Go.RowKit
open Go.Maps (Keyed)
set_option maxRecDepth 100000
set_option linter.unusedVariables false
set_option linter.unusedSimpArgs false

structure Twin (F F' : Forest) (v v' : NV) : Prop where
  id : v'.id = v.id
  kind : v'.kind = v.kind
  up : v'.up = v.up
  links : v'.links = v.links
  text : v'.text = v.text
  ents : entsK F' v' = entsK F v
  tree : v'.kind = 1 → ∃ tb, v'.tb = some tb ∧ tb ∈ F'.map (·.1)
inductive Twins (F F' : Forest) : List NV → List NV → Prop
  | nil : Twins F F' [] []
  | snoc {A B : List NV} {v v' : NV} : Twins F F' A B → Twin F F' v v' → Twins F F' (A ++ [v]) (B ++ [v'])

theorem lookF_new {F : Forest} {t tb : Nat} {L : List Item} (ht : t ∈ F.map (·.1)) (hn : tb ∉ F.map (·.1)) : lookF ((tb, L) :: F) t = lookF F t := by
  have he : (tb == t) = false := by
    have : tb ≠ t := fun e => hn (e ▸ ht)
    simpa using this
  simp [lookF, List.find?_cons, he]
theorem entsK_new {F : Forest} {v : NV} {tb : Nat} {L : List Item} (h : v.kind = 1 → ∃ t, v.tb = some t ∧ t ∈ F.map (·.1)) (hn : tb ∉ F.map (·.1)) : entsK ((tb, L) :: F) v = entsK F v := by
  unfold entsK
  split
  · rename_i hk
    obtain ⟨t, e, ht⟩ := h hk
    unfold entsOf
    rw [e]
    exact lookF_new ht hn
  · rfl
theorem Twin.more {F F' : Forest} {v v' : NV} {tb : Nat} {L : List Item} (h : Twin F F' v v') (hn : tb ∉ F'.map (·.1)) : Twin F ((tb, L) :: F') v v' :=
  ⟨h.id, h.kind, h.up, h.links, h.text, by rw [entsK_new h.tree hn]; exact h.ents, fun hk => by obtain ⟨t, e, ht⟩ := h.tree hk; exact ⟨t, e, by simp; exact .inr (by simpa using ht)⟩⟩
theorem Twins.more {F F' : Forest} {A B : List NV} {tb : Nat} {L : List Item} (h : Twins F F' A B) (hn : tb ∉ F'.map (·.1)) : Twins F ((tb, L) :: F') A B := by
  induction h with
  | nil => exact .nil
  | snoc _ ht ih => exact .snoc ih (ht.more hn)
theorem Twins.ids {F F' : Forest} {A B : List NV} (h : Twins F F' A B) : B.map NV.id = A.map NV.id := by
  induction h with
  | nil => rfl
  | snoc _ ht ih => rw [List.map_append, List.map_append, ih, List.map_cons, List.map_cons, ht.id]
theorem Twins.length {F F' : Forest} {A B : List NV} (h : Twins F F' A B) : B.length = A.length := by
  have := congrArg List.length h.ids
  simpa using this
theorem putN_snoc {N : List NV} {v : NV} (h : v.id ∉ N.map NV.id) : putN N v = N ++ [v] := by
  unfold putN
  have : (findN N v.id).isSome = false := by
    cases hf : findN N v.id with
    | none => rfl
    | some u => exact absurd (List.mem_map.2 ⟨u, (findN_some hf).1, (findN_some hf).2⟩) h
  rw [this]
  rfl

abbrev gR (gb gm : Nat) (N' : List NV) (next : Int) (rs' l : List Res) : List Res := .cell gb 77 [.map (some gm), .int .i64 next] :: .obj gm (IsMapN N') :: (rs' ++ l)

variable {w0 w w' : World} {fb mb : Nat} {N : List NV} {F : Forest} {next : Int} {l2 : List Res}
theorem FSIn.swap {gb gm : Nat} {N' : List NV} {F' : Forest} {next' : Int} {rs' : List Res} (hF' : ForR F' rs') (h : FSIn w0 w fb mb N F next (gR gb gm N' next' rs' l2)) :
    ∃ rs, ForR F rs ∧ FSIn w0 w gb gm N' F' next' (gR fb mb N next rs l2) := by
  obtain ⟨rs, hr, H⟩ := h
  refine ⟨rs, hr, rs', hF', H.conv (fun x => ?_) fun r hr => H.sat r ?_⟩
  · simp only [total_append, total_cons]; omega
  · simp only [List.mem_append, List.mem_cons] at hr ⊢
    rcases hr with h | h | h | h | h | h | h <;> simp [h]

theorem ranges_same {H : Type} {P : Program} {k : TypeId} {R : Value → Option (DataW H × List MemPlace)} {b r n : Nat} {D : DataW H} {left : Lit → Bool} {cnt : Nat}
    (h : w.ranges P k R b r n D left cnt) (hb : w'.heap[b]? = w.heap[b]?) (hr : w'.heap[r]? = w.heap[r]?) : w'.ranges P k R b r n D left cnt := by
  obtain ⟨es, clock, since, seen, c0, h1, h2, h3, h4, h5, rest⟩ := h
  exact ⟨es, clock, since, seen, c0, hb.trans h1, h2, h3, h4, hr.trans h5, rest⟩

end Go.Proofs.YtjpmomklkkifjaaGreatDoor.T
namespace Go.Proofs.YtjpmomklkkifjaaGreatDoor.T
open Go.RowKit
open Go.Maps (Keyed)
set_option maxRecDepth 100000
set_option linter.unusedVariables false
set_option linter.unusedSimpArgs false

variable {w0 w w' : World} {fb mb : Nat} {N : List NV} {F : Forest} {next : Int} {l2 : List Res}
theorem FSIn.mapNew (h : FSIn w0 w fb mb N F next l2) : FSIn w0 (w.alloc (.map #[] 0)) fb mb N F next (.obj w.heap.size (IsMapN []) :: l2) := by
  obtain ⟨rs, hr, H⟩ := h
  have H1 := Hold.mapNew H H.size
  refine ⟨rs, hr, Hold.conv H1 (fun x => ?_) fun r hr => H1.sat r ?_⟩
  · simp only [total_cons, total_append]; omega
  · simp only [List.mem_cons, List.mem_append] at hr ⊢
    rcases hr with h | h | h | h | h <;> simp [h]
def Drawn (F F' : Forest) : Prop := ∀ x ∈ F', ∃ t, t ∈ F.map (·.1) ∧ x.2 = lookF F t
def CopyFsEnd (w0 : World) (fb mb : Nat) (N : List NV) (F : Forest) (next : Int) (l2 : List Res) (e : Ending) (w' : World) : Prop :=
  ∃ gb gm N' F' acc rs', e = .returned (.pointer (some ⟨gb, 0, none⟩)) ∧ acc.Perm N ∧ Twins F F' acc N' ∧ Drawn F F' ∧ ForR F' rs' ∧ FSIn w0 w' fb mb N F next (gR gb gm N' next rs' l2)

end Go.Proofs.YtjpmomklkkifjaaGreatDoor.T
namespace Go.Proofs.YtjpmomklkkifjaaGreatDoor.T
open Go.RowKit
set_option maxRecDepth 100000
set_option linter.unusedVariables false
set_option linter.unusedSimpArgs false

def nodeCh (v : NV) : CH := ⟨⟨#[110]⟩ ++ toldS v.id.toNat, ((⟨#[if v.kind = 1 then 100 else 102]⟩ ++ toldS v.up.toNat) ++ toldS v.links.toNat) ++ v.text, false⟩
noncomputable def entCh (i : Int) (x : Item) : CH := ⟨(⟨#[101]⟩ ++ toldS i.toNat) ++ keyS x.name, toldS x.node.toNat ++ x.name, false⟩
noncomputable def ofNode (F : Forest) (v : NV) : List CH := nodeCh v :: (entsK F v).map (entCh v.id)
def nextCh (next : Int) : CH := ⟨⟨#[120]⟩, toldS next.toNat, false⟩
noncomputable def rowsOf (F : Forest) (next : Int) (L : List NV) : List CH := nextCh next :: L.flatMap (ofNode F)

theorem rowsOf_perm {F : Forest} {next : Int} {L N : List NV} (h : L.Perm N) : (rowsOf F next L).Perm (rowsOf F next N) := (h.flatMap_right (ofNode F)).cons _
theorem twin_rows {F F' : Forest} {v v' : NV} (h : Twin F F' v v') : ofNode F' v' = ofNode F v := by
  unfold ofNode nodeCh
  rw [h.ents, h.id, h.kind, h.up, h.links, h.text]
theorem twins_rows {F F' : Forest} {next : Int} {A B : List NV} (h : Twins F F' A B) : rowsOf F' next B = rowsOf F next A := by
  have : B.flatMap (ofNode F') = A.flatMap (ofNode F) := by
    induction h with
    | nil => rfl
    | snoc _ ht ih => rw [List.flatMap_append, List.flatMap_append, ih]; simp [twin_rows ht]
  unfold rowsOf
  rw [this]

theorem told_list : ∀ i : Fin 100, (toldS i.val).data.toList = [48, UInt8.ofNat (48 + i.val / 10), UInt8.ofNat (48 + i.val % 10)] := of_decide_eq_true (by kernel_rfl)
theorem told_sums : ∀ i j : Fin 100, UInt8.ofNat (48 + i.val / 10) = UInt8.ofNat (48 + j.val / 10) → UInt8.ofNat (48 + i.val % 10) = UInt8.ofNat (48 + j.val % 10) → i = j := of_decide_eq_true (by kernel_rfl)
theorem told_inj {a b : Nat} (ha : a < 100) (hb : b < 100) (h : toldS a = toldS b) : a = b := by
  have h1 := told_list ⟨a, ha⟩
  have h2 := told_list ⟨b, hb⟩
  simp only at h1 h2
  rw [h, h2] at h1
  injection h1 with _ h1
  injection h1 with h3 h1
  injection h1 with h4 _
  exact congrArg Fin.val (told_sums ⟨a, ha⟩ ⟨b, hb⟩ h3.symm h4.symm)
theorem bytes_ext {a b : ByteArray} (h : a.data.toList = b.data.toList) : a = b := ByteArray.ext (by simpa using h)
theorem app_list (a b : ByteArray) : (a ++ b).data.toList = a.data.toList ++ b.data.toList := by simp
theorem app_left {a b c d : ByteArray} (hs : a.size = c.size) (h : a ++ b = c ++ d) : a = c ∧ b = d := by
  have h1 := congrArg (fun x : ByteArray => x.data.toList) h
  simp only [app_list] at h1
  have h2 : a.data.toList.length = c.data.toList.length := by
    have e1 : a.data.toList.length = a.size := (Lib.size_eq a).symm
    have e2 : c.data.toList.length = c.size := (Lib.size_eq c).symm
    omega
  obtain ⟨h3, h4⟩ := List.append_inj h1 h2
  exact ⟨bytes_ext h3, bytes_ext h4⟩

theorem repl_len : ∀ (n : Nat) (l : List Int), l.length ≤ n → (repl l).length ≤ l.length := by
  intro n
  induction n with
  | zero =>
    intro l h
    have : l = [] := List.eq_nil_of_length_eq_zero (by omega)
    subst this
    simp [repl]
  | succ n ih =>
    intro l h
    match l with
    | [] => simp [repl]
    | [r] => simp [repl]
    | r :: q :: t =>
      rw [repl]
      split
      · have := ih t (by simp at h; omega)
        simp only [List.length_cons]; omega
      · have := ih (q :: t) (by simp at h ⊢; omega)
        simp only [List.length_cons] at this ⊢; omega
theorem keyS_size {s : ByteArray} (h : checkP s = none) : (keyS s).size ≤ 100 := by
  obtain ⟨hn, _, _⟩ := name_of_check h
  have h1 := hn.few
  have h2 := repl_len _ (foldL (signsOf s)) (Nat.le_refl _)
  have h3 : (foldL (signsOf s)).length = (splitL (signsOf s)).length := by simp [foldL]
  obtain ⟨f1, f2, _, _⟩ := runK_facts (repl (foldL (signsOf s)))
  have h4 : (keyS s).size = (keyZ (repl (foldL (signsOf s)))).length := by
    unfold keyS keyOf keyB toB
    simp [ByteArray.size]
  rw [h4]
  unfold keyZ
  simp only [List.length_append, List.length_cons, List.length_nil]
  omega
theorem name_size {s : ByteArray} (h : checkP s = none) : s.size ≤ 100 := by
  obtain ⟨hn, e, _⟩ := name_of_check h
  have := hn.bytes
  rw [e, encS_size]
  omega

structure RowsOk (N : List NV) (F : Forest) (next : Int) : Prop where
  fits : Fits N F next
  nodup : (N.map NV.id).Nodup
  root : N ≠ []
  ids : ∀ v ∈ N, 0 ≤ v.id ∧ v.id < 100
  ups : ∀ v ∈ N, 0 ≤ v.up ∧ v.up < 100
  links : ∀ v ∈ N, 0 ≤ v.links ∧ v.links < 100
  text : ∀ v ∈ N, v.text.size ≤ 20
  top : 0 ≤ next ∧ next < 100
  ents : ∀ v ∈ N, ∀ x ∈ entsK F v, x.key = keyS x.name ∧ checkP x.name = none ∧ 0 ≤ x.node ∧ x.node < 100
  sorted : ∀ v ∈ N, Sorted (entsK F v)
  many : (rowsOf F next N).length ≤ 1000

theorem nodeKey_ne {v : NV} {next : Int} : (nodeCh v).key ≠ (nextCh next).key := by
  intro h
  have h1 := congrArg (fun x : ByteArray => x.data.toList) h
  simp [nodeCh, nextCh, app_list] at h1
theorem entKey_ne {i : Int} {x : Item} {next : Int} : (entCh i x).key ≠ (nextCh next).key := by
  intro h
  have h1 := congrArg (fun x : ByteArray => x.data.toList) h
  simp [entCh, nextCh, app_list] at h1
theorem nodeEnt_ne {v : NV} {i : Int} {x : Item} : (nodeCh v).key ≠ (entCh i x).key := by
  intro h
  have h1 := congrArg (fun x : ByteArray => x.data.toList) h
  simp [entCh, nodeCh, app_list] at h1
theorem nodeKey_inj {u v : NV} (hu : 0 ≤ u.id ∧ u.id < 100) (hv : 0 ≤ v.id ∧ v.id < 100) (h : (nodeCh u).key = (nodeCh v).key) : u.id = v.id := by
  have h1 := (app_left rfl h).2
  have := told_inj (by omega) (by omega) h1
  omega
theorem entKey_inj {i j : Int} {x y : Item} (hi : 0 ≤ i ∧ i < 100) (hj : 0 ≤ j ∧ j < 100) (h : (entCh i x).key = (entCh j y).key) : i = j ∧ keyS x.name = keyS y.name := by
  have hi2 : i.toNat < 100 := by omega
  have hj2 : j.toNat < 100 := by omega
  have h0 : ((⟨#[101]⟩ : ByteArray) ++ toldS i.toNat).size = ((⟨#[101]⟩ : ByteArray) ++ toldS j.toNat).size := by
    rw [ByteArray.size_append, ByteArray.size_append, told_size hi2, told_size hj2]
  obtain ⟨h1, h2⟩ := app_left h0 h
  have h3 := (app_left rfl h1).2
  have := told_inj hi2 hj2 h3
  exact ⟨by omega, h2⟩
theorem ofNode_keys {F : Forest} {v : NV} {c : CH} (h : c ∈ ofNode F v) : c = nodeCh v ∨ ∃ x ∈ entsK F v, c = entCh v.id x := by
  rcases List.mem_cons.1 h with h | h
  · exact .inl h
  · obtain ⟨x, hx, rfl⟩ := List.mem_map.1 h
    exact .inr ⟨x, hx, rfl⟩
theorem RowsOk.keys {N : List NV} {F : Forest} {next : Int} (h : RowsOk N F next) : ((rowsOf F next N).map CH.key).Nodup := by
  have hall : ∀ (M : List NV), (∀ v ∈ M, v ∈ N) → (M.map NV.id).Nodup → ((M.flatMap (ofNode F)).map CH.key).Nodup := by
    intro M
    induction M with
    | nil => intros; simp
    | cons v M ih =>
      intro hs hn
      rw [List.map_cons, List.nodup_cons] at hn
      have ihM := ih (fun u hu => hs u (List.mem_cons_of_mem _ hu)) hn.2
      have hvN := hs v List.mem_cons_self
      rw [List.flatMap_cons, List.map_append, List.nodup_append]
      refine ⟨?_, ihM, ?_⟩
      · show (((nodeCh v).key) :: ((entsK F v).map (entCh v.id)).map CH.key).Nodup
        rw [List.nodup_cons]
        refine ⟨fun hm => ?_, ?_⟩
        · obtain ⟨c, hc, e⟩ := List.mem_map.1 hm
          obtain ⟨x, hx, rfl⟩ := List.mem_map.1 hc
          exact nodeEnt_ne e.symm
        · rw [List.map_map]
          refine List.pairwise_map.2 ?_
          refine (List.Pairwise.imp_of_mem (fun {a b} ha hb hk e => ?_) (h.sorted v hvN))
          have h1 := (entKey_inj (h.ids v hvN) (h.ids v hvN) e).2
          rw [← (h.ents v hvN a ha).1, ← (h.ents v hvN b hb).1] at h1
          rw [h1] at hk
          exact kLt_irrefl _ hk
      · intro a ha b hb e
        subst e
        obtain ⟨c, hc, e1⟩ := List.mem_map.1 ha
        obtain ⟨d, hd, e2⟩ := List.mem_map.1 hb
        obtain ⟨u, hu, hdu⟩ := List.mem_flatMap.1 hd
        have huN := hs u (List.mem_cons_of_mem _ hu)
        have hne : v.id ≠ u.id := fun e => hn.1 (e ▸ List.mem_map.2 ⟨u, hu, rfl⟩)
        have hk : c.key = d.key := e1.trans e2.symm
        rcases ofNode_keys hc with rfl | ⟨x, hx, rfl⟩ <;> rcases ofNode_keys hdu with rfl | ⟨y, hy, rfl⟩
        · exact hne (nodeKey_inj (h.ids v hvN) (h.ids u huN) hk)
        · exact nodeEnt_ne hk
        · exact nodeEnt_ne hk.symm
        · exact hne (entKey_inj (h.ids v hvN) (h.ids u huN) hk).1
  show ((nextCh next).key :: (N.flatMap (ofNode F)).map CH.key).Nodup
  rw [List.nodup_cons]
  refine ⟨fun hm => ?_, hall N (fun v hv => hv) h.nodup⟩
  obtain ⟨c, hc, e⟩ := List.mem_map.1 hm
  obtain ⟨u, hu, hcu⟩ := List.mem_flatMap.1 hc
  rcases ofNode_keys hcu with rfl | ⟨x, hx, rfl⟩
  · exact nodeKey_ne e
  · exact entKey_ne e

theorem Twins.back {F F' : Forest} {A B : List NV} (h : Twins F F' A B) : ∀ v' ∈ B, ∃ v ∈ A, Twin F F' v v' := by
  induction h with
  | nil => intro v' hv; cases hv
  | @snoc A B v v' _ ht ih =>
    intro x hx
    rcases List.mem_append.1 hx with hx | hx
    · obtain ⟨u, hu, h2⟩ := ih x hx
      exact ⟨u, List.mem_append_left _ hu, h2⟩
    · rw [List.mem_singleton.1 hx]
      exact ⟨v, List.mem_append_right _ (by simp), ht⟩
theorem RowsOk.copy {N acc N' : List NV} {F F' : Forest} {next : Int} (h : RowsOk N F next) (hp : acc.Perm N) (ht : Twins F F' acc N') (hd : Drawn F F') : RowsOk N' F' next := by
  have hb : ∀ v' ∈ N', ∃ v ∈ N, Twin F F' v v' := fun v' hv => by
    obtain ⟨v, h1, h2⟩ := ht.back v' hv
    exact ⟨v, hp.mem_iff.1 h1, h2⟩
  have hlen : N'.length = N.length := by rw [ht.length, hp.length_eq]
  have hf := h.fits
  refine ⟨⟨fun v hv hk => ?_, by rw [hlen]; exact hf.few, fun v hv => ?_, fun v hv => ?_, fun x hx => ?_, fun x hx => ?_, hf.next, fun x hx => ?_⟩, ?_, fun e => ?_, fun v hv => ?_, fun v hv => ?_, fun v hv => ?_, fun v hv => ?_, h.top, fun v hv => ?_, fun v hv => ?_, ?_⟩
  · obtain ⟨u, hu, t⟩ := hb v hv; exact t.tree hk
  · obtain ⟨u, hu, t⟩ := hb v hv; rw [t.id]; exact hf.id u hu
  · obtain ⟨u, hu, t⟩ := hb v hv; rw [t.up]; exact hf.up u hu
  · obtain ⟨t, ht, e⟩ := hd x hx; rw [e]; exact hf.ents _ (lookF_in ht)
  · obtain ⟨t, ht, e⟩ := hd x hx; rw [e]; exact hf.full _ (lookF_in ht)
  · obtain ⟨t, ht, e⟩ := hd x hx; rw [e]; exact hf.many _ (lookF_in ht)
  · rw [ht.ids]; exact (hp.map NV.id).nodup_iff.2 h.nodup
  · rw [e] at hlen; exact h.root (List.eq_nil_of_length_eq_zero hlen.symm)
  · obtain ⟨u, hu, t⟩ := hb v hv; rw [t.id]; exact h.ids u hu
  · obtain ⟨u, hu, t⟩ := hb v hv; rw [t.up]; exact h.ups u hu
  · obtain ⟨u, hu, t⟩ := hb v hv; rw [t.links]; exact h.links u hu
  · obtain ⟨u, hu, t⟩ := hb v hv; rw [t.text]; exact h.text u hu
  · obtain ⟨u, hu, t⟩ := hb v hv; rw [t.ents]; exact h.ents u hu
  · obtain ⟨u, hu, t⟩ := hb v hv; rw [t.ents]; exact h.sorted u hu
  · rw [twins_rows ht, (rowsOf_perm hp).length_eq]; exact h.many

theorem flat_len (F : Forest) (k : Nat) : ∀ (N : List NV), (∀ v ∈ N, (entsK F v).length ≤ k) → (N.flatMap (ofNode F)).length ≤ N.length * (k + 1)
  | [], _ => by simp
  | v :: N, h => by
    have := flat_len F k N fun u hu => h u (List.mem_cons_of_mem _ hu)
    have h1 := h v List.mem_cons_self
    rw [List.flatMap_cons, List.length_append, List.length_cons, Nat.add_mul, Nat.one_mul]
    have h2 : (ofNode F v).length = (entsK F v).length + 1 := by simp [ofNode]
    omega
theorem Good.rowsMany {k : Nat} {N : List NV} {F : Forest} {next : Int} (h : Good k N F next) (hk : k ≤ 90) (hmany : (rowsOf F next N).length ≤ 1000) : RowsOk N F next := by
  have hf := h.fits
  have hw := h.whole
  have hl := hw.linked
  have htop := h.goo.top
  have hids : ∀ v ∈ N, 0 ≤ v.id ∧ v.id < 100 := fun v hv => by have := hw.ids v hv; omega
  have hents := fun v hv => hw.ents hf (u := v) hv
  obtain ⟨r, hr, hr1, hr2, hr3⟩ := hl.root
  refine ⟨hf, hl.nodup, fun e => (by rw [e] at hr; cases hr), hids, fun v hv => ?_, fun v hv => ?_, fun v hv => ?_, by have := hf.next; omega, fun v hv x hx => ?_, fun v hv => (hents v hv).sorted, ?_⟩
  · rcases hl.kinds v hv with ⟨k1, _⟩ | ⟨_, k2, _⟩
    · by_cases h1 : v.id = 1
      · have : v = r := by
          have a := findN_mem hl.nodup hv
          have b := findN_mem hl.nodup hr
          rw [h1, ← hr1, b] at a
          exact (Option.some.inj a).symm
        rw [this, hr3]; omega
      · obtain ⟨it, h2, _⟩ := hl.ups v hv k1 h1
        obtain ⟨u, hu, e, _⟩ := hl.folder _ h2
        have := hids u hu
        simp only at e
        omega
    · omega
  · have := h.goo.links v hv; omega
  · rcases hl.kinds v hv with ⟨_, _, e⟩ | ⟨_, _, e⟩
    · rw [e]; decide
    · exact e
  · obtain ⟨_, u, hu, e⟩ := (hents v hv).node x hx
    have := hids u hu
    exact ⟨(hents v hv).key x hx, (hents v hv).name x hx, by omega, by omega⟩
  · exact hmany
theorem Good.many {k : Nat} {N : List NV} {F : Forest} {next : Int} (h : Good k N F next) (hk : k ≤ 60) : (rowsOf F next N).length ≤ 1000 := by
  have hw := h.whole
  have hlk : ∀ v ∈ N, (entsK F v).length ≤ k := fun v hv => by
    unfold entsK
    split
    · rename_i hk1
      obtain ⟨tb, htb, ht⟩ := hw.tree v hv hk1
      unfold entsOf
      rw [htb]
      exact h.few.look tb
    · simp
  have h1 := flat_len F k N hlk
  have h2 := h.fits.few
  show (N.flatMap (ofNode F)).length + 1 ≤ 1000
  have h3 : N.length * (k + 1) ≤ 16 * 61 := Nat.mul_le_mul h2 (by omega)
  omega
theorem Good.rows {k : Nat} {N : List NV} {F : Forest} {next : Int} (h : Good k N F next) (hk : k ≤ 60) : RowsOk N F next := h.rowsMany (by omega) (h.many hk)
end Go.Proofs.YtjpmomklkkifjaaGreatDoor.T
namespace Go.Proofs.YtjpmomklkkifjaaGreatDoor.T
open Go.Shelf Go.RowKit
set_option maxRecDepth 100000
set_option linter.unusedVariables false
set_option linter.unusedSimpArgs false

def lays103_ren : Go.Shelf.Ren := ⟨fun | 103 => 115 | 206 => 101 | 210 => 168 | n => n, fun | 24 => 162 | 3 => 3 | 4 => 4 | 9 => 9 | n => n, fun | n => n⟩
theorem lays103 : Lays.n103 Tryz.prog lays103_ren := {
  mixed := by kernel_rfl
  f103 := Tryz.func115.trans (congrArg some (by kernel_rfl))
  f206 := Tryz.func101.trans (congrArg some (by kernel_rfl))
  f210 := Tryz.func168.trans (congrArg some (by kernel_rfl))
  t3 := Tryz.underlying3
  a3 := Tryz.isAgg3
  z3 := Tryz.sizeOf3
  v3 := Tryz.zeroValue3
  t4 := Tryz.underlying4
  a4 := Tryz.isAgg4
  z4 := Tryz.sizeOf4
  v4 := Tryz.zeroValue4
  t9 := Tryz.underlying9
  a9 := Tryz.isAgg9
  z9 := Tryz.sizeOf9
  v9 := Tryz.zeroValue9
  t24 := Tryz.underlying162
  a24 := Tryz.isAgg162
  z24 := Tryz.sizeOf162
  v24 := Tryz.zeroValue162 }
theorem cut_yes (p r : ByteArray) (w : World) : Calls Tryz.prog 115 #[.string (p ++ r), .string p] w fun e w' => e = .returned (.tuple #[.string r, .bool true]) ∧ w' = w := by
  have h := Any.strings_CutPrefix lays103 (p ++ r) p w
  have h1 : Lib.hasPrefix (p ++ r).data.toList p.data.toList = true := by
    unfold Lib.hasPrefix
    rw [app_list]
    exact List.isPrefixOf_iff_prefix.2 (List.prefix_append _ _)
  have h2 : (⟨(Lib.trimPrefix (p ++ r).data.toList p.data.toList).toArray⟩ : ByteArray) = r := by
    unfold Lib.trimPrefix
    rw [if_pos h1, app_list, List.drop_left]
  rw [h1, h2] at h
  exact h
theorem cut_no {s p : ByteArray} (hp : Lib.hasPrefix s.data.toList p.data.toList = false) (w : World) : Calls Tryz.prog 115 #[.string s, .string p] w fun e w' => e = .returned (.tuple #[.string s, .bool false]) ∧ w' = w := by
  have h := Any.strings_CutPrefix lays103 s p w
  have h2 : (⟨(Lib.trimPrefix s.data.toList p.data.toList).toArray⟩ : ByteArray) = s := by
    unfold Lib.trimPrefix
    rw [hp]
    rfl
  rw [hp, h2] at h
  exact h

set_option maxHeartbeats 2000000 in
theorem cutNumber_calls (n : Nat) (hn : n < 100) (r : ByteArray) (hr : r.size ≤ 100000) (w : World) :
    Calls Tryz.prog 116 #[.string (toldS n ++ r)] w fun e w' => e = .returned (.tuple #[.int .i64 n, .string r, .bool true]) ∧ Below w.heap.size w w' := by
  obtain ⟨s, hs⟩ : ∃ s, toldS n ++ r = s := ⟨_, rfl⟩
  have hz : s.size = 3 + r.size := by rw [← hs, ByteArray.size_append, told_size hn]
  have h1 : s.extract 0 3 = toldS n := by
    refine bytes_ext ?_
    rw [Lib.extract_data, ← hs, app_list]
    have : (toldS n).data.toList.length = 3 := by rw [← Lib.size_eq, told_size hn]
    simp [this]
  have h2 : s.extract 3 s.size = r := by
    refine bytes_ext ?_
    rw [Lib.extract_to_end, ← hs, app_list]
    have : (toldS n).data.toList.length = 3 := by rw [← Lib.size_eq, told_size hn]
    rw [List.drop_left' this]
  have ha := fun wx => atoi_calls n hn wx
  rw [← h1] at ha
  rw [hs]
  have HA := hide ha
  have hz1 : ¬ (s.size : Int) < 3 := by omega
  have hz2 : (3 : Int) ≤ (s.size : Int) := by omega
  have H2 := hide h2
  clear ha h1 h2 hs hn
  go_enter Tryz.func116, Tryz.ntmps116
  go_wp2_with fail
  refine (unhide HA _).mono ?_
  rintro e w2 ⟨rfl, hb⟩
  have Hb := hide hb
  clear hb HA
  go_wp2_with fail
  go_region
  all_goals
    go_wp2_with fail
    refine bodyPost_ret (results_tmp3 rfl _ _ _) rfl ?_
    have h3 : s.extract 3 (3 + r.size) = r := by rw [← hz]; exact unhide H2
    refine ⟨?_, (unhide Hb).drew⟩
    show Ending.returned (.tuple #[.int .i64 n, .string (s.extract 3 (3 + r.size)), .bool true]) = _
    rw [h3]
end Go.Proofs.YtjpmomklkkifjaaGreatDoor.T
namespace Go.Proofs.YtjpmomklkkifjaaGreatDoor.T
open Go.RowKit
set_option maxRecDepth 100000
set_option linter.unusedVariables false
set_option linter.unusedSimpArgs false

structure DN where
  blk : Nat
  id : Int
  kind : ByteArray
  up : Int
  tail : ByteArray
  named : Int
  fr : Int
def DN.pv (d : DN) : P.PV := ⟨d.id, .pointer (some ⟨d.blk, 0, none⟩)⟩
def DN.cells (d : DN) : List Value := [.string d.kind, .int .i64 d.up, .string d.tail, .int .i64 d.named, .int .i64 d.fr]
def DN.res (d : DN) : Res := .cell d.blk 170 d.cells
structure DE where
  folder : Int
  v : Value
  items : List Item
def DE.pv (e : DE) : P.PV := ⟨e.folder, e.v⟩
def DE.res (e : DE) : Res := rowE e.v e.items
def dfR (db nb eb : Nat) (D : List DN) (E : List DE) (next : Int) (l : List Res) : List Res :=
  .cell db 119 [.map (some nb), .map (some eb), .int .i64 next] :: .obj nb (P.IsMapP (D.map DN.pv)) :: .obj eb (P.IsMapP (E.map DE.pv)) :: (D.map DN.res ++ (E.map DE.res ++ l))

variable {w0 w w' : World} {db nb eb : Nat} {D : List DN} {E : List DE} {next : Int} {l : List Res}
theorem df_cells (h : H0 w0 w (dfR db nb eb D E next l)) : w.cell? ⟨db, 0, none⟩ = some (.map (some nb)) ∧ w.cell? ⟨db, 1, none⟩ = some (.map (some eb)) ∧ w.cell? ⟨db, 2, none⟩ = some (.int .i64 next) ∧ w.frozen? ⟨db, 2, none⟩ = false := by
  have hm : Res.cell db 119 [.map (some nb), .map (some eb), .int .i64 next] ∈ dfR db nb eb D E next l := .head _
  exact ⟨Hold.cellAt h hm rfl, Hold.cellAt h hm rfl, Hold.cellAt h hm rfl, Hold.frozenAt h hm _⟩
theorem H0.ready {rs : List Res} (hR : Ready w0) (h : H0 w0 w rs) : Ready w := hR.later (H0.below h)
theorem putP_snoc {M : List P.PV} {v : P.PV} (h : v.id ∉ M.map P.PV.id) : P.putP M v = M ++ [v] := by
  unfold P.putP
  have : (P.findP M v.id).isSome = false := by
    cases hf : P.findP M v.id with
    | none => rfl
    | some u => exact absurd (List.mem_map.2 ⟨u, (P.findP_some hf).1, (P.findP_some hf).2⟩) h
  rw [this]
  rfl
theorem dn_ids (D : List DN) : (D.map DN.pv).map P.PV.id = D.map DN.id := by simp [DN.pv, Function.comp_def]
theorem de_ids (E : List DE) : (E.map DE.pv).map P.PV.id = E.map DE.folder := by simp [DE.pv, Function.comp_def]
theorem df_node (h : H0 w0 w (dfR db nb eb D E next l)) (hD : D.length ≤ 1000) (d : DN) (hi : WfI d.id) (hid : d.id ∉ D.map DN.id) (hb : d.blk = w.heap.size) :
    ∃ w', (Instr.mapUpdate 116 (.map (some nb)) (.int .i64 d.id) (.pointer (some ⟨d.blk, 0, none⟩))).run Tryz.prog (w.alloc (.cells d.cells.toArray 170)) = .ok () w' ∧ H0 w0 w' (dfR db nb eb (D ++ [d]) E next l) := by
  have h1 := Hold.made h (H0.below h).size 170 d.cells
  rw [← hb] at h1
  have h2 : H0 w0 (w.alloc (.cells d.cells.toArray 170)) ([.cell db 119 [.map (some nb), .map (some eb), .int .i64 next]] ++ .obj nb (P.IsMapP (D.map DN.pv)) :: (.obj eb (P.IsMapP (E.map DE.pv)) :: ((D ++ [d]).map DN.res ++ (E.map DE.res ++ l)))) := by
    refine Hold.conv h1 (fun x => ?_) (fun r hr => Hold.sat h1 r ?_)
    · simp only [dfR, DN.res, total_cons, total_append, List.map_append, List.map_cons, List.map_nil, total_nil]; omega
    · simp only [dfR, List.mem_append, List.mem_cons, List.map_append, List.map_cons, List.map_nil, List.not_mem_nil, or_false] at hr ⊢
      rcases hr with h | h | h | (h | h) | h | h <;> simp [h, DN.res]
  obtain ⟨w', hrun, h3⟩ := P.put116 _ h2 (by simpa using hD) d.pv hi
  refine ⟨w', hrun, ?_⟩
  rw [putP_snoc (by rw [dn_ids]; exact hid)] at h3
  unfold dfR
  rw [List.map_append]
  exact h3

set_option maxHeartbeats 4000000 in
theorem readNode_calls (h : H0 w0 w (dfR db nb eb D E next l)) (hD : D.length ≤ 1000) (i : Int) (hi : WfI i) (hid : i ∉ D.map DN.id) (k : UInt8) (up : Nat) (hup : up < 100) (tail : ByteArray) (ht : tail.size ≤ 1000) :
    Calls Tryz.prog 117 #[.pointer (some ⟨db, 0, none⟩), .int .i64 i, .string (⟨#[k]⟩ ++ (toldS up ++ tail))] w fun e w' => e = .returned (.bool true) ∧ ∃ blk, H0 w0 w' (dfR db nb eb (D ++ [⟨blk, i, ⟨#[k]⟩, up, tail, 0, 0⟩]) E next l) := by
  obtain ⟨s, hs⟩ : ∃ s, (⟨#[k]⟩ : ByteArray) ++ (toldS up ++ tail) = s := ⟨_, rfl⟩
  have hz : s.size = 4 + tail.size := by rw [← hs, ByteArray.size_append, ByteArray.size_append, told_size hup]; show 1 + (3 + tail.size) = _; omega
  have h1 : s.extract 0 1 = ⟨#[k]⟩ := by
    refine bytes_ext ?_
    rw [Lib.extract_data, ← hs, app_list]
    simp
  have h2 : s.extract 1 s.size = toldS up ++ tail := by
    refine bytes_ext ?_
    rw [Lib.extract_to_end, ← hs, app_list]
    simp
  have hne : (s.toList == ([] : List UInt8)) = false := by
    cases hx : (s.toList == ([] : List UInt8)) with
    | false => rfl
    | true =>
      exfalso
      have h1 : s.toList = [] := by simpa using hx
      rw [Lib.toList_data] at h1
      have h0 : s.size = 0 := by rw [Lib.size_eq, h1]; rfl
      omega
  have hc := fun wx => cutNumber_calls up hup tail (by omega) wx
  rw [← h2] at hc
  rw [hs]
  have hz1 : (1 : Int) ≤ (s.size : Int) := by omega
  have HC := hide hc
  have H1 := hide h
  have He1 := hide h1
  have Hid1 := hide hid
  have Hi1 := hide hi
  clear hc h h1 h2 hs hz hid hi hup
  go_enter Tryz.func117, Tryz.ntmps117
  go_wp2_with fail
  refine (unhide HC _).mono ?_
  rintro e w2 ⟨rfl, hb⟩
  have h3 : H0 w0 w2 (dfR db nb eb D E next l) := H0.step (unhide H1) hb
  obtain ⟨c0, c1, c2, c3⟩ := df_cells h3
  obtain ⟨w5, hput, h5⟩ := df_node (Hold.drew h3) hD ⟨w2.heap.size, i, s.extract 0 1, up, tail, 0, 0⟩ (unhide Hi1) (unhide Hid1) (by simp)
  have hput' : Sem.run Tryz.prog (Instr.mapUpdate 116 (.map (some nb)) (.int .i64 i) (.pointer (some ⟨w2.heap.size, 0, none⟩))) (w2.alloc (.cells #[.string (s.extract 0 1), .int .i64 up, .string tail, .int .i64 0, .int .i64 0] 170)).drew = .ok () w5 := hput
  rw [unhide He1] at h5
  have H5 := hide h5
  clear h5 h3 hput hb HC H1 c1 c2 c3
  have c0a : ∀ o, (w2.alloc o).cell? ⟨db, 0, none⟩ = some (.map (some nb)) := fun o => Lib.cell?_alloc_some o c0
  go_wp2_with fail
  go_region
  all_goals
    go_wp2_with fail
    go_ret
    exact ⟨rfl, _, unhide H5⟩
end Go.Proofs.YtjpmomklkkifjaaGreatDoor.T
namespace Go.Proofs.YtjpmomklkkifjaaGreatDoor.T
open Go.RowKit
set_option maxRecDepth 100000
set_option linter.unusedVariables false
set_option linter.unusedSimpArgs false

def LeT (n : Nat) (F F' : Forest) : Prop := ∀ tb, tb ∈ F.map (·.1) → ∀ key, (afterL (lookF F' tb) key).length ≤ (afterL (lookF F tb) key).length + n
structure StepOk (N : List NV) (F : Forest) (next : Int) (N' : List NV) (F' : Forest) (next' : Int) : Prop where
  node : ∀ v' ∈ N', v'.id < next → ∃ v ∈ N, v.id = v'.id ∧ v.kind = v'.kind ∧ v.tb = v'.tb
  tree : LeT 1 F F'
  next : next ≤ next'
variable {k : Nat} {N : List NV} {F : Forest} {next : Int}
theorem LeT.refl (F : Forest) : LeT 0 F F := fun _ _ _ => Nat.le_refl _
theorem LeT.mono {n m : Nat} {F F' : Forest} (h : LeT n F F') (hm : n ≤ m) : LeT m F F' := fun tb ht key => by have := h tb ht key; omega
theorem LeT.trans {n m : Nat} {F F' F'' : Forest} (h : LeT n F F') (h2 : LeT m F' F'') (hk : F'.map (·.1) = F.map (·.1)) : LeT (n + m) F F'' := fun tb ht key => by
  have a := h tb ht key
  have b := h2 tb (by rw [hk]; exact ht) key
  omega
def SubN (N N' : List NV) : Prop := ∀ v' ∈ N', ∃ v ∈ N, v.id = v'.id ∧ v.kind = v'.kind ∧ v.tb = v'.tb
theorem SubN.refl (N : List NV) : SubN N N := fun v hv => ⟨v, hv, rfl, rfl, rfl⟩
theorem SubN.trans {A B C : List NV} (h : SubN A B) (h2 : SubN B C) : SubN A C := fun v hv => by
  obtain ⟨u, hu, e1, e2, e3⟩ := h2 v hv
  obtain ⟨x, hx, f1, f2, f3⟩ := h u hu
  exact ⟨x, hx, f1.trans e1, f2.trans e2, f3.trans e3⟩
theorem StepOk.of {N' : List NV} {F' : Forest} (h1 : SubN N N') (h2 : LeT 1 F F') : StepOk N F next N' F' next := ⟨fun v hv _ => h1 v hv, h2, Int.le_refl _⟩
theorem StepOk.refl : StepOk N F next N F next := .of (SubN.refl N) ((LeT.refl F).mono (by omega))
def GoodEnd2 (N : List NV) (F : Forest) (next : Int) (w0 : World) (fb mb : Nat) (l2 : List Res) (k : Nat) (e : Ending) (w' : World) : Prop := ∃ o N' F' next', e = .returned (errV o) ∧ FSIn w0 w' fb mb N' F' next' l2 ∧ Good k N' F' next' ∧ StepOk N F next N' F' next' ∧ (o = none ∨ N' = N ∧ F' = F ∧ next' = next)
variable {w0 w : World} {fb mb : Nat} {l2 : List Res}
end Go.Proofs.YtjpmomklkkifjaaGreatDoor.T
namespace Go.Proofs.YtjpmomklkkifjaaGreatDoor.T
open Go.RowKit
set_option maxRecDepth 100000
set_option linter.unusedVariables false
set_option linter.unusedSimpArgs false

end Go.Proofs.YtjpmomklkkifjaaGreatDoor.T
namespace Go.Proofs.YtjpmomklkkifjaaGreatDoor.T
open Go.RowKit Go.Lib
set_option maxRecDepth 100000
set_option linter.unusedVariables false
set_option linter.unusedSimpArgs false

variable {w0 w : World} {fb mb : Nat} {N : List NV} {F : Forest} {next : Int} {l2 : List Res}
end Go.Proofs.YtjpmomklkkifjaaGreatDoor.T
namespace Go.Proofs.YtjpmomklkkifjaaGreatDoor.T
open Go.RowKit Go.Lib
set_option maxRecDepth 100000
set_option linter.unusedVariables false
set_option linter.unusedSimpArgs false

def Keyd (L : List Item) : Prop := ∀ x ∈ L, x.key = keyS x.name ∧ checkP x.name = none
theorem named_iff {L : List Item} (hL : Keyd L) {x : Item} (hx : x.key = keyS x.name) : namedB L x.name x.node = true ↔ x ∈ L := by
  constructor
  · intro h
    unfold namedB at h
    rw [List.any_eq_true] at h
    obtain ⟨y, hy, h2⟩ := h
    rw [Bool.and_eq_true, beq_iff_eq, beq_iff_eq] at h2
    have hn : y.name = x.name := toList_inj (by rw [← Lib.toList_data, ← Lib.toList_data]; exact h2.1)
    have : y = x := by
      cases y; cases x
      simp only at hn h2 hx
      have hk := (hL _ hy).1
      simp only at hk
      rw [hk, hx, hn, h2.2]
    rw [← this]; exact hy
  · intro h
    unfold namedB
    rw [List.any_eq_true]
    exact ⟨x, h, by simp⟩
structure Bit (L T A E : List Item) (cur : ByteArray) (b : Nat) : Prop where
  keyT : Keyd T
  keyA : Keyd A
  keyE : Keyd E
  sorted : Sorted T
  low : ∀ t ∈ T, ¬ kLt cur t.key
  te : ∀ t ∈ T, t ∈ E
  al : ∀ a ∈ A, a ∈ L
  le : ∀ x ∈ L, x ∈ E
  seen : ∀ a ∈ A, ¬ kLt cur a.key → a ∈ T
  many : (afterL L cur).length ≤ b
theorem Bit.start {L : List Item} (hL : Keyd L) (hf : Full L) {b : Nat} (hb : L.length ≤ b) : Bit L [] L L ⟨#[]⟩ b := by
  have hlt : ∀ x ∈ L, kLt ⟨#[]⟩ x.key := fun x hx => by
    have h1 := hf.after
    have h2 : x ∈ afterL L ⟨#[]⟩ := by rw [h1]; exact hx
    exact of_decide_eq_true (List.mem_filter.1 h2).2
  exact ⟨fun x hx => (by cases hx), hL, hL, List.Pairwise.nil, fun t ht => (by cases ht), fun t ht => (by cases ht), fun a ha => ha, fun x hx => hx, fun a ha h => absurd (hlt a ha) h, (by rw [hf.after]; exact hb)⟩
theorem Bit.done {L T A E : List Item} {cur : ByteArray} {b : Nat} (h : Bit L T A E cur b) (h0 : afterL L cur = []) : ∀ a ∈ A, a ∈ T := fun a ha => by
  refine h.seen a ha fun hk => ?_
  have : a ∈ afterL L cur := List.mem_filter.2 ⟨h.al a ha, by simpa using hk⟩
  rw [h0] at this
  cases this
theorem Bit.next {L T A E : List Item} {cur : ByteArray} {b k : Nat} (h : Bit L T A E cur b) (hL : Keyd L) (hs : Sorted L) {p : Item} {Q : List Item} (hP : (afterL L cur).take k = Q ++ [p]) :
    Sorted (T ++ (Q ++ [p])) ∧ Keyd (T ++ (Q ++ [p])) ∧ (∀ t ∈ T ++ (Q ++ [p]), ¬ kLt p.key t.key) ∧ (∀ t ∈ T ++ (Q ++ [p]), t ∈ E) ∧ (∀ a ∈ A, ¬ kLt p.key a.key → a ∈ T ++ (Q ++ [p])) ∧ (afterL L p.key).length + 1 ≤ b ∧ p ∈ L := by
  have hsA : Sorted (afterL L cur) := List.Pairwise.sublist List.filter_sublist hs
  have hsplit : afterL L cur = (Q ++ [p]) ++ (afterL L cur).drop k := by rw [← hP, List.take_append_drop]
  rw [hsplit] at hsA
  have hPL : ∀ x ∈ Q ++ [p], x ∈ L ∧ kLt cur x.key := fun x hx => by
    have : x ∈ afterL L cur := by rw [hsplit]; exact List.mem_append_left _ hx
    exact ⟨(List.mem_filter.1 this).1, of_decide_eq_true (List.mem_filter.1 this).2⟩
  have hsP : Sorted (Q ++ [p]) := (List.pairwise_append.1 hsA).1
  have hcross := (List.pairwise_append.1 hsA).2.2
  have hple : ∀ x ∈ Q ++ [p], ¬ kLt p.key x.key := fun x hx hk => by
    rcases List.mem_append.1 hx with h1 | h1
    · exact kLt_asymm ((List.pairwise_append.1 hsP).2.2 x h1 p (by simp)) hk
    · rw [List.mem_singleton.1 h1] at hk; exact kLt_irrefl _ hk
  have hp := hPL p (by simp)
  have hlow : ∀ t ∈ T, kLt t.key p.key := fun t ht => by
    have h1 := h.low t ht
    rcases kLt_tri t.key cur with h2 | h2 | h2
    · exact kLt_trans h2 hp.2
    · rw [h2]; exact hp.2
    · exact absurd h2 h1
  have hlowx : ∀ t ∈ T, ∀ x ∈ Q ++ [p], kLt t.key x.key := fun t ht x hx => by
    have h1 := h.low t ht
    rcases kLt_tri t.key cur with h2 | h2 | h2
    · exact kLt_trans h2 (hPL x hx).2
    · rw [h2]; exact (hPL x hx).2
    · exact absurd h2 h1
  refine ⟨List.pairwise_append.2 ⟨h.sorted, hsP, hlowx⟩, fun x hx => ?_, fun t ht hk => ?_, fun t ht => ?_, fun a ha hk => ?_, ?_, hp.1⟩
  · rcases List.mem_append.1 hx with h1 | h1
    · exact h.keyT x h1
    · exact hL x (hPL x h1).1
  · rcases List.mem_append.1 ht with h1 | h1
    · exact kLt_asymm (hlow t h1) hk
    · exact hple t h1 hk
  · rcases List.mem_append.1 ht with h1 | h1
    · exact h.te t h1
    · exact h.le t (hPL t h1).1
  · by_cases hc : kLt cur a.key
    · have hm : a ∈ afterL L cur := List.mem_filter.2 ⟨h.al a ha, by simpa using hc⟩
      rw [hsplit] at hm
      rcases List.mem_append.1 hm with h1 | h1
      · exact List.mem_append_right _ h1
      · exact absurd (hcross p (by simp) a h1) hk
    · exact List.mem_append_left _ (h.seen a ha hc)
  · have h1 : (afterL L p.key).length ≤ ((afterL L cur).drop k).length := by
      have e : afterL L p.key = (afterL L cur).filter fun x => decide (kLt p.key x.key) := by
        unfold afterL
        rw [List.filter_filter]
        refine List.filter_congr fun x hx => ?_
        by_cases hk : kLt p.key x.key
        · rw [decide_eq_true hk, decide_eq_true (kLt_trans hp.2 hk)]; rfl
        · rw [decide_eq_false hk]; rfl
      rw [e, hsplit, List.filter_append]
      have : (Q ++ [p]).filter (fun x => decide (kLt p.key x.key)) = [] := List.filter_eq_nil_iff.2 fun x hx => by simpa using hple x hx
      rw [this, List.nil_append, ← hsplit]
      exact List.length_filter_le _ _
    have h2 := congrArg List.length hsplit
    rw [List.length_append, List.length_append] at h2
    have h3 := h.many
    simp at h2
    rw [List.length_drop] at h1
    omega
theorem Bit.after {L T A E L' T' : List Item} {cur cur' : ByteArray} {b b' : Nat} (h : Bit L T A E cur b) (hL' : Keyd L') (h1 : Sorted T') (h2 : Keyd T') (h3 : ∀ t ∈ T', ¬ kLt cur' t.key) (h4 : ∀ t ∈ T', t ∈ E) (h5 : ∀ a ∈ A, ¬ kLt cur' a.key → a ∈ T') (h6 : (afterL L' cur').length ≤ b') :
    Bit L' T' (A.filter fun a => namedB L' a.name a.node) (E ++ L') cur' b' := by
  have hAf : ∀ a ∈ A.filter (fun a => namedB L' a.name a.node), a ∈ A ∧ a ∈ L' := fun a ha => by
    obtain ⟨ha1, ha2⟩ := List.mem_filter.1 ha
    exact ⟨ha1, (named_iff hL' (h.keyA a ha1).1).1 ha2⟩
  refine ⟨h2, fun x hx => h.keyA x (hAf x hx).1, fun x hx => ?_, h1, h3, fun t ht => List.mem_append_left _ (h4 t ht), fun a ha => (hAf a ha).2, fun x hx => List.mem_append_right _ hx, fun a ha hk => h5 a (hAf a ha).1 hk, h6⟩
  rcases List.mem_append.1 hx with hx | hx
  · exact h.keyE x hx
  · exact hL' x hx

variable {w0 w : World} {fb mb : Nat} {N : List NV} {F : Forest} {next : Int} {l2 : List Res}
theorem flatE_one (L : List Item) : ∀ u ∈ flatE L, u.oneCell' = true := by
  intro u hu
  obtain ⟨x, _, hx⟩ := List.mem_flatMap.1 hu
  simp at hx
  rcases hx with rfl | rfl <;> rfl
theorem flatE_append (a b : List Item) : flatE (a ++ b) = flatE a ++ flatE b := by simp [flatE]
theorem FSIn.appE (l1 : List Res) {v : Value} {L : List Item} (h : FSIn w0 w fb mb N F next (l1 ++ rowE v L :: l2)) {t : Value} {C : List Item} (ht : w.ownsRow w0.heap.size 38 2 t C.length (flatE C)) (hn : L.length + C.length ≤ 200000) (ty : TypeId) :
    ∃ v' w', (Builtin.append_ #[30, 30] ty #[v, t]).run Tryz.prog w = .ok v' w' ∧ FSIn w0 w' fb mb N F next (l1 ++ rowE v' (L ++ C) :: l2) := by
  obtain ⟨i0, hi, hz0, hz1, hz2⟩ := info_parts info33
  have hv := h.rowAt (v := v) (e := 38) (k := 2) (n := L.length) (xs := flatE L) (by simp [rowE])
  have hb := h.low
  rcases ht.2 with ⟨rfl, hC⟩ | ⟨g, cap, cur, rfl, _⟩
  · have hC0 : C = [] := List.eq_nil_of_length_eq_zero hC
    subst hC0
    refine ⟨v, w, run_append_owned_none w w0.heap.size 30 ty 38 i0 2 Tryz.underlying30 hi v _ _ hv, ?_⟩
    rw [List.append_nil]; exact h
  · obtain ⟨v', w', hr, ho, hg, _, ha⟩ := run_append_own_at (P := Tryz.prog) w w0.heap.size 30 ty 38 i0 _ 2 24 Tryz.underlying30 hi hz0 hz1 hz2 rfl (by decide) v _ _ hv ⟨g, 0, none⟩ C.length cap (flatE C) ht.1 (fun j u hj => by
      rw [Addr.add_lit, Nat.zero_add, ht.cellAt j (by have := (List.getElem?_eq_some_iff.1 hj).1; rw [ht.1] at this; exact this)]
      exact hj) (flatE_one C) (by unfold maxLen; omega) (by omega) hb
    refine ⟨v', w', hr, ?_⟩
    rw [← flatE_append, ← List.length_append] at ho
    exact FSIn.grow l1 h hg ho (ha.imp id fun h => ⟨_, h, Nat.le_refl _⟩)
theorem wpList_appendI {P : Program} {ops : Array Oper} {rest : List Oper} {o : Oper} {a : Act} {w : World} {Q : Exit → Act → World → Prop} (hgd : o.guard = none) (d x : Operand) (dT sT : TypeId) (ho : o.op = Op.call { callee := Callee.builtin Builtin.append, args := #[d, x], argTypes := #[dT, sT] })
    (v u : Value) (hd : a.eval d = v) (hx : a.eval x = u) {v' : Value} {w' : World} (hr : (Builtin.append_ #[dT, sT] o.type #[v, u]).run P w = .ok v' w') (h : wpList P ops Q rest (a.put o.dst v') w') : wpList P ops Q (o :: rest) a w := by
  refine wpList_plain hgd fun K hK => ?_
  unfold Oper.wp
  simp [execOp, ho, resolve, invoke, builtin, hd, hx, hr, Result.andThen]
  exact hK _ _ h
theorem FSIn.front (l1 : List Res) {r : Res} (h : FSIn w0 w fb mb N F next (l1 ++ r :: l2)) : FSIn w0 w fb mb N F next (r :: (l1 ++ l2)) :=
  h.conv (fun x => by simp only [total_append, total_cons]; omega) fun hs q hq => hs q (by
    simp only [List.mem_append, List.mem_cons] at hq ⊢
    rcases hq with h | h | h
    · exact .inr (.inl h)
    · exact .inl h
    · exact .inr (.inr h))
end Go.Proofs.YtjpmomklkkifjaaGreatDoor.T
