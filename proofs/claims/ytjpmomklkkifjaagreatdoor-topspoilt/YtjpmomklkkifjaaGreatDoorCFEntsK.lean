import Derived.Test.YtjpmomklkkifjaaGreatDoorCFOps
import Derived.Test.YtjpmomklkkifjaaGreatDoorCSort
set_option maxRecDepth 100000
set_option linter.unusedVariables false
set_option linter.unusedSimpArgs false
namespace Go.Proofs.YtjpmomklkkifjaaGreatDoor.T
open Go.RowKit
inductive Hang (N : List NV) : Int → Prop
  | root : Hang N 1
  | up {v : NV} : v ∈ N → v.kind = 1 → Hang N v.up → Hang N v.id
inductive On (N : List NV) : Int → Int → Prop
  | here (j : Int) : On N j j
  | up {v : NV} {i : Int} : v ∈ N → v.kind = 1 → On N v.up i → On N v.id i
def refsE (E : List (Int × Item)) (i : Int) : Nat := E.countP fun x => x.2.node == i
structure Linked (N : List NV) (E : List (Int × Item)) : Prop where
  nodup : (N.map NV.id).Nodup
  root : ∃ r ∈ N, r.id = 1 ∧ r.kind = 1 ∧ r.up = 1
  kinds : ∀ v ∈ N, (v.kind = 1 ∧ v.links = 1 ∧ v.text = ⟨#[]⟩) ∨ (v.kind = 2 ∧ v.up = 0 ∧ v.text.size ≤ 20)
  named : ∀ x ∈ E, x.2.node ≠ 1 ∧ ∃ v ∈ N, v.id = x.2.node
  folder : ∀ x ∈ E, ∃ u ∈ N, u.id = x.1 ∧ u.kind = 1
  cnt : ∀ v ∈ N, v.id ≠ 1 → (refsE E v.id : Int) = v.links ∧ 1 ≤ v.links
  ups : ∀ v ∈ N, v.kind = 1 → v.id ≠ 1 → ∃ it, (v.up, it) ∈ E ∧ it.node = v.id
  hang : ∀ v ∈ N, v.kind = 1 → Hang N v.id
variable {N : List NV} {E : List (Int × Item)}
theorem Linked.perm (h : Linked N E) {E' : List (Int × Item)} (hp : E.Perm E') : Linked N E' :=
  ⟨h.nodup, h.root, h.kinds, fun x hx => h.named x (hp.mem_iff.2 hx), fun x hx => h.folder x (hp.mem_iff.2 hx), fun v hv h1 => by
    unfold refsE; rw [← hp.countP_eq]; exact h.cnt v hv h1, fun v hv hk h1 => by
    obtain ⟨it, h2, h3⟩ := h.ups v hv hk h1
    exact ⟨it, hp.mem_iff.1 h2, h3⟩, h.hang⟩
theorem uniq_of (hn : (N.map NV.id).Nodup) {u v : NV} (hu : u ∈ N) (hv : v ∈ N) (h : u.id = v.id) : u = v := by
  have h1 := findN_mem hn hu
  have h2 := findN_mem hn hv
  rw [h, h2] at h1
  exact (Option.some.inj h1).symm
theorem atN_of (hn : (N.map NV.id).Nodup) {v : NV} (hv : v ∈ N) : atN N v.id = v := by unfold atN; rw [findN_mem hn hv]; rfl
theorem mem_putN_iff {v x : NV} : x ∈ putN N v ↔ x = v ∨ (x ∈ N ∧ x.id ≠ v.id) := by
  unfold putN
  split
  · rename_i h
    rw [List.mem_map]
    constructor
    · rintro ⟨y, hy, he⟩
      split at he
      · exact .inl he.symm
      · rename_i hne
        subst he
        exact .inr ⟨hy, by simpa using hne⟩
    · rintro (rfl | ⟨hx, hne⟩)
      · unfold findN at h
        rw [List.find?_isSome] at h
        obtain ⟨y, hy, he⟩ := h
        exact ⟨y, hy, by rw [if_pos (by simpa using he)]⟩
      · exact ⟨x, hx, by rw [if_neg (by simpa using hne)]⟩
  · rename_i h
    have h0 : findN N v.id = none := by cases hf : findN N v.id with | none => rfl | some x => rw [hf] at h; simp at h
    rw [List.mem_append, List.mem_singleton]
    constructor
    · rintro (hx | rfl)
      · exact .inr ⟨hx, findN_none h0 x hx⟩
      · exact .inl rfl
    · rintro (rfl | ⟨hx, _⟩)
      · exact .inr rfl
      · exact .inl hx
theorem mem_delN_iff {i : Int} {x : NV} : x ∈ delN N i ↔ x ∈ N ∧ x.id ≠ i := by
  unfold delN
  rw [List.mem_filter]
  simp
theorem delN_nodup (h : (N.map NV.id).Nodup) (i : Int) : ((delN N i).map NV.id).Nodup := by
  have e : (delN N i).map NV.id = (N.map NV.id).filter fun x => !(x == i) := by
    unfold delN
    rw [List.filter_map]
    rfl
  rw [e]
  exact h.filter _
theorem Hang.mono {M : List NV} {j : Int} (h : Hang N j) (hs : ∀ v ∈ N, v.kind = 1 → ∃ v' ∈ M, v'.id = v.id ∧ v'.kind = 1 ∧ v'.up = v.up) : Hang M j := by
  induction h with
  | root => exact .root
  | up hv hk _ ih =>
    obtain ⟨v', h1, h2, h3, h4⟩ := hs _ hv hk
    rw [← h2]
    exact .up h1 h3 (by rw [h4]; exact ih)
theorem Linked.file_ne (h : Linked N E) {v : NV} (hv : v ∈ N) (hk : v.kind = 2) : v.id ≠ 1 := by
  intro e
  obtain ⟨r, hr, h1, h2, _⟩ := h.root
  have := uniq_of h.nodup hv hr (by rw [e, h1])
  rw [this, h2] at hk
  exact absurd hk (by decide)
theorem refs_cons (x : Int × Item) (E : List (Int × Item)) (i : Int) : refsE (x :: E) i = refsE E i + if x.2.node = i then 1 else 0 := by
  unfold refsE
  rw [List.countP_cons]
  simp
theorem Linked.refs_none (h : Linked N E) {i : Int} (hi : findN N i = none) : refsE E i = 0 := by
  unfold refsE
  rw [List.countP_eq_zero]
  intro x hx he
  obtain ⟨_, v, hv, h1⟩ := h.named x hx
  exact findN_none hi v hv (by rw [h1]; simpa using he)
theorem Linked.add (h : Linked N E) {v u : NV} (hi : findN N v.id = none) (hi1 : v.id ≠ 1) (hu : u ∈ N) (hk : u.kind = 1)
    (hkind : (v.kind = 1 ∧ v.links = 1 ∧ v.text = ⟨#[]⟩ ∧ v.up = u.id) ∨ (v.kind = 2 ∧ v.up = 0 ∧ v.text.size ≤ 20 ∧ v.links = 1)) {it : Item} (hit : it.node = v.id) : Linked (putN N v) ((u.id, it) :: E) := by
  have hne : ∀ x ∈ N, x.id ≠ v.id := fun x hx => findN_none hi x hx
  have hl : v.links = 1 := by
    rcases hkind with h1 | h1
    · exact h1.2.1
    · exact h1.2.2.2
  have hup : ∀ x ∈ N, x ∈ putN N v := fun x hx => mem_putN_iff.2 (.inr ⟨hx, hne x hx⟩)
  have hmono : ∀ j, Hang N j → Hang (putN N v) j := fun j hj => hj.mono fun x hx hk => ⟨x, hup x hx, rfl, hk, rfl⟩
  refine ⟨putN_nodup h.nodup v, ?_, fun x hx => ?_, fun x hx => ?_, fun x hx => ?_, fun x hx h1 => ?_, fun x hx hk2 h1 => ?_, fun x hx hk2 => ?_⟩
  · obtain ⟨r, hr, h1⟩ := h.root
    exact ⟨r, hup r hr, h1⟩
  · rcases mem_putN_iff.1 hx with rfl | ⟨hx, _⟩
    · rcases hkind with h1 | h1
      · exact .inl ⟨h1.1, h1.2.1, h1.2.2.1⟩
      · exact .inr ⟨h1.1, h1.2.1, h1.2.2.1⟩
    · exact h.kinds x hx
  · rcases List.mem_cons.1 hx with rfl | hx
    · exact ⟨by simp only; rw [hit]; exact hi1, v, mem_putN_iff.2 (.inl rfl), hit.symm⟩
    · obtain ⟨h1, y, hy, h2⟩ := h.named x hx
      exact ⟨h1, y, hup y hy, h2⟩
  · rcases List.mem_cons.1 hx with rfl | hx
    · exact ⟨u, hup u hu, rfl, hk⟩
    · obtain ⟨y, hy, h2⟩ := h.folder x hx
      exact ⟨y, hup y hy, h2⟩
  · rw [refs_cons]
    rcases mem_putN_iff.1 hx with rfl | ⟨hx, hxne⟩
    · rw [h.refs_none hi, if_pos hit, hl]
      exact ⟨rfl, by decide⟩
    · rw [if_neg (by rw [hit]; exact fun e => hxne e.symm), Nat.add_zero]
      exact h.cnt x hx h1
  · rcases mem_putN_iff.1 hx with rfl | ⟨hx, hxne⟩
    · rcases hkind with h2 | h2
      · exact ⟨it, by rw [h2.2.2.2]; exact List.mem_cons_self, hit⟩
      · rw [h2.1] at hk2; exact absurd hk2 (by decide)
    · obtain ⟨i2, h2, h3⟩ := h.ups x hx hk2 h1
      exact ⟨i2, List.mem_cons_of_mem _ h2, h3⟩
  · rcases mem_putN_iff.1 hx with rfl | ⟨hx, hxne⟩
    · rcases hkind with h2 | h2
      · exact .up (mem_putN_iff.2 (.inl rfl)) hk2 (by rw [h2.2.2.2]; exact hmono _ (h.hang u hu hk))
      · rw [h2.1] at hk2; exact absurd hk2 (by decide)
    · exact hmono _ (h.hang x hx hk2)
theorem Linked.file (h : Linked N E) {v v' : NV} (hv : v ∈ N) (hk : v.kind = 2) (h1 : v'.id = v.id) (h2 : v'.kind = 2) (h3 : v'.up = 0) (h4 : v'.text.size ≤ 20)
    {E' : List (Int × Item)} (hE : ∀ x ∈ E', x ∈ E ∨ (x.2.node = v.id ∧ ∃ u ∈ N, u.id = x.1 ∧ u.kind = 1)) (hE2 : ∀ x ∈ E, x.2.node ≠ v.id → x ∈ E') (hc : ∀ i, i ≠ v.id → refsE E' i = refsE E i) (hl : (refsE E' v.id : Int) = v'.links ∧ 1 ≤ v'.links) : Linked (putN N v') E' := by
  have hv1 := h.file_ne hv hk
  have hkeep : ∀ x ∈ N, x.kind = 1 → x ∈ putN N v' := fun x hx hxk => mem_putN_iff.2 (.inr ⟨hx, fun e => by
    rw [h1] at e
    rw [uniq_of h.nodup hx hv e, hk] at hxk
    exact absurd hxk (by decide)⟩)
  have hsome : ∀ i, (∃ x ∈ N, x.id = i) → ∃ x ∈ putN N v', x.id = i := fun i ⟨x, hx, e⟩ => by
    by_cases he : x.id = v'.id
    · exact ⟨v', mem_putN_iff.2 (.inl rfl), by rw [← he]; exact e⟩
    · exact ⟨x, mem_putN_iff.2 (.inr ⟨hx, he⟩), e⟩
  refine ⟨putN_nodup h.nodup v', ?_, fun x hx => ?_, fun x hx => ?_, fun x hx => ?_, fun x hx h5 => ?_, fun x hx hk2 h5 => ?_, fun x hx hk2 => ?_⟩
  · obtain ⟨r, hr, e1, e2, e3⟩ := h.root
    exact ⟨r, hkeep r hr e2, e1, e2, e3⟩
  · rcases mem_putN_iff.1 hx with rfl | ⟨hx, _⟩
    · exact .inr ⟨h2, h3, h4⟩
    · exact h.kinds x hx
  · rcases hE x hx with hx | ⟨e, _⟩
    · obtain ⟨e1, e2⟩ := h.named x hx
      exact ⟨e1, hsome _ e2⟩
    · exact ⟨by rw [e]; exact hv1, hsome _ ⟨v, hv, e.symm⟩⟩
  · rcases hE x hx with hx | ⟨_, u, hu, e1, e2⟩
    · obtain ⟨u, hu, e1, e2⟩ := h.folder x hx
      exact ⟨u, hkeep u hu e2, e1, e2⟩
    · exact ⟨u, hkeep u hu e2, e1, e2⟩
  · rcases mem_putN_iff.1 hx with rfl | ⟨hx, hxne⟩
    · rw [h1]; exact hl
    · rw [hc _ (by rw [← h1]; exact hxne)]; exact h.cnt x hx h5
  · rcases mem_putN_iff.1 hx with rfl | ⟨hx, hxne⟩
    · rw [h2] at hk2; exact absurd hk2 (by decide)
    · obtain ⟨it, e1, e2⟩ := h.ups x hx hk2 h5
      exact ⟨it, hE2 _ e1 (by simp only; rw [e2, ← h1]; exact hxne), e2⟩
  · rcases mem_putN_iff.1 hx with rfl | ⟨hx, hxne⟩
    · rw [h2] at hk2; exact absurd hk2 (by decide)
    · exact (h.hang x hx hk2).mono fun y hy hky => ⟨y, hkeep y hy hky, rfl, hky, rfl⟩
theorem Linked.unlink {u : Int} {it : Item} (h : Linked N ((u, it) :: E)) {v : NV} (hv : v ∈ N) (hid : v.id = it.node) (hempty : v.kind = 1 → ∀ x ∈ E, x.1 ≠ v.id) : Linked (unlinkN N it.node) E := by
  have hv1 : v.id ≠ 1 := by rw [hid]; exact (h.named _ List.mem_cons_self).1
  have hat : atN N it.node = v := by rw [← hid]; exact atN_of h.nodup hv
  have hcv := h.cnt v hv hv1
  rw [refs_cons, if_pos hid.symm] at hcv
  have hcne : ∀ i, i ≠ v.id → refsE E i = refsE ((u, it) :: E) i := fun i hi => by rw [refs_cons, if_neg (by simp only; rw [← hid]; exact fun e => hi e.symm), Nat.add_zero]
  unfold unlinkN
  rw [hat]
  by_cases hl : v.links - 1 < 1
  · rw [if_pos hl, ← hid]
    have hz : refsE E v.id = 0 := by omega
    have hnone : ∀ x ∈ E, x.2.node ≠ v.id := fun x hx e => by
      unfold refsE at hz
      rw [List.countP_eq_zero] at hz
      exact hz x hx (by simpa using e)
    have hfold : ∀ x ∈ E, ∃ w ∈ delN N v.id, w.id = x.1 ∧ w.kind = 1 := fun x hx => by
      obtain ⟨w, hw, e1, e2⟩ := h.folder x (List.mem_cons_of_mem _ hx)
      refine ⟨w, mem_delN_iff.2 ⟨hw, fun e => ?_⟩, e1, e2⟩
      have hwv := uniq_of h.nodup hw hv e
      exact hempty (by rw [← hwv]; exact e2) x hx (by rw [← e1, e])
    have hupne : ∀ w ∈ N, w.kind = 1 → w.id ≠ 1 → w.id ≠ v.id → w.up ≠ v.id := fun w hw hwk hw1 hwv e => by
      obtain ⟨i2, e1, e2⟩ := h.ups w hw hwk hw1
      rcases List.mem_cons.1 e1 with e3 | e3
      · have : i2 = it := by cases e3; rfl
        rw [this, ← hid] at e2
        exact hwv e2.symm
      · obtain ⟨w2, hw2, e4, e5⟩ := h.folder _ (List.mem_cons_of_mem _ e3)
        simp only at e4
        have hw2v := uniq_of h.nodup hw2 hv (by rw [e4, e])
        exact hempty (by rw [← hw2v]; exact e5) _ e3 e
    have hh : ∀ j, Hang N j → j ≠ v.id → Hang (delN N v.id) j := by
      intro j hj
      induction hj with
      | root => intro _; exact .root
      | @up w hw hwk _ ih =>
        intro hne
        by_cases hw1 : w.id = 1
        · rw [hw1]; exact .root
        · exact .up (mem_delN_iff.2 ⟨hw, hne⟩) hwk (ih (hupne w hw hwk hw1 hne))
    refine ⟨delN_nodup h.nodup _, ?_, fun x hx => h.kinds x (mem_delN_iff.1 hx).1, fun x hx => ?_, hfold, fun x hx h5 => ?_, fun x hx hk2 h5 => ?_, fun x hx hk2 => hh _ (h.hang x (mem_delN_iff.1 hx).1 hk2) (mem_delN_iff.1 hx).2⟩
    · obtain ⟨r, hr, e1, e2⟩ := h.root
      exact ⟨r, mem_delN_iff.2 ⟨hr, by rw [e1]; exact fun e => hv1 e.symm⟩, e1, e2⟩
    · obtain ⟨e1, w, hw, e2⟩ := h.named x (List.mem_cons_of_mem _ hx)
      exact ⟨e1, w, mem_delN_iff.2 ⟨hw, by rw [e2]; exact hnone x hx⟩, e2⟩
    · obtain ⟨hx1, hx2⟩ := mem_delN_iff.1 hx
      rw [hcne _ hx2]
      exact h.cnt x hx1 h5
    · obtain ⟨hx1, hx2⟩ := mem_delN_iff.1 hx
      obtain ⟨i2, e1, e2⟩ := h.ups x hx1 hk2 h5
      rcases List.mem_cons.1 e1 with e3 | e3
      · have : i2 = it := by cases e3; rfl
        rw [this, ← hid] at e2
        exact absurd e2.symm hx2
      · exact ⟨i2, e3, e2⟩
  · rw [if_neg hl]
    rcases h.kinds v hv with hk | hk
    · exact absurd (by omega : v.links - 1 < 1) hl
    refine h.file hv hk.1 (v' := { v with links := v.links - 1 }) rfl hk.1 hk.2.1 hk.2.2 (fun x hx => .inl (List.mem_cons_of_mem _ hx)) (fun x hx hne => ?_) (fun i hi => hcne i hi) ⟨by simp only; omega, by simp only; omega⟩
    rcases List.mem_cons.1 hx with rfl | hx
    · exact absurd hid.symm hne
    · exact hx
theorem Hang.avoid {M : List NV} {i j : Int} (h : Hang N j) (hs : ∀ w ∈ N, w.id ≠ i → w ∈ M) (ho : ¬ On N j i) : Hang M j := by
  induction h with
  | root => exact .root
  | @up w hw hwk _ ih =>
    have hne : w.id ≠ i := fun e => ho (by rw [e]; exact .here i)
    exact .up (hs w hw hne) hwk (ih fun e => ho (.up hw hwk e))
theorem Linked.move {u : Int} {it it' : Item} (h : Linked N ((u, it) :: E)) {v g : NV} (hv : v ∈ N) (hid : v.id = it.node) (hg : g ∈ N) (hgk : g.kind = 1) (hw : v.kind = 1 → ¬ On N g.id v.id) (hit : it'.node = it.node) : Linked (moveN N it.node g.id) ((g.id, it') :: E) := by
  have hv1 : v.id ≠ 1 := by rw [hid]; exact (h.named _ List.mem_cons_self).1
  have hat : atN N it.node = v := by rw [← hid]; exact atN_of h.nodup hv
  have hc : ∀ i, refsE ((g.id, it') :: E) i = refsE ((u, it) :: E) i := fun i => by rw [refs_cons, refs_cons, hit]
  unfold moveN
  rw [hat]
  by_cases hk : v.kind = 1
  · rw [if_pos hk]
    have hgv : g.id ≠ v.id := fun e => hw hk (by rw [e]; exact .here _)
    have hself : ({ v with up := g.id } : NV) ∈ putN N { v with up := g.id } := mem_putN_iff.2 (.inl rfl)
    have hother : ∀ w ∈ N, w.id ≠ v.id → w ∈ putN N { v with up := g.id } := fun w hw hne => mem_putN_iff.2 (.inr ⟨hw, hne⟩)
    have hsome : ∀ w ∈ N, w.kind = 1 → ∃ w' ∈ putN N { v with up := g.id }, w'.id = w.id ∧ w'.kind = 1 := fun w hw hwk => by
      by_cases e : w.id = v.id
      · exact ⟨_, hself, e.symm, hk⟩
      · exact ⟨w, hother w hw e, rfl, hwk⟩
    have hhg : Hang (putN N { v with up := g.id }) g.id := (h.hang g hg hgk).avoid (fun w hw hne => hother w hw hne) (hw hk)
    have hh : ∀ j, Hang N j → Hang (putN N { v with up := g.id }) j := by
      intro j hj
      induction hj with
      | root => exact .root
      | @up w hw hwk _ ih =>
        by_cases e : w.id = v.id
        · rw [e]
          exact Hang.up (v := { v with up := g.id }) hself hk hhg
        · exact .up (hother w hw e) hwk ih
    refine ⟨putN_nodup h.nodup _, ?_, fun x hx => ?_, fun x hx => ?_, fun x hx => ?_, fun x hx h5 => ?_, fun x hx hk2 h5 => ?_, fun x hx hk2 => ?_⟩
    · obtain ⟨r, hr, e1, e2⟩ := h.root
      exact ⟨r, hother r hr (by rw [e1]; exact fun e => hv1 e.symm), e1, e2⟩
    · rcases mem_putN_iff.1 hx with rfl | ⟨hx, _⟩
      · rcases h.kinds v hv with h6 | h6
        · exact .inl h6
        · rw [hk] at h6; exact absurd h6.1 (by decide)
      · exact h.kinds x hx
    · have key : ∀ i, (∃ w ∈ N, w.id = i) → ∃ w ∈ putN N { v with up := g.id }, w.id = i := fun i ⟨w, hw, e⟩ => by
        by_cases e2 : w.id = v.id
        · exact ⟨_, hself, by simp only; rw [← e2, e]⟩
        · exact ⟨w, hother w hw e2, e⟩
      rcases List.mem_cons.1 hx with rfl | hx
      · simp only
        rw [hit, ← hid]
        exact ⟨hv1, key _ ⟨v, hv, rfl⟩⟩
      · obtain ⟨e1, e2⟩ := h.named x (List.mem_cons_of_mem _ hx)
        exact ⟨e1, key _ e2⟩
    · rcases List.mem_cons.1 hx with rfl | hx
      · exact ⟨g, hother g hg hgv, rfl, hgk⟩
      · obtain ⟨w, hw, e1, e2⟩ := h.folder x (List.mem_cons_of_mem _ hx)
        obtain ⟨w', hw', e3, e4⟩ := hsome w hw e2
        exact ⟨w', hw', by rw [e3, e1], e4⟩
    · rw [hc]
      rcases mem_putN_iff.1 hx with rfl | ⟨hx, hxne⟩
      · exact h.cnt v hv hv1
      · exact h.cnt x hx h5
    · rcases mem_putN_iff.1 hx with rfl | ⟨hx, hxne⟩
      · exact ⟨it', List.mem_cons_self, by simp only; rw [hit, hid]⟩
      · obtain ⟨i2, e1, e2⟩ := h.ups x hx hk2 h5
        rcases List.mem_cons.1 e1 with e3 | e3
        · have : i2 = it := by cases e3; rfl
          rw [this, ← hid] at e2
          exact absurd e2.symm hxne
        · exact ⟨i2, List.mem_cons_of_mem _ e3, e2⟩
    · rcases mem_putN_iff.1 hx with rfl | ⟨hx, hxne⟩
      · exact Hang.up (v := { v with up := g.id }) hself hk hhg
      · exact hh _ (h.hang x hx hk2)
  · rw [if_neg hk]
    refine ⟨h.nodup, h.root, h.kinds, fun x hx => ?_, fun x hx => ?_, fun x hx h5 => ?_, fun x hx hk2 h5 => ?_, h.hang⟩
    · rcases List.mem_cons.1 hx with rfl | hx
      · simp only
        rw [hit]
        exact h.named _ List.mem_cons_self
      · exact h.named x (List.mem_cons_of_mem _ hx)
    · rcases List.mem_cons.1 hx with rfl | hx
      · exact ⟨g, hg, rfl, hgk⟩
      · exact h.folder x (List.mem_cons_of_mem _ hx)
    · rw [hc]; exact h.cnt x hx h5
    · obtain ⟨i2, e1, e2⟩ := h.ups x hx hk2 h5
      rcases List.mem_cons.1 e1 with e3 | e3
      · have : i2 = it := by cases e3; rfl
        rw [this, ← hid] at e2
        rw [uniq_of h.nodup hv hx e2] at hk
        exact absurd hk2 hk
      · exact ⟨i2, List.mem_cons_of_mem _ e3, e2⟩
end Go.Proofs.YtjpmomklkkifjaaGreatDoor.T
namespace Go.Proofs.YtjpmomklkkifjaaGreatDoor.T
def entsK (F : Forest) (v : NV) : List Item := if v.kind = 1 then entsOf F v else []
end Go.Proofs.YtjpmomklkkifjaaGreatDoor.T
