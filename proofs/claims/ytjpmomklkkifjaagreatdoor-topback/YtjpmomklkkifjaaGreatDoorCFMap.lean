/-
  What a call owns, piece by piece: blocks, rows, trees; no two of them share a block. Plain facts. A map of nodes by their numbers, as a piece of memory: what is looked up, laid, struck.
-/
import Derived.Test.YtjpmomklkkifjaaGreatDoorCBHeap
import Derived.Test.YtjpmomklkkifjaaGreatDoorProg
import Derived.Maps.RangeWalk
import Derived.Maps.Ext
import Derived.Maps.OwnSet
namespace Go.Proofs.YtjpmomklkkifjaaGreatDoor.T
open Go.RowKit
set_option maxRecDepth 100000
set_option linter.unusedSimpArgs false

inductive Res where
  | cell (b : Nat) (t : TypeId) (vs : List Value)
  | row (v : Value) (e : TypeId) (k n : Nat) (xs : List Value)
  | sub (h : Nat) (k : Kid)
  | subs (h : Nat) (kids : List Kid)
  | obj (b : Nat) (p : Obj → Prop)

def Res.foot : Res → Nat → Nat
  | .cell b _ _, x => one b x
  | .row v _ _ _ _, x => blkN v x
  | .sub _ k, x => k.own x
  | .subs _ kids, x => owns kids x
  | .obj b _, x => one b x

def Res.Sat (base : Nat) (w : World) : Res → Prop
  | .cell b t vs => base ≤ b ∧ w.heap[b]? = some (.cells vs.toArray t (0, 0))
  | .row v e k n xs => w.ownsRow base e k v n xs
  | .sub h k => Sub base w h k
  | .subs h kids => ∀ x ∈ kids, Sub base w h x
  | .obj b p => base ≤ b ∧ ∃ o, w.heap[b]? = some o ∧ p o

def total (rs : List Res) (x : Nat) : Nat := (rs.map fun r => r.foot x).sum
theorem total_nil (x : Nat) : total [] x = 0 := rfl
theorem total_cons (r : Res) (rs : List Res) (x : Nat) : total (r :: rs) x = r.foot x + total rs x := by simp [total]
theorem total_append (a b : List Res) (x : Nat) : total (a ++ b) x = total a x + total b x := by simp [total]
theorem total_mem {r : Res} {rs : List Res} (h : r ∈ rs) (x : Nat) : r.foot x ≤ total rs x := by
  induction rs with
  | nil => simp at h
  | cons a l ih =>
    rw [total_cons]
    rcases List.mem_cons.1 h with h | h
    · subst h; omega
    · have := ih h; omega

structure Hold (base : Nat) (w0 : World) (K0 : Nat → Nat) (w : World) (rs : List Res) : Prop where
  sat : ∀ r ∈ rs, r.Sat base w
  uniq : ∀ x, total rs x ≤ 1
  old : ∀ x, x < w0.heap.size → total rs x ≤ K0 x
  kept : Kept (fun x => 0 < K0 x) w0 w

theorem Res.Sat.range {base : Nat} {w : World} {r : Res} (h : r.Sat base w) (x : Nat) (hx : 0 < r.foot x) : base ≤ x ∧ x < w.heap.size := by
  cases r with
  | cell b t vs =>
    obtain rfl := one_pos.1 hx
    exact ⟨h.1, (Array.getElem?_eq_some_iff.1 h.2).1⟩
  | row v e k n xs => exact World.ownsRow.lt h x (blkN_pos.1 hx)
  | sub n k => exact Sub.range h x hx
  | subs n kids =>
    obtain ⟨y, hy, h5⟩ := owns_some hx
    exact Sub.range (h y hy) x h5
  | obj b p =>
    obtain rfl := one_pos.1 hx
    obtain ⟨h1, o, h2, _⟩ := h
    exact ⟨h1, (Array.getElem?_eq_some_iff.1 h2).1⟩
theorem Res.Sat.kept {base : Nat} {w w' : World} {S : Nat → Prop} {r : Res} (h : r.Sat base w) (hk : Kept S w w') (hs : ∀ x, 0 < r.foot x → ¬ S x) : r.Sat base w' := by
  cases r with
  | cell b t vs => exact ⟨h.1, (hk.block b (Array.getElem?_eq_some_iff.1 h.2).1 (hs b (by show 0 < one b b; rw [one_self]; decide))).trans h.2⟩
  | row v e k n xs => exact hk.row h fun x hx => hs x (blkN_pos.2 hx)
  | sub n k => exact Sub.kept hk h hs
  | subs n kids => exact fun y hy => Sub.kept hk (h y hy) fun x hx => hs x (Nat.lt_of_lt_of_le hx (owns_mem hy x))
  | obj b p =>
    obtain ⟨h1, o, h2, h3⟩ := h
    exact ⟨h1, o, (hk.block b (Array.getElem?_eq_some_iff.1 h2).1 (hs b (by show 0 < one b b; rw [one_self]; decide))).trans h2, h3⟩

theorem Hold.size {base : Nat} {w0 w : World} {K0 : Nat → Nat} {rs : List Res} (h : Hold base w0 K0 w rs) : w0.heap.size ≤ w.heap.size := h.kept.size
theorem Hold.beyond {base : Nat} {w0 w : World} {K0 : Nat → Nat} {rs : List Res} (h : Hold base w0 K0 w rs) {x : Nat} (hx : w.heap.size ≤ x) : total rs x = 0 := by
  have key : ∀ l : List Res, (∀ r ∈ l, r.Sat base w) → total l x = 0 := by
    intro l
    induction l with
    | nil => intro _; rfl
    | cons a l ih =>
      intro hl
      rw [total_cons, ih fun r hr => hl r (by simp [hr])]
      have := (hl a (by simp)).range x
      omega
  exact key rs h.sat

theorem Hold.conv {base : Nat} {w0 w : World} {K0 : Nat → Nat} {rs rs' : List Res} (h : Hold base w0 K0 w rs) (ht : ∀ x, total rs' x ≤ total rs x) (hs : ∀ r ∈ rs', r.Sat base w) : Hold base w0 K0 w rs' :=
  ⟨hs, fun x => Nat.le_trans (ht x) (h.uniq x), fun x hx => Nat.le_trans (ht x) (h.old x hx), h.kept⟩
theorem Hold.put {base : Nat} {w0 w w' : World} {K0 : Nat → Nat} (l1 : List Res) {r r' : Res} {l2 : List Res} (h : Hold base w0 K0 w (l1 ++ r :: l2)) (hk : Kept (fun x => 0 < r.foot x) w w') (hs : r'.Sat base w') (hf : ∀ x, x < w.heap.size → r'.foot x ≤ r.foot x) (h1 : ∀ x, r'.foot x ≤ 1) : Hold base w0 K0 w' (l1 ++ r' :: l2) := by
  have hsz := h.size
  have key : ∀ x, x < w.heap.size → total (l1 ++ r' :: l2) x ≤ total (l1 ++ r :: l2) x := fun x hx => by
    have := hf x hx
    simp only [total_append, total_cons]
    omega
  refine ⟨fun q hq => ?_, fun x => ?_, fun x hx => Nat.le_trans (key x (by omega)) (h.old x hx), h.kept.trans hk fun x hx h2 => ?_⟩
  · have other : ∀ q, (q ∈ l1 ∨ q ∈ l2) → q.Sat base w' := fun q hq => by
      refine (h.sat q (by rcases hq with h | h <;> simp [h])).kept hk fun x hx h2 => ?_
      have h3 := h.uniq x
      simp only [total_append, total_cons] at h3
      rcases hq with hq | hq
      · have := total_mem hq x; omega
      · have := total_mem hq x; omega
    rcases List.mem_append.1 hq with hq | hq
    · exact other q (.inl hq)
    · rcases List.mem_cons.1 hq with hq | hq
      · subst hq; exact hs
      · exact other q (.inr hq)
  · rcases Nat.lt_or_ge x w.heap.size with hx | hx
    · exact Nat.le_trans (key x hx) (h.uniq x)
    · have h3 := h.beyond hx
      simp only [total_append, total_cons] at h3 ⊢
      have := h1 x
      omega
  · have h3 := h.old x hx
    simp only [total_append, total_cons] at h3
    omega
theorem Hold.keep {base : Nat} {w0 w w' : World} {K0 : Nat → Nat} {rs : List Res} (h : Hold base w0 K0 w rs) (hk : Kept (fun _ => False) w w') : Hold base w0 K0 w' rs :=
  ⟨fun q hq => (h.sat q hq).kept hk fun _ _ h => h, h.uniq, h.old, h.kept.trans hk fun _ _ h => h.elim⟩
theorem Hold.below {base : Nat} {w0 w w' : World} {K0 : Nat → Nat} {rs : List Res} (h : Hold base w0 K0 w rs) (hk : Below w.heap.size w w') : Hold base w0 K0 w' rs := h.keep (Kept.of_below hk)
theorem Hold.drew {base : Nat} {w0 w : World} {K0 : Nat → Nat} {rs : List Res} (h : Hold base w0 K0 w rs) : Hold base w0 K0 w.drew rs := h.keep (Kept.refl _ w).drew
theorem Hold.drewN {base : Nat} {w0 w : World} {K0 : Nat → Nat} {rs : List Res} (h : Hold base w0 K0 w rs) (n : Nat) : Hold base w0 K0 (w.drewN n) rs := h.keep ((Kept.refl _ w).drewN n)
theorem Hold.alloc {base : Nat} {w0 w : World} {K0 : Nat → Nat} {rs : List Res} (h : Hold base w0 K0 w rs) (o : Obj) : Hold base w0 K0 (w.alloc o) rs := h.keep ((Kept.refl _ w).alloc o)
theorem Hold.new {base : Nat} {w0 w w' : World} {K0 : Nat → Nat} {rs : List Res} (h : Hold base w0 K0 w rs) {r : Res} (hk : Kept (fun _ => False) w w') (hs : r.Sat base w') (hf : ∀ x, 0 < r.foot x → w.heap.size ≤ x) (h1 : ∀ x, r.foot x ≤ 1) : Hold base w0 K0 w' (r :: rs) := by
  have h' := h.keep hk
  have hsz := h.size
  refine ⟨fun q hq => ?_, fun x => ?_, fun x hx => ?_, h'.kept⟩
  · rcases List.mem_cons.1 hq with hq | hq
    · subst hq; exact hs
    · exact h'.sat q hq
  · rw [total_cons]
    rcases Nat.lt_or_ge x w.heap.size with hx | hx
    · have := hf x; have := h.uniq x; omega
    · have := h.beyond hx; have := h1 x; omega
  · rw [total_cons]
    have := hf x; have := h.old x hx; omega
theorem Hold.made {base : Nat} {w0 w : World} {K0 : Nat → Nat} {rs : List Res} (h : Hold base w0 K0 w rs) (hb : base ≤ w.heap.size) (t : TypeId) (vs : List Value) : Hold base w0 K0 (w.alloc (.cells vs.toArray t)) (.cell w.heap.size t vs :: rs) :=
  h.new ((Kept.refl _ w).alloc _) ⟨hb, heap_alloc_new w _⟩ (fun x hx => by obtain rfl := one_pos.1 hx; exact Nat.le_refl _) (fun x => by show one _ _ ≤ 1; unfold one; split <;> omega)
theorem Hold.forget {base : Nat} {w0 w : World} {K0 : Nat → Nat} (l1 : List Res) {r : Res} {l2 : List Res} (h : Hold base w0 K0 w (l1 ++ r :: l2)) : Hold base w0 K0 w (l1 ++ l2) :=
  h.conv (fun x => by simp only [total_append, total_cons]; omega) (fun q hq => h.sat q (by simp only [List.mem_append, List.mem_cons] at hq ⊢; rcases hq with h | h <;> simp [h]))

theorem foot_cell (b : Nat) (t : TypeId) (vs : List Value) (x : Nat) : (Res.cell b t vs).foot x = one b x := rfl
theorem foot_row (v : Value) (e : TypeId) (k n : Nat) (xs : List Value) (x : Nat) : (Res.row v e k n xs).foot x = blkN v x := rfl
theorem foot_sub (h : Nat) (k : Kid) (x : Nat) : (Res.sub h k).foot x = k.own x := rfl
theorem foot_subs (h : Nat) (kids : List Kid) (x : Nat) : (Res.subs h kids).foot x = owns kids x := rfl
theorem foot_obj (b : Nat) (p : Obj → Prop) (x : Nat) : (Res.obj b p).foot x = one b x := rfl
theorem one_le (b x : Nat) : one b x ≤ 1 := by unfold one; split <;> omega
theorem blkN_le (v : Value) (x : Nat) : blkN v x ≤ 1 := by unfold blkN; split <;> omega

theorem Hold.cellAt {base : Nat} {w0 w : World} {K0 : Nat → Nat} {rs : List Res} (h : Hold base w0 K0 w rs) {b : Nat} {t : TypeId} {vs : List Value} (hm : Res.cell b t vs ∈ rs) {j : Nat} {v : Value} (hv : vs[j]? = some v) : w.cell? ⟨b, j, none⟩ = some v := by
  have := (h.sat _ hm).2
  rw [cell_of_row w b j _ t (0, 0) this]
  simpa using hv
theorem Hold.frozenAt {base : Nat} {w0 w : World} {K0 : Nat → Nat} {rs : List Res} (h : Hold base w0 K0 w rs) {b : Nat} {t : TypeId} {vs : List Value} (hm : Res.cell b t vs ∈ rs) (j : Nat) : w.frozen? ⟨b, j, none⟩ = false :=
  frozen_of_row w b j _ t (h.sat _ hm).2
theorem Hold.rowAt {base : Nat} {w0 w : World} {K0 : Nat → Nat} {rs : List Res} (h : Hold base w0 K0 w rs) {v : Value} {e : TypeId} {k n : Nat} {xs : List Value} (hm : Res.row v e k n xs ∈ rs) : w.ownsRow base e k v n xs := h.sat _ hm
theorem Hold.subAt {base : Nat} {w0 w : World} {K0 : Nat → Nat} {rs : List Res} (h : Hold base w0 K0 w rs) {n : Nat} {k : Kid} (hm : Res.sub n k ∈ rs) : Sub base w n k := h.sat _ hm

theorem Hold.store {base : Nat} {w0 w : World} {K0 : Nat → Nat} (l1 : List Res) {b : Nat} {t : TypeId} {vs : List Value} {l2 : List Res} (h : Hold base w0 K0 w (l1 ++ .cell b t vs :: l2)) (j : Nat) (u : Value) (vs' : List Value) (he : vs.set j u = vs') : Hold base w0 K0 (w.setCell ⟨b, j, none⟩ u) (l1 ++ .cell b t vs' :: l2) := by
  have hc := h.sat (.cell b t vs) (by simp)
  refine h.put l1 (Kept.setCell (Kept.refl _ w) (fun _ => by show 0 < one b b; rw [one_self]; decide) u) ⟨hc.1, ?_⟩ (fun x _ => Nat.le_refl _) (one_le b)
  rw [heap_setCell_same w b j _ t u hc.2, ← he]
  simp
theorem Hold.grow {base : Nat} {w0 w w' : World} {K0 : Nat → Nat} (l1 : List Res) {v v' : Value} {e : TypeId} {k n n' : Nat} {xs ys : List Value} {l2 : List Res} (h : Hold base w0 K0 w (l1 ++ .row v e k n xs :: l2)) (hg : w.grownBy w' v.ownBlock) (hr : w'.ownsRow base e k v' n' ys) (ha : v'.ownBlock = v.ownBlock ∨ ∃ x, v'.ownBlock = some x ∧ w.heap.size ≤ x) : Hold base w0 K0 w' (l1 ++ .row v' e k n' ys :: l2) := by
  refine h.put l1 ((Kept.refl _ w).grown hg fun x hx _ => blkN_pos.2 hx) hr (fun x hx => ?_) (blkN_le v')
  show blkN v' x ≤ blkN v x
  unfold blkN
  rcases ha with ha | ⟨y, ha, hy⟩
  · rw [ha]; exact Nat.le_refl _
  · rw [ha]
    split
    · rename_i e; have := Option.some.inj e; omega
    · omega
theorem Hold.newRow {base : Nat} {w0 w w' : World} {K0 : Nat → Nat} {rs : List Res} (h : Hold base w0 K0 w rs) {v : Value} {e : TypeId} {k n : Nat} {xs : List Value} (hk : Below w.heap.size w w') (hr : w'.ownsRow base e k v n xs) (ha : ∃ x, v.ownBlock = some x ∧ w.heap.size ≤ x) : Hold base w0 K0 w' (.row v e k n xs :: rs) :=
  h.new (Kept.of_below hk) hr (fun x hx => by obtain ⟨y, h1, h2⟩ := ha; have h3 := blkN_pos.1 hx; rw [h1] at h3; cases h3; exact h2) (blkN_le v)
theorem Hold.nilRow {base : Nat} {w0 w : World} {K0 : Nat → Nat} {rs : List Res} (h : Hold base w0 K0 w rs) (e : TypeId) (k : Nat) : Hold base w0 K0 w (.row (.slice none 0 0) e k 0 [] :: rs) :=
  h.new (Kept.refl _ w) (World.ownsRow_nil w base e k) (fun x hx => by have := blkN_pos.1 hx; simp [Value.ownBlock] at this) (blkN_le _)

def Shape (h : Nat) (its : List Item) (kids : List Kid) : Prop := (h = 0 ∧ kids = []) ∨ (0 < h ∧ kids.length = its.length + 1)
def rowI (v : Value) (its : List Item) : Res := .row v 190 3 its.length (flat its)
def rowN (v : Value) (kids : List Kid) : Res := .row v 128 1 kids.length (kids.map fun y => ptrV y.b)
def nodeR (b : Nat) (v0 v1 : Value) : Res := .cell b 188 [v0, v1]

theorem Hold.open {base : Nat} {w0 w : World} {K0 : Nat → Nat} (l1 : List Res) {h : Nat} {k : Kid} {l2 : List Res} (H : Hold base w0 K0 w (l1 ++ .sub h k :: l2)) :
    ∃ its kids v0 v1, k.c = its.length ∧ k.L = inter its (kids.map Kid.L) ∧ Shape h its kids ∧ (∀ x ∈ kids, Fit x) ∧ Hold base w0 K0 w (l1 ++ nodeR k.b v0 v1 :: rowI v0 its :: rowN v1 kids :: .subs (h - 1) kids :: l2) := by
  have hs : Sub base w h k := H.sat (.sub h k) (by simp)
  obtain ⟨its, kids, v0, v1, hn, hk, hf⟩ := hs.open
  have hsh : Shape h its kids ∧ ∀ x ∈ kids, Sub base w (h - 1) x := by
    cases h with
    | zero => obtain rfl : kids = [] := hk; exact ⟨.inl ⟨rfl, rfl⟩, by simp⟩
    | succ h => exact ⟨.inr ⟨by omega, hk.1⟩, hk.2⟩
  refine ⟨its, kids, v0, v1, hn.c, hn.L, hsh.1, hf, H.conv (fun x => ?_) (fun r hr => ?_)⟩
  · simp only [total_append, total_cons, nodeR, rowI, rowN, foot_cell, foot_row, foot_sub, foot_subs]
    rw [hn.own x]
    omega
  · simp only [List.mem_append, List.mem_cons] at hr
    rcases hr with hr | rfl | rfl | rfl | rfl | hr
    · exact H.sat r (by simp [hr])
    · exact ⟨hn.low, hn.cell⟩
    · exact hn.items
    · exact hn.below
    · exact hsh.2
    · exact H.sat r (by simp [hr])
theorem Hold.shut {base : Nat} {w0 w : World} {K0 : Nat → Nat} (l1 : List Res) {h b : Nat} {its : List Item} {kids : List Kid} {v0 v1 : Value} {l2 : List Res} (H : Hold base w0 K0 w (l1 ++ nodeR b v0 v1 :: rowI v0 its :: rowN v1 kids :: .subs (h - 1) kids :: l2)) (hsh : Shape h its kids) (hf : ∀ x ∈ kids, Fit x) :
    ∃ k : Kid, k.b = b ∧ k.c = its.length ∧ k.L = inter its (kids.map Kid.L) ∧ Hold base w0 K0 w (l1 ++ .sub h k :: l2) := by
  have hu : ∀ x, one b x + blkN v0 x + blkN v1 x + owns kids x ≤ 1 := fun x => by
    have := H.uniq x
    simp only [total_append, total_cons, nodeR, rowI, rowN, foot_cell, foot_row, foot_sub, foot_subs] at this
    omega
  have hn : NodeAt base w ⟨b, its.length, inter its (kids.map Kid.L), fun x => one b x + blkN v0 x + blkN v1 x + owns kids x⟩ its kids v0 v1 :=
    ⟨(H.sat (nodeR b v0 v1) (by simp)).2, (H.sat (nodeR b v0 v1) (by simp)).1, H.sat (rowI v0 its) (by simp), H.sat (rowN v1 kids) (by simp), rfl, rfl, fun _ => rfl, hu⟩
  have hk : ∀ x ∈ kids, Sub base w (h - 1) x := H.sat (.subs (h - 1) kids) (by simp)
  refine ⟨⟨b, its.length, inter its (kids.map Kid.L), fun x => one b x + blkN v0 x + blkN v1 x + owns kids x⟩, rfl, rfl, rfl, H.conv (fun x => ?_) (fun r hr => ?_)⟩
  · simp only [total_append, total_cons, nodeR, rowI, rowN, foot_cell, foot_row, foot_sub, foot_subs]
    omega
  · simp only [List.mem_append, List.mem_cons] at hr
    rcases hr with hr | rfl | hr
    · exact H.sat r (by simp [hr])
    · refine Sub.shut hn ?_ hf
      rcases hsh with ⟨rfl, rfl⟩ | ⟨hp, hl⟩
      · rfl
      · obtain ⟨h', rfl⟩ : ∃ h', h = h' + 1 := ⟨h - 1, by omega⟩
        exact ⟨hl, hk⟩
    · exact H.sat r (by simp [hr])
theorem Hold.take {base : Nat} {w0 w : World} {K0 : Nat → Nat} (l1 : List Res) {h : Nat} {a : List Kid} {k : Kid} {d : List Kid} {l2 : List Res} (H : Hold base w0 K0 w (l1 ++ .subs h (a ++ k :: d) :: l2)) : Hold base w0 K0 w (l1 ++ .sub h k :: .subs h (a ++ d) :: l2) := by
  have hk : ∀ x ∈ a ++ k :: d, Sub base w h x := H.sat (.subs h (a ++ k :: d)) (by simp)
  refine H.conv (fun x => ?_) (fun r hr => ?_)
  · simp only [total_append, total_cons, foot_sub, foot_subs, owns_append, owns_cons]
    omega
  · simp only [List.mem_append, List.mem_cons] at hr
    rcases hr with hr | rfl | rfl | hr
    · exact H.sat r (by simp [hr])
    · exact hk k (by simp)
    · exact fun x hx => hk x (by simp at hx ⊢; rcases hx with h | h <;> simp [h])
    · exact H.sat r (by simp [hr])
theorem Hold.give {base : Nat} {w0 w : World} {K0 : Nat → Nat} (l1 : List Res) {h : Nat} (a : List Kid) {k : Kid} (d : List Kid) {l2 : List Res} (H : Hold base w0 K0 w (l1 ++ .sub h k :: .subs h (a ++ d) :: l2)) : Hold base w0 K0 w (l1 ++ .subs h (a ++ k :: d) :: l2) := by
  have hk : ∀ x ∈ a ++ d, Sub base w h x := H.sat (.subs h (a ++ d)) (by simp)
  have hk2 : Sub base w h k := H.sat (.sub h k) (by simp)
  refine H.conv (fun x => ?_) (fun r hr => ?_)
  · simp only [total_append, total_cons, foot_sub, foot_subs, owns_append, owns_cons]
    omega
  · simp only [List.mem_append, List.mem_cons] at hr
    rcases hr with hr | rfl | hr
    · exact H.sat r (by simp [hr])
    · intro x hx
      simp at hx
      rcases hx with h1 | rfl | h1
      · exact hk x (by simp [h1])
      · exact hk2
      · exact hk x (by simp [h1])
    · exact H.sat r (by simp [hr])

theorem Hold.front {base : Nat} {w0 w : World} {K0 : Nat → Nat} (l1 : List Res) {r : Res} {l2 : List Res} (H : Hold base w0 K0 w (l1 ++ r :: l2)) : Hold base w0 K0 w (r :: (l1 ++ l2)) :=
  H.conv (fun x => by simp only [total_append, total_cons]; omega) (fun q hq => H.sat q (by
    simp only [List.mem_append, List.mem_cons] at hq ⊢
    rcases hq with h | h | h
    · exact .inr (.inl h)
    · exact .inl h
    · exact .inr (.inr h)))
theorem Hold.part {base : Nat} {w0 w : World} {K0 : Nat → Nat} (l1 : List Res) {h : Nat} {a d : List Kid} {l2 : List Res} (H : Hold base w0 K0 w (l1 ++ .subs h (a ++ d) :: l2)) : Hold base w0 K0 w (l1 ++ .subs h a :: .subs h d :: l2) := by
  have hk : ∀ x ∈ a ++ d, Sub base w h x := H.sat (.subs h (a ++ d)) (by simp)
  refine H.conv (fun x => ?_) (fun r hr => ?_)
  · simp only [total_append, total_cons, foot_sub, foot_subs, owns_append, owns_cons]
    omega
  · simp only [List.mem_append, List.mem_cons] at hr
    rcases hr with hr | rfl | rfl | hr
    · exact H.sat r (by simp [hr])
    · exact fun x hx => hk x (by simp [hx])
    · exact fun x hx => hk x (by simp [hx])
    · exact H.sat r (by simp [hr])
theorem rowN_congr {v : Value} {a b : List Kid} (h : a.map Kid.b = b.map Kid.b) : rowN v a = rowN v b := by
  have e : ∀ l : List Kid, (l.map fun y => ptrV y.b) = (l.map Kid.b).map ptrV := fun l => by rw [List.map_map]; rfl
  have hl : a.length = b.length := by have := congrArg List.length h; simpa using this
  unfold rowN
  rw [e, e, h, hl]

theorem Hold.start {base : Nat} {w : World} {h : Nat} {k : Kid} (hs : Sub base w h k) : Hold base w k.own w [.sub h k] :=
  ⟨fun r hr => by simp at hr; subst hr; exact hs, fun x => by rw [total_cons, total_nil, foot_sub]; have := hs.uniq x; omega, fun x _ => by rw [total_cons, total_nil, foot_sub]; omega, Kept.refl _ w⟩

end Go.Proofs.YtjpmomklkkifjaaGreatDoor.T
namespace Go.Proofs.YtjpmomklkkifjaaGreatDoor.T
open Go.RowKit
open Go.Maps (Keyed)
open Go.WideElems (rd rg pl)
set_option maxRecDepth 100000
set_option linter.unusedVariables false
set_option linter.unusedSimpArgs false

def Rv (v : Value) : Option (DataW Value × List MemPlace) := some (.held v, [])

structure NV where
  id : Int
  kind : Int
  up : Int
  links : Int
  text : ByteArray
  tb : Option Nat
def NV.ptr (v : NV) : Option Addr := v.tb.map fun b => ⟨b, 0, none⟩
def NV.val (v : NV) : Value := .agg #[.int .i64 v.id, .int .i64 v.kind, .int .i64 v.up, .int .i64 v.links, .string v.text, .pointer v.ptr]
def NV.zero : NV := ⟨0, 0, 0, 0, ⟨#[]⟩, none⟩

def WfI (i : Int) : Prop := (Lit.int .i64 i).wf = true
theorem wfI_of {i : Int} (h1 : -9223372036854775808 ≤ i) (h2 : i ≤ 9223372036854775807) : WfI i := by
  unfold WfI Lit.wf
  simp [IntKind.wrap, IntKind.signed, IntKind.bits, IntKind.min, IntKind.max]
  omega
def findN (N : List NV) (i : Int) : Option NV := N.find? fun v => v.id == i
def atN (N : List NV) (i : Int) : NV := (findN N i).getD NV.zero
def putN (N : List NV) (v : NV) : List NV := if (findN N v.id).isSome then N.map (fun x => if x.id == v.id then v else x) else N ++ [v]
def delN (N : List NV) (i : Int) : List NV := N.filter fun v => !(v.id == i)

structure MapN (N : List NV) (D : DataW Value) : Prop where
  size : Maps.size D = N.length
  look : ∀ i z, WfI i → D.atKey (.int .i64 i) z = (match findN N i with | none => z | some v => .held v.val)
  nodup : (N.map NV.id).Nodup
  wf : ∀ v ∈ N, WfI v.id

theorem key_int (i : Int) : WideAt.IsKeyLit (.int .i64 i) := by trivial
theorem findN_some {N : List NV} {i : Int} {v : NV} (h : findN N i = some v) : v ∈ N ∧ v.id = i := ⟨List.mem_of_find?_eq_some h, by have := List.find?_some h; simpa using this⟩
theorem findN_none {N : List NV} {i : Int} (h : findN N i = none) : ∀ v ∈ N, v.id ≠ i := by
  intro v hv e
  have := List.find?_eq_none.1 h v hv
  simp [e] at this
theorem findN_mem {N : List NV} (hn : (N.map NV.id).Nodup) {v : NV} (hv : v ∈ N) : findN N v.id = some v := by
  induction N with
  | nil => simp at hv
  | cons x N ih =>
    simp only [List.map_cons, List.nodup_cons] at hn
    unfold findN
    rw [List.find?_cons]
    rcases List.mem_cons.1 hv with rfl | hv
    · simp
    · have hne : x.id ≠ v.id := fun e => hn.1 (by rw [e]; exact List.mem_map.2 ⟨v, hv, rfl⟩)
      have : (x.id == v.id) = false := by simpa using hne
      rw [this]
      exact ih hn.2 hv

theorem putN_ids (N : List NV) (v : NV) : (putN N v).map NV.id = if (findN N v.id).isSome then N.map NV.id else N.map NV.id ++ [v.id] := by
  unfold putN
  split
  · rw [List.map_map]
    refine List.map_congr_left fun x _ => ?_
    show (if (x.id == v.id) = true then v else x).id = x.id
    split
    · rename_i h; simp at h; exact h.symm
    · rfl
  · simp
theorem putN_nodup {N : List NV} (hn : (N.map NV.id).Nodup) (v : NV) : ((putN N v).map NV.id).Nodup := by
  rw [putN_ids]
  split
  · exact hn
  · rename_i h
    have h0 : findN N v.id = none := by cases hf : findN N v.id with | none => rfl | some x => rw [hf] at h; simp at h
    rw [List.nodup_append]
    refine ⟨hn, by simp, fun a ha b hb => ?_⟩
    simp at hb
    subst hb
    obtain ⟨x, hx, rfl⟩ := List.mem_map.1 ha
    exact findN_none h0 x hx
theorem putN_length (N : List NV) (v : NV) : (putN N v).length = if (findN N v.id).isSome then N.length else N.length + 1 := by
  unfold putN
  split <;> simp
theorem find_map_same {N : List NV} {v : NV} (h : (findN N v.id).isSome = true) : (N.map (fun x => if x.id == v.id then v else x)).find? (fun x => x.id == v.id) = some v := by
  induction N with
  | nil => simp [findN] at h
  | cons x N ih =>
    rw [List.map_cons, List.find?_cons]
    by_cases hx : (x.id == v.id) = true
    · rw [if_pos hx]; simp
    · rw [if_neg hx]
      have hx' : (x.id == v.id) = false := by simpa using hx
      rw [hx']
      refine ih ?_
      unfold findN at h ⊢
      rw [List.find?_cons, hx'] at h
      exact h
theorem find_map_other {N : List NV} {v : NV} {i : Int} (h : i ≠ v.id) : (N.map (fun x => if x.id == v.id then v else x)).find? (fun x => x.id == i) = N.find? (fun x => x.id == i) := by
  induction N with
  | nil => rfl
  | cons x N ih =>
    rw [List.map_cons, List.find?_cons, List.find?_cons, ih]
    by_cases hx : (x.id == v.id) = true
    · rw [if_pos hx]
      have h1 : (v.id == i) = false := by simpa using fun e => h e.symm
      have h2 : (x.id == i) = false := by have hx' : x.id = v.id := by simpa using hx
                                          rw [hx']; exact h1
      rw [h1, h2]
    · rw [if_neg hx]
theorem findN_put_same (N : List NV) (v : NV) : findN (putN N v) v.id = some v := by
  unfold putN
  split
  · rename_i h; exact find_map_same h
  · rename_i h
    have h0 : findN N v.id = none := by cases hf : findN N v.id with | none => rfl | some x => rw [hf] at h; simp at h
    unfold findN at h0 ⊢
    rw [List.find?_append, h0]
    simp
theorem findN_put_other {N : List NV} {v : NV} {i : Int} (h : i ≠ v.id) : findN (putN N v) i = findN N i := by
  unfold putN
  split
  · exact find_map_other h
  · unfold findN
    rw [List.find?_append]
    have h1 : (v.id == i) = false := by simpa using fun e => h e.symm
    rw [List.find?_cons, h1]
    simp
theorem findN_del_same (N : List NV) (i : Int) : findN (delN N i) i = none := by
  unfold findN delN
  rw [List.find?_eq_none]
  intro x hx
  have := (List.mem_filter.1 hx).2
  simpa using this
theorem findN_del_other {N : List NV} {i j : Int} (h : j ≠ i) : findN (delN N i) j = findN N j := by
  unfold findN delN
  exact Maps.find_filter_keep (fun v hv => by simp at hv ⊢; rw [hv]; exact h) N
theorem delN_length {N : List NV} (hn : (N.map NV.id).Nodup) (i : Int) : (delN N i).length + (if (findN N i).isSome then 1 else 0) = N.length := by
  induction N with
  | nil => rfl
  | cons x N ih =>
    simp only [List.map_cons, List.nodup_cons] at hn
    have := ih hn.2
    unfold delN findN at *
    rw [List.filter_cons, List.find?_cons]
    by_cases hx : (x.id == i) = true
    · have hi : N.find? (fun v => v.id == i) = none := by
        rw [List.find?_eq_none]
        intro y hy e
        have e1 : y.id = i := by simpa using e
        have e2 : x.id = i := by simpa using hx
        exact hn.1 (List.mem_map.2 ⟨y, hy, by rw [e1, e2]⟩)
      rw [hi] at this
      simp only [hx]
      simp at this ⊢
      omega
    · have hx' : (x.id == i) = false := by simpa using hx
      simp only [hx']
      simp only [Bool.not_false, if_true, List.length_cons]
      omega

theorem MapN.has {N : List NV} {D : DataW Value} (h : MapN N D) {i : Int} (hi : WfI i) : Maps.has D (.int .i64 i) = (findN N i).isSome := by
  cases hf : findN N i with
  | none => exact Maps.has_false_of_atKey fun z => by rw [h.look i z hi, hf]
  | some v => exact Maps.has_true_of_atKey (y := .held v.val) fun z => by rw [h.look i z hi, hf]
theorem MapN.put {N : List NV} {D : DataW Value} (h : MapN N D) (ht : Maps.Tidy D) {v : NV} (hi : WfI v.id) : MapN (putN N v) (D.put (.int .i64 v.id) (.held v.val)) := by
  refine ⟨?_, fun i z hw => ?_, putN_nodup h.nodup v, fun x hx => ?_⟩
  · rw [Maps.size_put ht, h.has hi, h.size, putN_length]
  · by_cases he : i = v.id
    · subst he
      rw [Maps.atKey_put_same ht.isMap (key_int _), findN_put_same]
    · rw [Maps.atKey_put_other (by intro e; cases e; exact he rfl), h.look i z hw, findN_put_other he]
  · have : x.id ∈ (putN N v).map NV.id := List.mem_map.2 ⟨x, hx, rfl⟩
    rw [putN_ids] at this
    split at this
    · obtain ⟨y, hy, e⟩ := List.mem_map.1 this
      rw [← e]; exact h.wf y hy
    · rcases List.mem_append.1 this with h1 | h1
      · obtain ⟨y, hy, e⟩ := List.mem_map.1 h1
        rw [← e]; exact h.wf y hy
      · simp at h1; rw [h1]; exact hi
theorem MapN.del {N : List NV} {D : DataW Value} (h : MapN N D) (ht : Maps.Tidy D) {i : Int} (hi : WfI i) : MapN (delN N i) (D.del (.int .i64 i)) := by
  refine ⟨?_, fun j z hw => ?_, ?_, fun x hx => h.wf x (List.mem_filter.1 hx).1⟩
  · have h1 := Maps.size_del (k := .int .i64 i) ht
    rw [h.has hi, h.size] at h1
    have h2 := delN_length h.nodup i
    omega
  · by_cases he : j = i
    · subst he
      rw [Maps.atKey_del_same, findN_del_same]
    · rw [Maps.atKey_del_other (by intro e; cases e; exact he rfl), h.look j z hw, findN_del_other he]
  · have e : (delN N i).map NV.id = (N.map NV.id).filter fun x => !(x == i) := by
      unfold delN
      rw [List.filter_map]
      rfl
    rw [e]
    exact h.nodup.filter _

def IsMapN (N : List NV) (o : Obj) : Prop := ∃ es clock, o = .map es clock ∧ Go.WideElems.Fit Tryz.prog 3 Rv es clock ∧ MapN N (.map ((es.toList.map (rg Tryz.prog 3 Rv)).foldr DataW.insert []))

theorem kI : Keyed Tryz.prog 3 := Maps.int_keyed Tryz.underlying3
theorem keyI {i : Int} (h : WfI i) : keyOf Tryz.prog 3 (.int .i64 i) = some (.int .i64 i) := Maps.keyOf_int_mk Tryz.underlying3 h

theorem sat_owns {base : Nat} {w : World} {b : Nat} {N : List NV} (h : Res.Sat base w (.obj b (IsMapN N))) : ∃ D, w.ownsMap Tryz.prog 3 Rv b N.length D ∧ MapN N D := by
  obtain ⟨_, o, ho, es, clock, rfl, F, hm⟩ := h
  have := hm.size
  simp [Maps.size, length_sorted] at this
  exact ⟨_, ⟨es, clock, ho, F, by omega, rfl⟩, hm⟩
theorem owns_sat {base : Nat} {w : World} {b n : Nat} {N : List NV} {D : DataW Value} (hb : base ≤ b) (h : w.ownsMap Tryz.prog 3 Rv b n D) (hm : MapN N D) : Res.Sat base w (.obj b (IsMapN N)) := by
  obtain ⟨es, clock, ho, F, _, rfl⟩ := h
  exact ⟨hb, _, ho, es, clock, rfl, F, hm⟩

theorem look_run {base : Nat} {w : World} {b : Nat} {N : List NV} (h : Res.Sat base w (.obj b (IsMapN N))) {i : Int} (hi : WfI i) : (Instr.lookup 75 (.map (some b)) (.int .i64 i) false).run Tryz.prog w = .ok (atN N i).val w := by
  obtain ⟨D, ho, hm⟩ := sat_owns h
  obtain ⟨v, ps, hrun, hv⟩ := ho.lookup kI Tryz.underlying75 (z := NV.zero.val) (Tryz.zeroValue80 w) (zd := .held NV.zero.val) (zp := []) rfl (keyI hi)
  rw [hrun, hm.look i _ hi] at *
  unfold Rv at hv
  unfold atN
  cases hf : findN N i with
  | none => rw [hf] at hv; simp at hv; rw [hv.1]; rfl
  | some x => rw [hf] at hv; simp at hv; rw [hv.1]; rfl
theorem len_run {base : Nat} {w : World} {b : Nat} {N : List NV} (h : Res.Sat base w (.obj b (IsMapN N))) (ty : TypeId) : (Builtin.len_ #[75] ty #[.map (some b)]).run Tryz.prog w = .ok (.int .i64 N.length) w := by
  obtain ⟨D, ho, hm⟩ := sat_owns h
  rw [ho.len Tryz.underlying75 ty, hm.size]

theorem Hold.mapPut {base : Nat} {w0 w : World} {K0 : Nat → Nat} (l1 : List Res) {b : Nat} {N : List NV} {l2 : List Res} (H : Hold base w0 K0 w (l1 ++ .obj b (IsMapN N) :: l2)) (hN : N.length ≤ 1000) (v : NV) (hi : WfI v.id) :
    ∃ w', (Instr.mapUpdate 75 (.map (some b)) (.int .i64 v.id) v.val).run Tryz.prog w = .ok () w' ∧ Hold base w0 K0 w' (l1 ++ .obj b (IsMapN (putN N v)) :: l2) := by
  have hs := H.sat (.obj b (IsMapN N)) (by simp)
  obtain ⟨D, ho, hm⟩ := sat_owns hs
  obtain ⟨w', hrun, ho', hg⟩ := ho.update kI Tryz.underlying75 (by unfold maxLen; omega) (val := v.val) (d := .held v.val) (ps := []) (keyI hi) rfl
  refine ⟨w', hrun, H.put l1 ((Kept.refl _ w).grown hg fun x hx _ => ?_) (owns_sat hs.1 ho' (hm.put (ho.tidy kI) hi)) (fun x _ => Nat.le_refl _) (one_le b)⟩
  cases hx
  show 0 < one b b
  rw [one_self]; decide
theorem Hold.mapDel {base : Nat} {w0 w : World} {K0 : Nat → Nat} (l1 : List Res) {b : Nat} {N : List NV} {l2 : List Res} (H : Hold base w0 K0 w (l1 ++ .obj b (IsMapN N) :: l2)) (i : Int) (hi : WfI i) (ty : TypeId) :
    ∃ w', (Builtin.delete_ #[75, 3] ty #[.map (some b), .int .i64 i]).run Tryz.prog w = .ok (.tuple #[]) w' ∧ Hold base w0 K0 w' (l1 ++ .obj b (IsMapN (delN N i)) :: l2) := by
  have hs := H.sat (.obj b (IsMapN N)) (by simp)
  obtain ⟨D, ho, hm⟩ := sat_owns hs
  obtain ⟨w', hrun, ho', hg⟩ := ho.drop kI Tryz.underlying75 (keyI hi) ty
  refine ⟨w', hrun, H.put l1 ((Kept.refl _ w).grown hg.grown fun x hx _ => ?_) (owns_sat hs.1 ho' (hm.del (ho.tidy kI) hi)) (fun x _ => Nat.le_refl _) (one_le b)⟩
  cases hx
  show 0 < one b b
  rw [one_self]; decide
theorem Hold.mapNew {base : Nat} {w0 w : World} {K0 : Nat → Nat} {rs : List Res} (H : Hold base w0 K0 w rs) (hb : base ≤ w.heap.size) : Hold base w0 K0 (w.alloc (.map #[] 0)) (.obj w.heap.size (IsMapN []) :: rs) := by
  refine H.new ((Kept.refl _ w).alloc _) (owns_sat hb (World.ownsMap_made w Tryz.prog 3 Rv) ⟨rfl, fun i z _ => rfl, by simp, by simp⟩) (fun x hx => by obtain rfl := one_pos.1 hx; exact Nat.le_refl _) (one_le _)

end Go.Proofs.YtjpmomklkkifjaaGreatDoor.T
