/-
  What a call owns, piece by piece: blocks, rows, trees; no two of them share a block. Plain facts.
-/
import Derived.Test.YtjpmomklkkifjaaGreatDoorCBHeap
namespace Go.Proofs.YtjpmomklkkifjaaGreatDoor.T
open Go.RowKit
set_option maxRecDepth 100000
set_option linter.unusedSimpArgs false

/-- A piece of memory. -/
inductive Res where
  | cell (b : Nat) (t : TypeId) (vs : List Value)
  | row (v : Value) (e : TypeId) (k n : Nat) (xs : List Value)
  | sub (h : Nat) (k : Kid)
  | subs (h : Nat) (kids : List Kid)
  | obj (b : Nat) (p : Obj → Prop)

def Res.foot : Res → Nat → Nat
  | .cell b _ _, x => one b x
  | .row v _ _ _ _, x => blkN v x
  | .sub _ k, x => k.own x
  | .subs _ kids, x => owns kids x
  | .obj b _, x => one b x

def Res.Sat (base : Nat) (w : World) : Res → Prop
  | .cell b t vs => base ≤ b ∧ w.heap[b]? = some (.cells vs.toArray t (0, 0))
  | .row v e k n xs => w.ownsRow base e k v n xs
  | .sub h k => Sub base w h k
  | .subs h kids => ∀ x ∈ kids, Sub base w h x
  | .obj b p => base ≤ b ∧ ∃ o, w.heap[b]? = some o ∧ p o

def total (rs : List Res) (x : Nat) : Nat := (rs.map fun r => r.foot x).sum
theorem total_nil (x : Nat) : total [] x = 0 := rfl
theorem total_cons (r : Res) (rs : List Res) (x : Nat) : total (r :: rs) x = r.foot x + total rs x := by simp [total]
theorem total_append (a b : List Res) (x : Nat) : total (a ++ b) x = total a x + total b x := by simp [total]
theorem total_mem {r : Res} {rs : List Res} (h : r ∈ rs) (x : Nat) : r.foot x ≤ total rs x := by
  induction rs with
  | nil => simp at h
  | cons a l ih =>
    rw [total_cons]
    rcases List.mem_cons.1 h with h | h
    · subst h; omega
    · have := ih h; omega

/-- What is owned, in the world w; since w0 only blocks of K0 have turned, and of the old blocks only such are owned. -/
structure Hold (base : Nat) (w0 : World) (K0 : Nat → Nat) (w : World) (rs : List Res) : Prop where
  sat : ∀ r ∈ rs, r.Sat base w
  uniq : ∀ x, total rs x ≤ 1
  old : ∀ x, x < w0.heap.size → total rs x ≤ K0 x
  kept : Kept (fun x => 0 < K0 x) w0 w

theorem Res.Sat.range {base : Nat} {w : World} {r : Res} (h : r.Sat base w) (x : Nat) (hx : 0 < r.foot x) : base ≤ x ∧ x < w.heap.size := by
  cases r with
  | cell b t vs =>
    obtain rfl := one_pos.1 hx
    exact ⟨h.1, (Array.getElem?_eq_some_iff.1 h.2).1⟩
  | row v e k n xs => exact World.ownsRow.lt h x (blkN_pos.1 hx)
  | sub n k => exact Sub.range h x hx
  | subs n kids =>
    obtain ⟨y, hy, h5⟩ := owns_some hx
    exact Sub.range (h y hy) x h5
  | obj b p =>
    obtain rfl := one_pos.1 hx
    obtain ⟨h1, o, h2, _⟩ := h
    exact ⟨h1, (Array.getElem?_eq_some_iff.1 h2).1⟩
theorem Res.Sat.kept {base : Nat} {w w' : World} {S : Nat → Prop} {r : Res} (h : r.Sat base w) (hk : Kept S w w') (hs : ∀ x, 0 < r.foot x → ¬ S x) : r.Sat base w' := by
  cases r with
  | cell b t vs => exact ⟨h.1, (hk.block b (Array.getElem?_eq_some_iff.1 h.2).1 (hs b (by show 0 < one b b; rw [one_self]; decide))).trans h.2⟩
  | row v e k n xs => exact hk.row h fun x hx => hs x (blkN_pos.2 hx)
  | sub n k => exact Sub.kept hk h hs
  | subs n kids => exact fun y hy => Sub.kept hk (h y hy) fun x hx => hs x (Nat.lt_of_lt_of_le hx (owns_mem hy x))
  | obj b p =>
    obtain ⟨h1, o, h2, h3⟩ := h
    exact ⟨h1, o, (hk.block b (Array.getElem?_eq_some_iff.1 h2).1 (hs b (by show 0 < one b b; rw [one_self]; decide))).trans h2, h3⟩

theorem Hold.size {base : Nat} {w0 w : World} {K0 : Nat → Nat} {rs : List Res} (h : Hold base w0 K0 w rs) : w0.heap.size ≤ w.heap.size := h.kept.size
/-- Beyond the heap's end nothing is owned. -/
theorem Hold.beyond {base : Nat} {w0 w : World} {K0 : Nat → Nat} {rs : List Res} (h : Hold base w0 K0 w rs) {x : Nat} (hx : w.heap.size ≤ x) : total rs x = 0 := by
  have key : ∀ l : List Res, (∀ r ∈ l, r.Sat base w) → total l x = 0 := by
    intro l
    induction l with
    | nil => intro _; rfl
    | cons a l ih =>
      intro hl
      rw [total_cons, ih fun r hr => hl r (by simp [hr])]
      have := (hl a (by simp)).range x
      omega
  exact key rs h.sat

/-- The same pieces, told otherwise. -/
theorem Hold.conv {base : Nat} {w0 w : World} {K0 : Nat → Nat} {rs rs' : List Res} (h : Hold base w0 K0 w rs) (ht : ∀ x, total rs' x ≤ total rs x) (hs : ∀ r ∈ rs', r.Sat base w) : Hold base w0 K0 w rs' :=
  ⟨hs, fun x => Nat.le_trans (ht x) (h.uniq x), fun x hx => Nat.le_trans (ht x) (h.old x hx), h.kept⟩
/-- One piece has turned. -/
theorem Hold.put {base : Nat} {w0 w w' : World} {K0 : Nat → Nat} (l1 : List Res) {r r' : Res} {l2 : List Res} (h : Hold base w0 K0 w (l1 ++ r :: l2)) (hk : Kept (fun x => 0 < r.foot x) w w') (hs : r'.Sat base w') (hf : ∀ x, x < w.heap.size → r'.foot x ≤ r.foot x) (h1 : ∀ x, r'.foot x ≤ 1) : Hold base w0 K0 w' (l1 ++ r' :: l2) := by
  have hsz := h.size
  have key : ∀ x, x < w.heap.size → total (l1 ++ r' :: l2) x ≤ total (l1 ++ r :: l2) x := fun x hx => by
    have := hf x hx
    simp only [total_append, total_cons]
    omega
  refine ⟨fun q hq => ?_, fun x => ?_, fun x hx => Nat.le_trans (key x (by omega)) (h.old x hx), h.kept.trans hk fun x hx h2 => ?_⟩
  · have other : ∀ q, (q ∈ l1 ∨ q ∈ l2) → q.Sat base w' := fun q hq => by
      refine (h.sat q (by rcases hq with h | h <;> simp [h])).kept hk fun x hx h2 => ?_
      have h3 := h.uniq x
      simp only [total_append, total_cons] at h3
      rcases hq with hq | hq
      · have := total_mem hq x; omega
      · have := total_mem hq x; omega
    rcases List.mem_append.1 hq with hq | hq
    · exact other q (.inl hq)
    · rcases List.mem_cons.1 hq with hq | hq
      · subst hq; exact hs
      · exact other q (.inr hq)
  · rcases Nat.lt_or_ge x w.heap.size with hx | hx
    · exact Nat.le_trans (key x hx) (h.uniq x)
    · have h3 := h.beyond hx
      simp only [total_append, total_cons] at h3 ⊢
      have := h1 x
      omega
  · have h3 := h.old x hx
    simp only [total_append, total_cons] at h3
    omega
/-- Nothing of what is owned has turned. -/
theorem Hold.keep {base : Nat} {w0 w w' : World} {K0 : Nat → Nat} {rs : List Res} (h : Hold base w0 K0 w rs) (hk : Kept (fun _ => False) w w') : Hold base w0 K0 w' rs :=
  ⟨fun q hq => (h.sat q hq).kept hk fun _ _ h => h, h.uniq, h.old, h.kept.trans hk fun _ _ h => h.elim⟩
theorem Hold.below {base : Nat} {w0 w w' : World} {K0 : Nat → Nat} {rs : List Res} (h : Hold base w0 K0 w rs) (hk : Below w.heap.size w w') : Hold base w0 K0 w' rs := h.keep (Kept.of_below hk)
theorem Hold.drew {base : Nat} {w0 w : World} {K0 : Nat → Nat} {rs : List Res} (h : Hold base w0 K0 w rs) : Hold base w0 K0 w.drew rs := h.keep (Kept.refl _ w).drew
theorem Hold.drewN {base : Nat} {w0 w : World} {K0 : Nat → Nat} {rs : List Res} (h : Hold base w0 K0 w rs) (n : Nat) : Hold base w0 K0 (w.drewN n) rs := h.keep ((Kept.refl _ w).drewN n)
theorem Hold.alloc {base : Nat} {w0 w : World} {K0 : Nat → Nat} {rs : List Res} (h : Hold base w0 K0 w rs) (o : Obj) : Hold base w0 K0 (w.alloc o) rs := h.keep ((Kept.refl _ w).alloc o)
/-- A new piece. -/
theorem Hold.new {base : Nat} {w0 w w' : World} {K0 : Nat → Nat} {rs : List Res} (h : Hold base w0 K0 w rs) {r : Res} (hk : Kept (fun _ => False) w w') (hs : r.Sat base w') (hf : ∀ x, 0 < r.foot x → w.heap.size ≤ x) (h1 : ∀ x, r.foot x ≤ 1) : Hold base w0 K0 w' (r :: rs) := by
  have h' := h.keep hk
  have hsz := h.size
  refine ⟨fun q hq => ?_, fun x => ?_, fun x hx => ?_, h'.kept⟩
  · rcases List.mem_cons.1 hq with hq | hq
    · subst hq; exact hs
    · exact h'.sat q hq
  · rw [total_cons]
    rcases Nat.lt_or_ge x w.heap.size with hx | hx
    · have := hf x; have := h.uniq x; omega
    · have := h.beyond hx; have := h1 x; omega
  · rw [total_cons]
    have := hf x; have := h.old x hx; omega
/-- A new block. -/
theorem Hold.made {base : Nat} {w0 w : World} {K0 : Nat → Nat} {rs : List Res} (h : Hold base w0 K0 w rs) (hb : base ≤ w.heap.size) (t : TypeId) (vs : List Value) : Hold base w0 K0 (w.alloc (.cells vs.toArray t)) (.cell w.heap.size t vs :: rs) :=
  h.new ((Kept.refl _ w).alloc _) ⟨hb, heap_alloc_new w _⟩ (fun x hx => by obtain rfl := one_pos.1 hx; exact Nat.le_refl _) (fun x => by show one _ _ ≤ 1; unfold one; split <;> omega)
/-- A piece is let go. -/
theorem Hold.forget {base : Nat} {w0 w : World} {K0 : Nat → Nat} (l1 : List Res) {r : Res} {l2 : List Res} (h : Hold base w0 K0 w (l1 ++ r :: l2)) : Hold base w0 K0 w (l1 ++ l2) :=
  h.conv (fun x => by simp only [total_append, total_cons]; omega) (fun q hq => h.sat q (by simp only [List.mem_append, List.mem_cons] at hq ⊢; rcases hq with h | h <;> simp [h]))

theorem foot_cell (b : Nat) (t : TypeId) (vs : List Value) (x : Nat) : (Res.cell b t vs).foot x = one b x := rfl
theorem foot_row (v : Value) (e : TypeId) (k n : Nat) (xs : List Value) (x : Nat) : (Res.row v e k n xs).foot x = blkN v x := rfl
theorem foot_sub (h : Nat) (k : Kid) (x : Nat) : (Res.sub h k).foot x = k.own x := rfl
theorem foot_subs (h : Nat) (kids : List Kid) (x : Nat) : (Res.subs h kids).foot x = owns kids x := rfl
theorem foot_obj (b : Nat) (p : Obj → Prop) (x : Nat) : (Res.obj b p).foot x = one b x := rfl
theorem one_le (b x : Nat) : one b x ≤ 1 := by unfold one; split <;> omega
theorem blkN_le (v : Value) (x : Nat) : blkN v x ≤ 1 := by unfold blkN; split <;> omega

/-- What a block holds. -/
theorem Hold.cellAt {base : Nat} {w0 w : World} {K0 : Nat → Nat} {rs : List Res} (h : Hold base w0 K0 w rs) {b : Nat} {t : TypeId} {vs : List Value} (hm : Res.cell b t vs ∈ rs) {j : Nat} {v : Value} (hv : vs[j]? = some v) : w.cell? ⟨b, j, none⟩ = some v := by
  have := (h.sat _ hm).2
  rw [cell_of_row w b j _ t (0, 0) this]
  simpa using hv
theorem Hold.frozenAt {base : Nat} {w0 w : World} {K0 : Nat → Nat} {rs : List Res} (h : Hold base w0 K0 w rs) {b : Nat} {t : TypeId} {vs : List Value} (hm : Res.cell b t vs ∈ rs) (j : Nat) : w.frozen? ⟨b, j, none⟩ = false :=
  frozen_of_row w b j _ t (h.sat _ hm).2
theorem Hold.rowAt {base : Nat} {w0 w : World} {K0 : Nat → Nat} {rs : List Res} (h : Hold base w0 K0 w rs) {v : Value} {e : TypeId} {k n : Nat} {xs : List Value} (hm : Res.row v e k n xs ∈ rs) : w.ownsRow base e k v n xs := h.sat _ hm
theorem Hold.subAt {base : Nat} {w0 w : World} {K0 : Nat → Nat} {rs : List Res} (h : Hold base w0 K0 w rs) {n : Nat} {k : Kid} (hm : Res.sub n k ∈ rs) : Sub base w n k := h.sat _ hm

/-- A store into a block. -/
theorem Hold.store {base : Nat} {w0 w : World} {K0 : Nat → Nat} (l1 : List Res) {b : Nat} {t : TypeId} {vs : List Value} {l2 : List Res} (h : Hold base w0 K0 w (l1 ++ .cell b t vs :: l2)) (j : Nat) (u : Value) (vs' : List Value) (he : vs.set j u = vs') : Hold base w0 K0 (w.setCell ⟨b, j, none⟩ u) (l1 ++ .cell b t vs' :: l2) := by
  have hc := h.sat (.cell b t vs) (by simp)
  refine h.put l1 (Kept.setCell (Kept.refl _ w) (fun _ => by show 0 < one b b; rw [one_self]; decide) u) ⟨hc.1, ?_⟩ (fun x _ => Nat.le_refl _) (one_le b)
  rw [heap_setCell_same w b j _ t u hc.2, ← he]
  simp
/-- A row that a call has turned, or laid anew. -/
theorem Hold.grow {base : Nat} {w0 w w' : World} {K0 : Nat → Nat} (l1 : List Res) {v v' : Value} {e : TypeId} {k n n' : Nat} {xs ys : List Value} {l2 : List Res} (h : Hold base w0 K0 w (l1 ++ .row v e k n xs :: l2)) (hg : w.grownBy w' v.ownBlock) (hr : w'.ownsRow base e k v' n' ys) (ha : v'.ownBlock = v.ownBlock ∨ ∃ x, v'.ownBlock = some x ∧ w.heap.size ≤ x) : Hold base w0 K0 w' (l1 ++ .row v' e k n' ys :: l2) := by
  refine h.put l1 ((Kept.refl _ w).grown hg fun x hx _ => blkN_pos.2 hx) hr (fun x hx => ?_) (blkN_le v')
  show blkN v' x ≤ blkN v x
  unfold blkN
  rcases ha with ha | ⟨y, ha, hy⟩
  · rw [ha]; exact Nat.le_refl _
  · rw [ha]
    split
    · rename_i e; have := Option.some.inj e; omega
    · omega
theorem Hold.newRow {base : Nat} {w0 w w' : World} {K0 : Nat → Nat} {rs : List Res} (h : Hold base w0 K0 w rs) {v : Value} {e : TypeId} {k n : Nat} {xs : List Value} (hk : Below w.heap.size w w') (hr : w'.ownsRow base e k v n xs) (ha : ∃ x, v.ownBlock = some x ∧ w.heap.size ≤ x) : Hold base w0 K0 w' (.row v e k n xs :: rs) :=
  h.new (Kept.of_below hk) hr (fun x hx => by obtain ⟨y, h1, h2⟩ := ha; have h3 := blkN_pos.1 hx; rw [h1] at h3; cases h3; exact h2) (blkN_le v)
theorem Hold.nilRow {base : Nat} {w0 w : World} {K0 : Nat → Nat} {rs : List Res} (h : Hold base w0 K0 w rs) (e : TypeId) (k : Nat) : Hold base w0 K0 w (.row (.slice none 0 0) e k 0 [] :: rs) :=
  h.new (Kept.refl _ w) (World.ownsRow_nil w base e k) (fun x hx => by have := blkN_pos.1 hx; simp [Value.ownBlock] at this) (blkN_le _)

/-- How the nodes below one are. -/
def Shape (h : Nat) (its : List Item) (kids : List Kid) : Prop := (h = 0 ∧ kids = []) ∨ (0 < h ∧ kids.length = its.length + 1)
def rowI (v : Value) (its : List Item) : Res := .row v 190 3 its.length (flat its)
def rowN (v : Value) (kids : List Kid) : Res := .row v 128 1 kids.length (kids.map fun y => ptrV y.b)
def nodeR (b : Nat) (v0 v1 : Value) : Res := .cell b 188 [v0, v1]

/-- A tree is laid open. -/
theorem Hold.open {base : Nat} {w0 w : World} {K0 : Nat → Nat} (l1 : List Res) {h : Nat} {k : Kid} {l2 : List Res} (H : Hold base w0 K0 w (l1 ++ .sub h k :: l2)) :
    ∃ its kids v0 v1, k.c = its.length ∧ k.L = inter its (kids.map Kid.L) ∧ Shape h its kids ∧ (∀ x ∈ kids, Fit x) ∧ Hold base w0 K0 w (l1 ++ nodeR k.b v0 v1 :: rowI v0 its :: rowN v1 kids :: .subs (h - 1) kids :: l2) := by
  have hs : Sub base w h k := H.sat (.sub h k) (by simp)
  obtain ⟨its, kids, v0, v1, hn, hk, hf⟩ := hs.open
  have hsh : Shape h its kids ∧ ∀ x ∈ kids, Sub base w (h - 1) x := by
    cases h with
    | zero => obtain rfl : kids = [] := hk; exact ⟨.inl ⟨rfl, rfl⟩, by simp⟩
    | succ h => exact ⟨.inr ⟨by omega, hk.1⟩, hk.2⟩
  refine ⟨its, kids, v0, v1, hn.c, hn.L, hsh.1, hf, H.conv (fun x => ?_) (fun r hr => ?_)⟩
  · simp only [total_append, total_cons, nodeR, rowI, rowN, foot_cell, foot_row, foot_sub, foot_subs]
    rw [hn.own x]
    omega
  · simp only [List.mem_append, List.mem_cons] at hr
    rcases hr with hr | rfl | rfl | rfl | rfl | hr
    · exact H.sat r (by simp [hr])
    · exact ⟨hn.low, hn.cell⟩
    · exact hn.items
    · exact hn.below
    · exact hsh.2
    · exact H.sat r (by simp [hr])
/-- A tree is shut. -/
theorem Hold.shut {base : Nat} {w0 w : World} {K0 : Nat → Nat} (l1 : List Res) {h b : Nat} {its : List Item} {kids : List Kid} {v0 v1 : Value} {l2 : List Res} (H : Hold base w0 K0 w (l1 ++ nodeR b v0 v1 :: rowI v0 its :: rowN v1 kids :: .subs (h - 1) kids :: l2)) (hsh : Shape h its kids) (hf : ∀ x ∈ kids, Fit x) :
    ∃ k : Kid, k.b = b ∧ k.c = its.length ∧ k.L = inter its (kids.map Kid.L) ∧ Hold base w0 K0 w (l1 ++ .sub h k :: l2) := by
  have hu : ∀ x, one b x + blkN v0 x + blkN v1 x + owns kids x ≤ 1 := fun x => by
    have := H.uniq x
    simp only [total_append, total_cons, nodeR, rowI, rowN, foot_cell, foot_row, foot_sub, foot_subs] at this
    omega
  have hn : NodeAt base w ⟨b, its.length, inter its (kids.map Kid.L), fun x => one b x + blkN v0 x + blkN v1 x + owns kids x⟩ its kids v0 v1 :=
    ⟨(H.sat (nodeR b v0 v1) (by simp)).2, (H.sat (nodeR b v0 v1) (by simp)).1, H.sat (rowI v0 its) (by simp), H.sat (rowN v1 kids) (by simp), rfl, rfl, fun _ => rfl, hu⟩
  have hk : ∀ x ∈ kids, Sub base w (h - 1) x := H.sat (.subs (h - 1) kids) (by simp)
  refine ⟨⟨b, its.length, inter its (kids.map Kid.L), fun x => one b x + blkN v0 x + blkN v1 x + owns kids x⟩, rfl, rfl, rfl, H.conv (fun x => ?_) (fun r hr => ?_)⟩
  · simp only [total_append, total_cons, nodeR, rowI, rowN, foot_cell, foot_row, foot_sub, foot_subs]
    omega
  · simp only [List.mem_append, List.mem_cons] at hr
    rcases hr with hr | rfl | hr
    · exact H.sat r (by simp [hr])
    · refine Sub.shut hn ?_ hf
      rcases hsh with ⟨rfl, rfl⟩ | ⟨hp, hl⟩
      · rfl
      · obtain ⟨h', rfl⟩ : ∃ h', h = h' + 1 := ⟨h - 1, by omega⟩
        exact ⟨hl, hk⟩
    · exact H.sat r (by simp [hr])
/-- One of the nodes below. -/
theorem Hold.take {base : Nat} {w0 w : World} {K0 : Nat → Nat} (l1 : List Res) {h : Nat} {a : List Kid} {k : Kid} {d : List Kid} {l2 : List Res} (H : Hold base w0 K0 w (l1 ++ .subs h (a ++ k :: d) :: l2)) : Hold base w0 K0 w (l1 ++ .sub h k :: .subs h (a ++ d) :: l2) := by
  have hk : ∀ x ∈ a ++ k :: d, Sub base w h x := H.sat (.subs h (a ++ k :: d)) (by simp)
  refine H.conv (fun x => ?_) (fun r hr => ?_)
  · simp only [total_append, total_cons, foot_sub, foot_subs, owns_append, owns_cons]
    omega
  · simp only [List.mem_append, List.mem_cons] at hr
    rcases hr with hr | rfl | rfl | hr
    · exact H.sat r (by simp [hr])
    · exact hk k (by simp)
    · exact fun x hx => hk x (by simp at hx ⊢; rcases hx with h | h <;> simp [h])
    · exact H.sat r (by simp [hr])
theorem Hold.give {base : Nat} {w0 w : World} {K0 : Nat → Nat} (l1 : List Res) {h : Nat} (a : List Kid) {k : Kid} (d : List Kid) {l2 : List Res} (H : Hold base w0 K0 w (l1 ++ .sub h k :: .subs h (a ++ d) :: l2)) : Hold base w0 K0 w (l1 ++ .subs h (a ++ k :: d) :: l2) := by
  have hk : ∀ x ∈ a ++ d, Sub base w h x := H.sat (.subs h (a ++ d)) (by simp)
  have hk2 : Sub base w h k := H.sat (.sub h k) (by simp)
  refine H.conv (fun x => ?_) (fun r hr => ?_)
  · simp only [total_append, total_cons, foot_sub, foot_subs, owns_append, owns_cons]
    omega
  · simp only [List.mem_append, List.mem_cons] at hr
    rcases hr with hr | rfl | hr
    · exact H.sat r (by simp [hr])
    · intro x hx
      simp at hx
      rcases hx with h1 | rfl | h1
      · exact hk x (by simp [h1])
      · exact hk2
      · exact hk x (by simp [h1])
    · exact H.sat r (by simp [hr])

/-- A piece comes to the front. -/
theorem Hold.front {base : Nat} {w0 w : World} {K0 : Nat → Nat} (l1 : List Res) {r : Res} {l2 : List Res} (H : Hold base w0 K0 w (l1 ++ r :: l2)) : Hold base w0 K0 w (r :: (l1 ++ l2)) :=
  H.conv (fun x => by simp only [total_append, total_cons]; omega) (fun q hq => H.sat q (by
    simp only [List.mem_append, List.mem_cons] at hq ⊢
    rcases hq with h | h | h
    · exact .inr (.inl h)
    · exact .inl h
    · exact .inr (.inr h)))
/-- Nodes in two parts. -/
theorem Hold.part {base : Nat} {w0 w : World} {K0 : Nat → Nat} (l1 : List Res) {h : Nat} {a d : List Kid} {l2 : List Res} (H : Hold base w0 K0 w (l1 ++ .subs h (a ++ d) :: l2)) : Hold base w0 K0 w (l1 ++ .subs h a :: .subs h d :: l2) := by
  have hk : ∀ x ∈ a ++ d, Sub base w h x := H.sat (.subs h (a ++ d)) (by simp)
  refine H.conv (fun x => ?_) (fun r hr => ?_)
  · simp only [total_append, total_cons, foot_sub, foot_subs, owns_append, owns_cons]
    omega
  · simp only [List.mem_append, List.mem_cons] at hr
    rcases hr with hr | rfl | rfl | hr
    · exact H.sat r (by simp [hr])
    · exact fun x hx => hk x (by simp [hx])
    · exact fun x hx => hk x (by simp [hx])
    · exact H.sat r (by simp [hr])
theorem Hold.join {base : Nat} {w0 w : World} {K0 : Nat → Nat} (l1 : List Res) {h : Nat} {a d : List Kid} {l2 : List Res} (H : Hold base w0 K0 w (l1 ++ .subs h a :: .subs h d :: l2)) : Hold base w0 K0 w (l1 ++ .subs h (a ++ d) :: l2) := by
  have hk : ∀ x ∈ a, Sub base w h x := H.sat (.subs h a) (by simp)
  have hk2 : ∀ x ∈ d, Sub base w h x := H.sat (.subs h d) (by simp)
  refine H.conv (fun x => ?_) (fun r hr => ?_)
  · simp only [total_append, total_cons, foot_sub, foot_subs, owns_append, owns_cons]
    omega
  · simp only [List.mem_append, List.mem_cons] at hr
    rcases hr with hr | rfl | hr
    · exact H.sat r (by simp [hr])
    · intro x hx
      rcases List.mem_append.1 hx with h1 | h1
      · exact hk x h1
      · exact hk2 x h1
    · exact H.sat r (by simp [hr])
theorem rowN_congr {v : Value} {a b : List Kid} (h : a.map Kid.b = b.map Kid.b) : rowN v a = rowN v b := by
  have e : ∀ l : List Kid, (l.map fun y => ptrV y.b) = (l.map Kid.b).map ptrV := fun l => by rw [List.map_map]; rfl
  have hl : a.length = b.length := by have := congrArg List.length h; simpa using this
  unfold rowN
  rw [e, e, h, hl]

/-- A tree, to begin with. -/
theorem Hold.start {base : Nat} {w : World} {h : Nat} {k : Kid} (hs : Sub base w h k) : Hold base w k.own w [.sub h k] :=
  ⟨fun r hr => by simp at hr; subst hr; exact hs, fun x => by rw [total_cons, total_nil, foot_sub]; have := hs.uniq x; omega, fun x _ => by rw [total_cons, total_nil, foot_sub]; omega, Kept.refl _ w⟩

end Go.Proofs.YtjpmomklkkifjaaGreatDoor.T
