/-
  What a call owns, piece by piece: blocks and rows; no two of them share a block; all else is as it was. Plain facts.
-/
import Derived.Below
import Derived.Maps.AppendAt
import Derived.Deep.Draws
import Derived.Laws.CopyOwn
import Derived.Laws.MakeOwn
namespace Go.Proofs.Ytcjfhfalffngjaa
open Go.RowKit
set_option linter.unusedSimpArgs false
set_option linter.unusedVariables false

theorem hide {p : Prop} (h : p) : Hid p := h
theorem unhide {p : Prop} (h : Hid p) : p := h

/-- All blocks that were there are as they were, but those of S. -/
structure Kept (S : Nat → Prop) (w w' : World) : Prop where
  os : w'.os = w.os
  tape : w'.tape = w.tape
  output : w'.output = w.output
  size : w.heap.size ≤ w'.heap.size
  block : ∀ k, k < w.heap.size → ¬ S k → w'.heap[k]? = w.heap[k]?

theorem Kept.refl (S : Nat → Prop) (w : World) : Kept S w w := ⟨rfl, rfl, rfl, Nat.le_refl _, fun _ _ _ => rfl⟩
theorem Kept.trans {S T : Nat → Prop} {a b c : World} (h : Kept S a b) (k : Kept T b c) (hT : ∀ x, x < a.heap.size → T x → S x) : Kept S a c :=
  ⟨k.os.trans h.os, k.tape.trans h.tape, k.output.trans h.output, Nat.le_trans h.size k.size,
    fun i hi hs => (k.block i (Nat.lt_of_lt_of_le hi h.size) (fun ht => hs (hT i hi ht))).trans (h.block i hi hs)⟩
theorem Kept.mono {S T : Nat → Prop} {w w' : World} (h : Kept S w w') (hT : ∀ x, x < w.heap.size → S x → T x) : Kept T w w' :=
  ⟨h.os, h.tape, h.output, h.size, fun k hk ht => h.block k hk (fun hs => ht (hT k hk hs))⟩
theorem Kept.drew {S : Nat → Prop} {a w : World} (h : Kept S a w) : Kept S a w.drew := ⟨h.os, h.tape, h.output, h.size, h.block⟩
theorem Kept.drewN {S : Nat → Prop} {a w : World} (n : Nat) (h : Kept S a w) : Kept S a (w.drewN n) := ⟨h.os, h.tape, h.output, h.size, h.block⟩
theorem Kept.alloc {S : Nat → Prop} {a w : World} (h : Kept S a w) (o : Obj) : Kept S a (w.alloc o) :=
  ⟨h.os, h.tape, h.output, Nat.le_trans h.size (by simp), fun k hk hs => (Below.heap_alloc _ _ _ (Nat.lt_of_lt_of_le hk h.size)).trans (h.block k hk hs)⟩
theorem Kept.setCell {S : Nat → Prop} {a w : World} (h : Kept S a w) {p : Addr} (hp : p.block < a.heap.size → S p.block) (u : Value) : Kept S a (w.setCell p u) :=
  ⟨h.os, h.tape, h.output, Nat.le_trans h.size (by simp [World.setCell]), fun k hk hs => (Below.heap_setCell _ _ _ _ (fun e => hs (by subst e; exact hp hk))).trans (h.block k hk hs)⟩
theorem Kept.grown {S : Nat → Prop} {a w w' : World} {row : Option Nat} (h : Kept S a w) (hg : w.grownBy w' row) (hr : ∀ k, row = some k → k < a.heap.size → S k) : Kept S a w' :=
  ⟨hg.os.trans h.os, hg.tape.trans h.tape, hg.output.trans h.output, Nat.le_trans h.size hg.size,
    fun k hk hs => (hg.block k (Nat.lt_of_lt_of_le hk h.size) (fun e => hs (hr k e.symm hk))).trans (h.block k hk hs)⟩
theorem Kept.of_below {S : Nat → Prop} {w w' : World} (h : Below w.heap.size w w') : Kept S w w' := ⟨h.os, h.tape, h.output, h.size, fun k hk _ => h.block k hk⟩
theorem Kept.below {S : Nat → Prop} {B : Nat} {w w' : World} (h : Kept S w w') (hB : B ≤ w.heap.size) (hS : ∀ x, S x → B ≤ x) : Below B w w' :=
  ⟨h.os, h.tape, h.output, h.size, fun k hk => h.block k (by omega) (fun hs => by have := hS k hs; omega)⟩
theorem Kept.cell {S : Nat → Prop} {w w' : World} (h : Kept S w w') {p : Addr} (hp : p.block < w.heap.size) (hs : ¬ S p.block) : w'.cell? p = w.cell? p :=
  World.cell?_of_block (w := w) (h.block p.block hp hs)
theorem Kept.frozen {S : Nat → Prop} {w w' : World} (h : Kept S w w') {p : Addr} (hp : p.block < w.heap.size) (hs : ¬ S p.block) : w'.frozen? p = w.frozen? p :=
  World.frozen?_of_block (w := w) (h.block p.block hp hs)
theorem Kept.row {S : Nat → Prop} {w w' : World} (h : Kept S w w') {base : Nat} {e : TypeId} {size : Nat} {v : Value} {n : Nat} {xs : List Value} (ho : w.ownsRow base e size v n xs) (hs : ∀ k, v.ownBlock = some k → ¬ S k) : w'.ownsRow base e size v n xs := by
  refine ⟨ho.1, ?_⟩
  rcases ho.2 with hn | ⟨g, cap, cur, rfl, hb, hgg, rest⟩
  · exact .inl hn
  · refine .inr ⟨g, cap, cur, rfl, hb, ?_, rest⟩
    rw [h.block g (Array.getElem?_eq_some_iff.1 hgg).1 (hs g rfl)]
    exact hgg

def one (b x : Nat) : Nat := if x = b then 1 else 0
def blkN (v : Value) (x : Nat) : Nat := if v.ownBlock = some x then 1 else 0
theorem blkN_pos {v : Value} {x : Nat} : 0 < blkN v x ↔ v.ownBlock = some x := by unfold blkN; split <;> simp_all
theorem one_pos {b x : Nat} : 0 < one b x ↔ x = b := by unfold one; split <;> simp_all
theorem one_self (b : Nat) : one b b = 1 := by simp [one]
theorem blkN_self {v : Value} {x : Nat} (h : v.ownBlock = some x) : blkN v x = 1 := by simp [blkN, h]
theorem one_le (b x : Nat) : one b x ≤ 1 := by unfold one; split <;> omega
theorem blkN_le (v : Value) (x : Nat) : blkN v x ≤ 1 := by unfold blkN; split <;> omega

/-- A piece of memory. -/
inductive Res where
  | cell (b : Nat) (t : TypeId) (vs : List Value)
  | row (v : Value) (e : TypeId) (k n : Nat) (xs : List Value)
  | obj (b : Nat) (o : Obj)

def Res.foot : Res → Nat → Nat
  | .cell b _ _, x => one b x
  | .row v _ _ _ _, x => blkN v x
  | .obj b _, x => one b x
theorem foot_le (r : Res) (x : Nat) : r.foot x ≤ 1 := by cases r; exact one_le _ _; exact blkN_le _ _; exact one_le _ _
def Res.Sat (base : Nat) (w : World) : Res → Prop
  | .cell b t vs => base ≤ b ∧ w.heap[b]? = some (.cells vs.toArray t (0, 0))
  | .row v e k n xs => w.ownsRow base e k v n xs
  | .obj b o => base ≤ b ∧ w.heap[b]? = some o

def total (rs : List Res) (x : Nat) : Nat := (rs.map fun r => r.foot x).sum
theorem total_nil (x : Nat) : total [] x = 0 := rfl
theorem total_cons (r : Res) (rs : List Res) (x : Nat) : total (r :: rs) x = r.foot x + total rs x := by simp [total]
theorem total_append (a b : List Res) (x : Nat) : total (a ++ b) x = total a x + total b x := by simp [total]
theorem total_mem {r : Res} {rs : List Res} (h : r ∈ rs) (x : Nat) : r.foot x ≤ total rs x := by
  induction rs with
  | nil => simp at h
  | cons a l ih =>
    rw [total_cons]
    rcases List.mem_cons.1 h with h | h
    · subst h; omega
    · have := ih h; omega

/-- What is owned, in the world w; all that was in w0 is as it was. -/
structure Hold (w0 w : World) (rs : List Res) : Prop where
  sat : ∀ r ∈ rs, r.Sat w0.heap.size w
  uniq : ∀ x, total rs x ≤ 1
  below : Below w0.heap.size w0 w

theorem Res.Sat.range {base : Nat} {w : World} {r : Res} (h : r.Sat base w) (x : Nat) (hx : 0 < r.foot x) : base ≤ x ∧ x < w.heap.size := by
  cases r with
  | cell b t vs =>
    obtain rfl := one_pos.1 hx
    exact ⟨h.1, (Array.getElem?_eq_some_iff.1 h.2).1⟩
  | row v e k n xs => exact World.ownsRow.lt h x (blkN_pos.1 hx)
  | obj b o =>
    obtain rfl := one_pos.1 hx
    exact ⟨h.1, (Array.getElem?_eq_some_iff.1 h.2).1⟩
theorem Res.Sat.kept {base : Nat} {w w' : World} {S : Nat → Prop} {r : Res} (h : r.Sat base w) (hk : Kept S w w') (hs : ∀ x, 0 < r.foot x → ¬ S x) : r.Sat base w' := by
  cases r with
  | cell b t vs => exact ⟨h.1, (hk.block b (Array.getElem?_eq_some_iff.1 h.2).1 (hs b (by show 0 < one b b; rw [one_self]; decide))).trans h.2⟩
  | row v e k n xs => exact hk.row h fun x hx => hs x (blkN_pos.2 hx)
  | obj b o => exact ⟨h.1, (hk.block b (Array.getElem?_eq_some_iff.1 h.2).1 (hs b (by show 0 < one b b; rw [one_self]; decide))).trans h.2⟩

section
variable {w0 w : World}
theorem Hold.init (W : World) : Hold W W [] := ⟨fun r hr => by simp at hr, fun x => by rw [total_nil]; omega, Below.refl _ _⟩
theorem Hold.size {rs : List Res} (h : Hold w0 w rs) : w0.heap.size ≤ w.heap.size := h.below.size
/-- Beyond the heap's end nothing is owned. -/
theorem Hold.beyond {rs : List Res} (h : Hold w0 w rs) {x : Nat} (hx : w.heap.size ≤ x) : total rs x = 0 := by
  have key : ∀ l : List Res, (∀ r ∈ l, r.Sat w0.heap.size w) → total l x = 0 := by
    intro l
    induction l with
    | nil => intro _; rfl
    | cons a l ih =>
      intro hl
      rw [total_cons, ih fun r hr => hl r (by simp [hr])]
      have := (hl a (by simp)).range x
      omega
  exact key rs h.sat
/-- The same pieces, told otherwise. -/
theorem Hold.conv {rs rs' : List Res} (h : Hold w0 w rs) (ht : ∀ x, total rs' x ≤ total rs x) (hs : ∀ r ∈ rs', r.Sat w0.heap.size w) : Hold w0 w rs' :=
  ⟨hs, fun x => Nat.le_trans (ht x) (h.uniq x), h.below⟩
theorem Hold.beneath {rs : List Res} (h : Hold w0 w rs) {r : Res} (hr : r ∈ rs) {x : Nat} (hx : 0 < r.foot x) : w0.heap.size ≤ x := ((h.sat r hr).range x hx).1
/-- One piece has turned. -/
theorem Hold.put {w' : World} (l1 : List Res) {r r' : Res} {l2 : List Res} (h : Hold w0 w (l1 ++ r :: l2)) (hk : Kept (fun x => 0 < r.foot x) w w') (hs : r'.Sat w0.heap.size w') (hf : ∀ x, x < w.heap.size → r'.foot x ≤ r.foot x) : Hold w0 w' (l1 ++ r' :: l2) := by
  have hsz := h.size
  have key : ∀ x, x < w.heap.size → total (l1 ++ r' :: l2) x ≤ total (l1 ++ r :: l2) x := fun x hx => by
    have := hf x hx
    simp only [total_append, total_cons]
    omega
  refine ⟨fun q hq => ?_, fun x => ?_, h.below.trans (hk.below hsz fun x hx => h.beneath (r := r) (by simp) hx)⟩
  · have other : ∀ q, (q ∈ l1 ∨ q ∈ l2) → q.Sat w0.heap.size w' := fun q hq => by
      refine (h.sat q (by rcases hq with h | h <;> simp [h])).kept hk fun x hx h2 => ?_
      have h3 := h.uniq x
      simp only [total_append, total_cons] at h3
      rcases hq with hq | hq
      · have := total_mem hq x; omega
      · have := total_mem hq x; omega
    rcases List.mem_append.1 hq with hq | hq
    · exact other q (.inl hq)
    · rcases List.mem_cons.1 hq with hq | hq
      · subst hq; exact hs
      · exact other q (.inr hq)
  · rcases Nat.lt_or_ge x w.heap.size with hx | hx
    · exact Nat.le_trans (key x hx) (h.uniq x)
    · have h3 := h.beyond hx
      simp only [total_append, total_cons] at h3 ⊢
      have := foot_le r' x
      omega
/-- Nothing of what is owned has turned. -/
theorem Hold.keep {w' : World} {rs : List Res} (h : Hold w0 w rs) (hk : Kept (fun _ => False) w w') : Hold w0 w' rs :=
  ⟨fun q hq => (h.sat q hq).kept hk fun _ _ h => h, h.uniq, h.below.trans (hk.below h.size fun _ hx => hx.elim)⟩
theorem Hold.over {w' : World} {rs : List Res} (h : Hold w0 w rs) (hk : Below w.heap.size w w') : Hold w0 w' rs := h.keep (Kept.of_below hk)
theorem Hold.drew {rs : List Res} (h : Hold w0 w rs) : Hold w0 w.drew rs := h.keep (Kept.refl _ w).drew
theorem Hold.drewN {rs : List Res} (h : Hold w0 w rs) (n : Nat) : Hold w0 (w.drewN n) rs := h.keep ((Kept.refl _ w).drewN n)
theorem Hold.alloc {rs : List Res} (h : Hold w0 w rs) (o : Obj) : Hold w0 (w.alloc o) rs := h.keep ((Kept.refl _ w).alloc o)
/-- A new piece. -/
theorem Hold.new {w' : World} {rs : List Res} (h : Hold w0 w rs) {r : Res} (hk : Kept (fun _ => False) w w') (hs : r.Sat w0.heap.size w') (hf : ∀ x, 0 < r.foot x → w.heap.size ≤ x) : Hold w0 w' (r :: rs) := by
  have h' := h.keep hk
  have hsz := h.size
  refine ⟨fun q hq => ?_, fun x => ?_, h'.below⟩
  · rcases List.mem_cons.1 hq with hq | hq
    · subst hq; exact hs
    · exact h'.sat q hq
  · rw [total_cons]
    rcases Nat.lt_or_ge x w.heap.size with hx | hx
    · have := hf x; have := h.uniq x; omega
    · have := h.beyond hx; have := foot_le r x; omega
/-- A new block. -/
theorem Hold.made {rs : List Res} (h : Hold w0 w rs) (t : TypeId) (vs : List Value) : Hold w0 (w.alloc (.cells vs.toArray t)) (.cell w.heap.size t vs :: rs) :=
  h.new ((Kept.refl _ w).alloc _) ⟨h.size, heap_alloc_new w _⟩ (fun x hx => by obtain rfl := one_pos.1 hx; exact Nat.le_refl _)
/-- A row laid in a new block. -/
theorem Hold.lit {rs : List Res} (h : Hold w0 w rs) (e : TypeId) (k n : Nat) (xs : List Value) (hl : xs.length = n * k) (hn : n ≤ 1000) : Hold w0 (w.alloc (.cells xs.toArray e)) (.row (.slice (some ⟨w.heap.size, 0, none⟩) n n) e k n xs :: rs) :=
  h.new ((Kept.refl _ w).alloc _) ⟨hl, .inr ⟨w.heap.size, n, xs.toArray, rfl, h.size, heap_alloc_new w _, Nat.le_refl _, by unfold maxLen; omega, by simpa using hl, by show xs.take (n * k) = xs; rw [← hl]; exact List.take_length⟩⟩ (fun x hx => by have := blkN_pos.1 hx; rw [show (Value.slice (some ⟨w.heap.size, 0, none⟩) n n).ownBlock = some w.heap.size from rfl] at this; have := Option.some.inj this; omega)
/-- A piece is let go. -/
theorem Hold.forget (l1 : List Res) {r : Res} {l2 : List Res} (h : Hold w0 w (l1 ++ r :: l2)) : Hold w0 w (l1 ++ l2) :=
  h.conv (fun x => by simp only [total_append, total_cons]; omega) (fun q hq => h.sat q (by simp only [List.mem_append, List.mem_cons] at hq ⊢; rcases hq with h | h <;> simp [h]))
/-- Pieces in another order. -/
theorem Hold.perm {rs rs' : List Res} (h : Hold w0 w rs) (hp : rs'.Perm rs) : Hold w0 w rs' :=
  h.conv (fun x => by unfold total; rw [(hp.map _).sum_nat]; omega) (fun r hr => h.sat r (hp.mem_iff.1 hr))
/-- A piece comes to the front. -/
theorem Hold.front (l1 : List Res) {r : Res} {l2 : List Res} (H : Hold w0 w (l1 ++ r :: l2)) : Hold w0 w (r :: (l1 ++ l2)) :=
  H.perm (List.perm_middle.symm)
theorem Hold.back (l1 : List Res) {r : Res} {l2 : List Res} (H : Hold w0 w (r :: (l1 ++ l2))) : Hold w0 w (l1 ++ r :: l2) :=
  H.perm List.perm_middle

theorem foot_cell (b : Nat) (t : TypeId) (vs : List Value) (x : Nat) : (Res.cell b t vs).foot x = one b x := rfl
theorem foot_row (v : Value) (e : TypeId) (k n : Nat) (xs : List Value) (x : Nat) : (Res.row v e k n xs).foot x = blkN v x := rfl

/-- What a block holds. -/
theorem Hold.heapAt {rs : List Res} (h : Hold w0 w rs) {b : Nat} {t : TypeId} {vs : List Value} (hm : Res.cell b t vs ∈ rs) : w.heap[b]? = some (.cells vs.toArray t (0, 0)) := (h.sat _ hm).2
theorem Hold.cellAt {rs : List Res} (h : Hold w0 w rs) {b : Nat} {t : TypeId} {vs : List Value} (hm : Res.cell b t vs ∈ rs) {j : Nat} {v : Value} (hv : vs[j]? = some v) : w.cell? ⟨b, j, none⟩ = some v := by
  rw [cell_of_row w b j _ t (0, 0) (h.sat _ hm).2]
  simpa using hv
theorem Hold.frozenAt {rs : List Res} (h : Hold w0 w rs) {b : Nat} {t : TypeId} {vs : List Value} (hm : Res.cell b t vs ∈ rs) (j : Nat) : w.frozen? ⟨b, j, none⟩ = false :=
  frozen_of_row w b j _ t (h.sat _ hm).2
theorem Hold.ltAt {rs : List Res} (h : Hold w0 w rs) {b : Nat} {t : TypeId} {vs : List Value} (hm : Res.cell b t vs ∈ rs) : b < w.heap.size := (Array.getElem?_eq_some_iff.1 (h.sat _ hm).2).1
theorem Hold.rowAt {rs : List Res} (h : Hold w0 w rs) {v : Value} {e : TypeId} {k n : Nat} {xs : List Value} (hm : Res.row v e k n xs ∈ rs) : w.ownsRow w0.heap.size e k v n xs := h.sat _ hm

/-- A store into a block. -/
theorem Hold.store (l1 : List Res) {b : Nat} {t : TypeId} {vs : List Value} {l2 : List Res} (h : Hold w0 w (l1 ++ .cell b t vs :: l2)) (j : Nat) (u : Value) (vs' : List Value) (he : vs.set j u = vs') : Hold w0 (w.setCell ⟨b, j, none⟩ u) (l1 ++ .cell b t vs' :: l2) := by
  have hc := h.sat (.cell b t vs) (by simp)
  refine h.put l1 (Kept.setCell (Kept.refl _ w) (fun _ => by show 0 < one b b; rw [one_self]; decide) u) ⟨hc.1, ?_⟩ (fun x _ => Nat.le_refl _)
  rw [heap_setCell_same w b j _ t u hc.2, ← he]
  simp
/-- A row that a call has turned, or laid anew. -/
theorem Hold.grow {w' : World} (l1 : List Res) {v v' : Value} {e : TypeId} {k n n' : Nat} {xs ys : List Value} {l2 : List Res} (h : Hold w0 w (l1 ++ .row v e k n xs :: l2)) (hg : w.grownBy w' v.ownBlock) (hr : w'.ownsRow w0.heap.size e k v' n' ys) (ha : v'.ownBlock = v.ownBlock ∨ ∃ x, v'.ownBlock = some x ∧ w.heap.size ≤ x) : Hold w0 w' (l1 ++ .row v' e k n' ys :: l2) := by
  refine h.put l1 ((Kept.refl _ w).grown hg fun x hx _ => blkN_pos.2 hx) hr (fun x hx => ?_)
  show blkN v' x ≤ blkN v x
  unfold blkN
  rcases ha with ha | ⟨y, ha, hy⟩
  · rw [ha]; exact Nat.le_refl _
  · rw [ha]
    split
    · rename_i e; have := Option.some.inj e; omega
    · omega
theorem Hold.newRow {w' : World} {rs : List Res} (h : Hold w0 w rs) {v : Value} {e : TypeId} {k n : Nat} {xs : List Value} (hk : Below w.heap.size w w') (hr : w'.ownsRow w0.heap.size e k v n xs) (ha : ∀ x, v.ownBlock = some x → w.heap.size ≤ x) : Hold w0 w' (.row v e k n xs :: rs) :=
  h.new (Kept.of_below hk) hr (fun x hx => ha x (blkN_pos.1 hx))
theorem Hold.nilRow {rs : List Res} (h : Hold w0 w rs) (e : TypeId) (k : Nat) : Hold w0 w (.row (.slice none 0 0) e k 0 [] :: rs) :=
  h.new (Kept.refl _ w) (World.ownsRow_nil w _ e k) (fun x hx => by have := blkN_pos.1 hx; simp [Value.ownBlock] at this)

/-- Cells laid over a part of a row. -/
theorem Hold.lay (l1 : List Res) {g n cap : Nat} {e : TypeId} {k : Nat} {xs : List Value} {l2 : List Res} (h : Hold w0 w (l1 ++ .row (.slice (some ⟨g, 0, none⟩) n cap) e k n xs :: l2)) (off : Nat) (cs : List Value) (hfit : off + cs.length ≤ xs.length) (h1 : ∀ v ∈ cs, v.oneCell' = true) :
    ∃ w', (∀ P : Program, (storeCells ⟨g, off, none⟩ cs 0).run P w = .ok () w') ∧ Hold w0 w' (l1 ++ .row (.slice (some ⟨g, 0, none⟩) n cap) e k n (Go.splice xs off cs) :: l2) ∧ w.grownBy w' (some g) := by
  have hr : w.ownsRow w0.heap.size e k (.slice (some ⟨g, 0, none⟩) n cap) n xs := h.rowAt (by simp)
  rcases hr.2 with ⟨h3, _⟩ | ⟨g', cap', cur, hv, hb, hg, hnc, hcm, hcs, ht⟩
  · cases h3
  · cases hv
    have hlen := hr.1
    have hle : n * k ≤ cap * k := Nat.mul_le_mul_right _ hnc
    have hsp := fun P : Program => run_storeCells_at P g off e cs 0 cur w hg (by omega) h1
    refine ⟨_, fun P => by rw [hsp P], ?_⟩
    have hgr : w.grownBy (w.setRow g (cur.toList.take (off + 0) ++ cs ++ cur.toList.drop (off + 0 + cs.length)).toArray) (some g) := ⟨rfl, rfl, rfl, by simp, fun j _ hj => setRow_other w g j _ (fun e => hj (by rw [e]))⟩
    have hl2 : (cur.toList.take off ++ cs ++ cur.toList.drop (off + cs.length)).length = cur.size := by
      simp only [List.length_append, List.length_take, List.length_drop, Array.length_toList]
      omega
    refine ⟨h.grow l1 hgr ⟨by rw [length_splice _ _ _ hfit]; exact hlen, .inr ⟨g, cap, _, rfl, hb, setRow_heap w g cur _ e _ hg, hnc, hcm, by simpa using hl2.trans hcs, ?_⟩⟩ (.inl rfl), hgr⟩
    show (cur.toList.take (off + 0) ++ cs ++ cur.toList.drop (off + 0 + cs.length)).take (n * k) = Go.splice xs off cs
    unfold Go.splice
    rw [← ht] at hfit ⊢
    rw [Nat.add_zero, List.append_assoc, List.take_append, List.take_append]
    have hfit' : off + cs.length ≤ n * k := by
      rw [List.length_take] at hfit; omega
    have e1 : ((cur.toList.take off).take (n * k)) = (cur.toList.take (n * k)).take off := by rw [List.take_take, List.take_take, Nat.min_comm]
    have e2 : cs.take (n * k - (cur.toList.take off).length) = cs := List.take_of_length_le (by rw [List.length_take]; omega)
    have e3 : (cur.toList.drop (off + cs.length)).take (n * k - (cur.toList.take off).length - cs.length) = (cur.toList.take (n * k)).drop (off + cs.length) := by
      rw [List.drop_take]
      congr 1
      rw [List.length_take, Array.length_toList]
      omega
    rw [e1, e2, e3]
/-- A cell of a row. -/
theorem Hold.rowCell {rs : List Res} (h : Hold w0 w rs) {g n cap : Nat} {e : TypeId} {k : Nat} {xs : List Value} (hm : Res.row (.slice (some ⟨g, 0, none⟩) n cap) e k n xs ∈ rs) {j : Nat} {v : Value} (hv : xs[j]? = some v) : w.cell? ⟨g, j, none⟩ = some v := by
  have := (h.rowAt hm).cells (g := g) rfl j v hv
  rwa [show (⟨g, 0, none⟩ : Addr).add j = ⟨g, j, none⟩ by unfold Addr.add; split <;> simp_all] at this
theorem Hold.rowFrozen {rs : List Res} (h : Hold w0 w rs) {g n cap : Nat} {e : TypeId} {k : Nat} {xs : List Value} (hm : Res.row (.slice (some ⟨g, 0, none⟩) n cap) e k n xs ∈ rs) (j : Nat) : w.frozen? ⟨g, j, none⟩ = false := by
  rcases (h.rowAt hm).2 with ⟨h3, _⟩ | ⟨g', cap', cur, hv, hb, hg, _⟩
  · cases h3
  · cases hv
    exact frozen_of_row w g j _ e hg
/-- What a row's value looks like. -/
theorem row_shape {base : Nat} {e : TypeId} {k : Nat} {v : Value} {n : Nat} {xs : List Value} (h : w.ownsRow base e k v n xs) (hn : 0 < n) : ∃ g cap, v = .slice (some ⟨g, 0, none⟩) n cap ∧ n ≤ cap ∧ cap ≤ 9223372036854775807 := by
  rcases h.2 with ⟨_, rfl⟩ | ⟨g, cap, cur, rfl, _, _, hc, hm, _⟩
  · omega
  · exact ⟨g, cap, rfl, hc, by unfold maxLen at hm; omega⟩
theorem row_slice {base : Nat} {e : TypeId} {k : Nat} {v : Value} {n : Nat} {xs : List Value} (h : w.ownsRow base e k v n xs) : ∃ p cap, v = .slice p n cap ∧ n ≤ cap ∧ cap ≤ 9223372036854775807 := by
  rcases h.2 with ⟨rfl, rfl⟩ | ⟨g, cap, cur, rfl, _, _, hc, hm, _⟩
  · exact ⟨_, _, rfl, by omega, by omega⟩
  · exact ⟨_, cap, rfl, hc, by unfold maxLen at hm; omega⟩
end

/-! Rows of elements of k cells each. -/
section
variable {α : Type} {k : Nat}
theorem chunk_len {L : List (List α)} (h : ∀ x ∈ L, x.length = k) : L.flatten.length = L.length * k := by
  induction L with
  | nil => simp
  | cons a l ih =>
    rw [List.flatten_cons, List.length_append, ih fun x hx => h x (by simp [hx]), h a (by simp), List.length_cons, Nat.succ_mul, Nat.add_comm]
theorem chunk_drop {L : List (List α)} (h : ∀ x ∈ L, x.length = k) (i : Nat) : L.flatten.drop (i * k) = (L.drop i).flatten := by
  induction L generalizing i with
  | nil => simp
  | cons a l ih =>
    cases i with
    | zero => simp
    | succ i =>
      have ha := h a (by simp)
      rw [List.flatten_cons, Nat.succ_mul, List.drop_append, List.drop_eq_nil_of_le (by omega), List.nil_append, ha, Nat.add_sub_cancel, ih (fun x hx => h x (by simp [hx]))]
      rfl
theorem chunk_take {L : List (List α)} (h : ∀ x ∈ L, x.length = k) (i : Nat) : L.flatten.take (i * k) = (L.take i).flatten := by
  induction L generalizing i with
  | nil => simp
  | cons a l ih =>
    cases i with
    | zero => simp
    | succ i =>
      have ha := h a (by simp)
      rw [List.flatten_cons, Nat.succ_mul, List.take_append, List.take_of_length_le (by omega), ha, Nat.add_sub_cancel, ih (fun x hx => h x (by simp [hx]))]
      rfl
/-- The j-th cell of the i-th element. -/
theorem chunk_get {L : List (List α)} (h : ∀ x ∈ L, x.length = k) {i : Nat} {c : List α} (hc : L[i]? = some c) {j : Nat} {v : α} (hv : c[j]? = some v) : L.flatten[i * k + j]? = some v := by
  rw [← List.getElem?_drop, chunk_drop h]
  obtain ⟨hi, rfl⟩ := List.getElem?_eq_some_iff.1 hc
  rw [List.drop_eq_getElem_cons hi, List.flatten_cons, List.getElem?_append_left (List.getElem?_eq_some_iff.1 hv).1]
  exact hv
/-- One element in another's place. -/
theorem chunk_splice {L : List (List α)} (h : ∀ x ∈ L, x.length = k) {i : Nat} (hi : i < L.length) {c : List α} (hc : c.length = k) : Go.splice L.flatten (i * k) c = (L.set i c).flatten := by
  unfold Go.splice
  rw [hc, ← Nat.succ_mul, chunk_take h, chunk_drop h, List.set_eq_take_append_cons_drop, if_pos hi]
  simp
end
#print axioms Hold.lay
#print axioms chunk_splice
end Go.Proofs.Ytcjfhfalffngjaa
