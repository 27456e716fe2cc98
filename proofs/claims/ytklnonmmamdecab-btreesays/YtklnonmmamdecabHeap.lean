/-
  How a tree lies in memory: which blocks are its own, what is kept where only its own blocks are written. Plain facts.
-/
import Derived.Below
import Derived.Maps.AppendAt
import Derived.Deep.Draws
import Derived.Test.YtklnonmmamdecabPure
namespace Go.Proofs.Ytklnonmmamdecab
open Go.RowKit

/-- All blocks that were there are as they were, but those of S. -/
structure Kept (S : Nat → Prop) (w w' : World) : Prop where
  os : w'.os = w.os
  tape : w'.tape = w.tape
  output : w'.output = w.output
  size : w.heap.size ≤ w'.heap.size
  block : ∀ k, k < w.heap.size → ¬ S k → w'.heap[k]? = w.heap[k]?

theorem Kept.refl (S : Nat → Prop) (w : World) : Kept S w w := ⟨rfl, rfl, rfl, Nat.le_refl _, fun _ _ _ => rfl⟩
theorem Kept.trans {S T : Nat → Prop} {a b c : World} (h : Kept S a b) (k : Kept T b c) (hT : ∀ x, x < a.heap.size → T x → S x) : Kept S a c :=
  ⟨k.os.trans h.os, k.tape.trans h.tape, k.output.trans h.output, Nat.le_trans h.size k.size,
    fun i hi hs => (k.block i (Nat.lt_of_lt_of_le hi h.size) (fun ht => hs (hT i hi ht))).trans (h.block i hi hs)⟩
theorem Kept.mono {S T : Nat → Prop} {w w' : World} (h : Kept S w w') (hT : ∀ x, x < w.heap.size → S x → T x) : Kept T w w' :=
  ⟨h.os, h.tape, h.output, h.size, fun k hk ht => h.block k hk (fun hs => ht (hT k hk hs))⟩
theorem Kept.drew {S : Nat → Prop} {a w : World} (h : Kept S a w) : Kept S a w.drew := ⟨h.os, h.tape, h.output, h.size, h.block⟩
theorem Kept.drewN {S : Nat → Prop} {a w : World} (n : Nat) (h : Kept S a w) : Kept S a (w.drewN n) := ⟨h.os, h.tape, h.output, h.size, h.block⟩
theorem Kept.alloc {S : Nat → Prop} {a w : World} (h : Kept S a w) (o : Obj) : Kept S a (w.alloc o) :=
  ⟨h.os, h.tape, h.output, Nat.le_trans h.size (by simp), fun k hk hs => (Below.heap_alloc _ _ _ (Nat.lt_of_lt_of_le hk h.size)).trans (h.block k hk hs)⟩
theorem Kept.setCell {S : Nat → Prop} {a w : World} (h : Kept S a w) {p : Addr} (hp : p.block < a.heap.size → S p.block) (u : Value) : Kept S a (w.setCell p u) :=
  ⟨h.os, h.tape, h.output, Nat.le_trans h.size (by simp [World.setCell]), fun k hk hs => (Below.heap_setCell _ _ _ _ (fun e => hs (by subst e; exact hp hk))).trans (h.block k hk hs)⟩
theorem Kept.grown {S : Nat → Prop} {a w w' : World} {row : Option Nat} (h : Kept S a w) (hg : w.grownBy w' row) (hr : ∀ k, row = some k → k < a.heap.size → S k) : Kept S a w' :=
  ⟨hg.os.trans h.os, hg.tape.trans h.tape, hg.output.trans h.output, Nat.le_trans h.size hg.size,
    fun k hk hs => (hg.block k (Nat.lt_of_lt_of_le hk h.size) (fun e => hs (hr k e.symm hk))).trans (h.block k hk hs)⟩
theorem Kept.of_below {S : Nat → Prop} {w w' : World} (h : Below w.heap.size w w') : Kept S w w' := ⟨h.os, h.tape, h.output, h.size, fun k hk _ => h.block k hk⟩
theorem Kept.below {S : Nat → Prop} {B : Nat} {w w' : World} (h : Kept S w w') (hB : B ≤ w.heap.size) (hS : ∀ x, S x → B ≤ x) : Below B w w' :=
  ⟨h.os, h.tape, h.output, h.size, fun k hk => h.block k (by omega) (fun hs => by have := hS k hs; omega)⟩
theorem Kept.cell {S : Nat → Prop} {w w' : World} (h : Kept S w w') {p : Addr} (hp : p.block < w.heap.size) (hs : ¬ S p.block) : w'.cell? p = w.cell? p :=
  World.cell?_of_block (w := w) (h.block p.block hp hs)
theorem Kept.frozen {S : Nat → Prop} {w w' : World} (h : Kept S w w') {p : Addr} (hp : p.block < w.heap.size) (hs : ¬ S p.block) : w'.frozen? p = w.frozen? p :=
  World.frozen?_of_block (w := w) (h.block p.block hp hs)
theorem Kept.row {S : Nat → Prop} {w w' : World} (h : Kept S w w') {base : Nat} {e : TypeId} {size : Nat} {v : Value} {n : Nat} {xs : List Value} (ho : w.ownsRow base e size v n xs) (hs : ∀ k, v.ownBlock = some k → ¬ S k) : w'.ownsRow base e size v n xs := by
  refine ⟨ho.1, ?_⟩
  rcases ho.2 with hn | ⟨g, cap, cur, rfl, hb, hgg, rest⟩
  · exact .inl hn
  · refine .inr ⟨g, cap, cur, rfl, hb, ?_, rest⟩
    rw [h.block g (Array.getElem?_eq_some_iff.1 hgg).1 (hs g rfl)]
    exact hgg

/-- An entry's three cells. -/
def cellsOf (it : Item) : List Value := [.string it.key, .string it.name, .int .i64 it.node]
def flat (l : List Item) : List Value := l.flatMap cellsOf
theorem flat_nil : flat [] = [] := rfl
theorem flat_cons (x : Item) (l : List Item) : flat (x :: l) = .string x.key :: .string x.name :: .int .i64 x.node :: flat l := rfl
theorem flat_append (a b : List Item) : flat (a ++ b) = flat a ++ flat b := by simp [flat]
theorem flat_length (l : List Item) : (flat l).length = l.length * 3 := by
  induction l with
  | nil => rfl
  | cons x l ih => rw [flat_cons]; simp [ih]; omega
theorem flat_take (l : List Item) (n : Nat) : (flat l).take (n * 3) = flat (l.take n) := by
  induction l generalizing n with
  | nil => simp [flat]
  | cons x l ih =>
    cases n with
    | zero => simp [flat]
    | succ n => rw [show (n + 1) * 3 = n * 3 + 1 + 1 + 1 by omega]; simp only [flat_cons, List.take_succ_cons, ih]
theorem flat_drop (l : List Item) (n : Nat) : (flat l).drop (n * 3) = flat (l.drop n) := by
  induction l generalizing n with
  | nil => simp [flat]
  | cons x l ih =>
    cases n with
    | zero => simp [flat]
    | succ n => rw [show (n + 1) * 3 = n * 3 + 1 + 1 + 1 by omega]; simp only [flat_cons, List.drop_succ_cons, ih]
theorem flat_get (l : List Item) (i : Nat) (h : i < l.length) : (flat l)[i * 3]? = some (.string (l[i]).key) ∧ (flat l)[i * 3 + 1]? = some (.string (l[i]).name) ∧ (flat l)[i * 3 + 2]? = some (.int .i64 (l[i]).node) := by
  induction l generalizing i with
  | nil => simp at h
  | cons x l ih =>
    cases i with
    | zero => simp [flat_cons]
    | succ i =>
      have := ih i (by simpa using h)
      rw [show (i + 1) * 3 = i * 3 + 1 + 1 + 1 by omega]
      simp only [flat_cons, List.getElem_cons_succ]
      simpa using this
theorem flat_one (l : List Item) : ∀ u ∈ flat l, u.oneCell' = true := by
  intro u hu
  obtain ⟨x, _, hx⟩ := List.mem_flatMap.1 hu
  simp [cellsOf] at hx
  rcases hx with rfl | rfl | rfl <;> rfl
/-- An entry in another's place. -/
theorem flat_set (l : List Item) (i : Nat) (x : Item) (h : i < l.length) : (((flat l).set (i * 3) (.string x.key)).set (i * 3 + 1) (.string x.name)).set (i * 3 + 2) (.int .i64 x.node) = flat (l.set i x) := by
  induction l generalizing i with
  | nil => simp at h
  | cons y l ih =>
    cases i with
    | zero => simp [flat_cons]
    | succ i =>
      have := ih i (by simpa using h)
      rw [show (i + 1) * 3 = i * 3 + 1 + 1 + 1 by omega]
      simp only [flat_cons, List.set_cons_succ, ← this]

def ptrV (b : Nat) : Value := .pointer (some ⟨b, 0, none⟩)

/-- A node: its block, how many entries it has itself, all entries from it on, and which blocks are its own (each once). -/
structure Kid where
  b : Nat
  c : Nat
  L : List Item
  own : Nat → Nat

def one (b x : Nat) : Nat := if x = b then 1 else 0
def blkN (v : Value) (x : Nat) : Nat := if v.ownBlock = some x then 1 else 0
def owns (kids : List Kid) (x : Nat) : Nat := (kids.map fun y => y.own x).sum
theorem owns_nil (x : Nat) : owns [] x = 0 := rfl
theorem owns_cons (k : Kid) (l : List Kid) (x : Nat) : owns (k :: l) x = k.own x + owns l x := by simp [owns]
theorem owns_append (a b : List Kid) (x : Nat) : owns (a ++ b) x = owns a x + owns b x := by simp [owns]
theorem owns_mem {l : List Kid} {k : Kid} (h : k ∈ l) (x : Nat) : k.own x ≤ owns l x := by
  induction l with
  | nil => simp at h
  | cons a l ih =>
    rw [owns_cons]
    rcases List.mem_cons.1 h with h | h
    · subst h; omega
    · have := ih h; omega

theorem owns_some {x : Nat} : ∀ {l : List Kid}, 0 < owns l x → ∃ y ∈ l, 0 < y.own x
  | [], h => by simp [owns_nil] at h
  | a :: l, h => by
    rw [owns_cons] at h
    by_cases h5 : 0 < a.own x
    · exact ⟨a, by simp, h5⟩
    · obtain ⟨y, hy, h6⟩ := owns_some (l := l) (x := x) (by omega)
      exact ⟨y, by simp [hy], h6⟩

/-- A node lies in memory: its own entries, the nodes below it. -/
structure NodeAt (base : Nat) (w : World) (k : Kid) (its : List Item) (kids : List Kid) (v0 v1 : Value) : Prop where
  cell : w.heap[k.b]? = some (.cells #[v0, v1] 53 (0, 0))
  low : base ≤ k.b
  items : w.ownsRow base 58 3 v0 its.length (flat its)
  below : w.ownsRow base 49 1 v1 kids.length (kids.map fun y => ptrV y.b)
  c : k.c = its.length
  L : k.L = inter its (kids.map Kid.L)
  own : ∀ x, k.own x = one k.b x + blkN v0 x + blkN v1 x + owns kids x
  uniq : ∀ x, k.own x ≤ 1

/-- What lies below a node: nothing, or nodes that are as deep as each other. -/
def Sub (base : Nat) (w : World) : Nat → Kid → Prop
  | 0, k => ∃ its v0 v1, NodeAt base w k its [] v0 v1
  | h + 1, k => ∃ its kids v0 v1, NodeAt base w k its kids v0 v1 ∧ kids.length = its.length + 1 ∧ ∀ x ∈ kids, 1 ≤ x.c ∧ x.c ≤ 3 ∧ Sub base w h x
/-- The nodes below one, however many entries each has. -/
def Kids (base : Nat) (w : World) : Nat → List Item → List Kid → Prop
  | 0, _, kids => kids = []
  | h + 1, its, kids => kids.length = its.length + 1 ∧ ∀ x ∈ kids, Sub base w h x
def Fit (k : Kid) : Prop := 1 ≤ k.c ∧ k.c ≤ 3

theorem Sub.open {base : Nat} {w : World} {h : Nat} {k : Kid} (hs : Sub base w h k) : ∃ its kids v0 v1, NodeAt base w k its kids v0 v1 ∧ Kids base w h its kids ∧ ∀ x ∈ kids, Fit x := by
  cases h with
  | zero =>
    obtain ⟨its, v0, v1, hn⟩ := hs
    exact ⟨its, [], v0, v1, hn, rfl, by simp⟩
  | succ h =>
    obtain ⟨its, kids, v0, v1, hn, hl, hk⟩ := hs
    exact ⟨its, kids, v0, v1, hn, ⟨hl, fun x hx => (hk x hx).2.2⟩, fun x hx => ⟨(hk x hx).1, (hk x hx).2.1⟩⟩
theorem Sub.shut {base : Nat} {w : World} {h : Nat} {k : Kid} {its : List Item} {kids : List Kid} {v0 v1 : Value} (hn : NodeAt base w k its kids v0 v1) (hk : Kids base w h its kids) (hf : ∀ x ∈ kids, Fit x) : Sub base w h k := by
  cases h with
  | zero =>
    obtain rfl : kids = [] := hk
    exact ⟨its, v0, v1, hn⟩
  | succ h => exact ⟨its, kids, v0, v1, hn, hk.1, fun x hx => ⟨(hf x hx).1, (hf x hx).2, hk.2 x hx⟩⟩

theorem NodeAt.lt {base : Nat} {w : World} {k : Kid} {its : List Item} {kids : List Kid} {v0 v1 : Value} (h : NodeAt base w k its kids v0 v1) : k.b < w.heap.size := (Array.getElem?_eq_some_iff.1 h.cell).1
theorem blkN_pos {v : Value} {x : Nat} : 0 < blkN v x ↔ v.ownBlock = some x := by unfold blkN; split <;> simp_all
theorem one_pos {b x : Nat} : 0 < one b x ↔ x = b := by unfold one; split <;> simp_all
theorem one_self (b : Nat) : one b b = 1 := by simp [one]
theorem blkN_self {v : Value} {x : Nat} (h : v.ownBlock = some x) : blkN v x = 1 := by simp [blkN, h]

/-- Where a tree's own blocks lie. -/
theorem Sub.range {base : Nat} {w : World} : ∀ {h : Nat} {k : Kid}, Sub base w h k → ∀ x, 0 < k.own x → base ≤ x ∧ x < w.heap.size
  | h, k, hs, x, hx => by
    obtain ⟨its, kids, v0, v1, hn, hk, _⟩ := hs.open
    rw [hn.own] at hx
    by_cases h1 : 0 < one k.b x
    · obtain rfl := one_pos.1 h1
      exact ⟨hn.low, hn.lt⟩
    · by_cases h2 : 0 < blkN v0 x
      · exact hn.items.lt x (blkN_pos.1 h2)
      · by_cases h3 : 0 < blkN v1 x
        · exact hn.below.lt x (blkN_pos.1 h3)
        · have h4 : 0 < owns kids x := by omega
          obtain ⟨y, hy, h5⟩ := owns_some h4
          cases h with
          | zero => obtain rfl : kids = [] := hk; simp at hy
          | succ h => exact Sub.range (hk.2 y hy) x h5
theorem NodeAt.kept {base : Nat} {w w' : World} {k : Kid} {its : List Item} {kids : List Kid} {v0 v1 : Value} {S : Nat → Prop} (h : NodeAt base w k its kids v0 v1) (hk : Kept S w w') (h0 : ¬ S k.b) (h1 : ∀ x, v0.ownBlock = some x → ¬ S x) (h2 : ∀ x, v1.ownBlock = some x → ¬ S x) : NodeAt base w' k its kids v0 v1 :=
  ⟨(hk.block k.b h.lt h0).trans h.cell, h.low, hk.row h.items h1, hk.row h.below h2, h.c, h.L, h.own, h.uniq⟩
theorem Sub.kept {base : Nat} {w w' : World} {S : Nat → Prop} (hk : Kept S w w') : ∀ {h : Nat} {k : Kid}, Sub base w h k → (∀ x, 0 < k.own x → ¬ S x) → Sub base w' h k
  | 0, k, hs, hn => by
    obtain ⟨its, v0, v1, h⟩ := hs
    refine ⟨its, v0, v1, h.kept hk (hn _ ?_) (fun x hx => hn x ?_) (fun x hx => hn x ?_)⟩
    · have := h.own k.b; rw [one_self] at this; omega
    · have := h.own x; rw [blkN_self hx] at this; omega
    · have := h.own x; rw [blkN_self hx] at this; omega
  | h + 1, k, hs, hn => by
    obtain ⟨its, kids, v0, v1, h, hl, hx⟩ := hs
    refine ⟨its, kids, v0, v1, h.kept hk (hn _ ?_) (fun x hx => hn x ?_) (fun x hx => hn x ?_), hl, fun y hy => ⟨(hx y hy).1, (hx y hy).2.1, Sub.kept hk (hx y hy).2.2 fun x hp => hn x ?_⟩⟩
    · have := h.own k.b; rw [one_self] at this; omega
    · have := h.own x; rw [blkN_self hx] at this; omega
    · have := h.own x; rw [blkN_self hx] at this; omega
    · have := h.own x; have := owns_mem hy x; omega
theorem Sub.uniq {base : Nat} {w : World} {h : Nat} {k : Kid} (hs : Sub base w h k) : ∀ x, k.own x ≤ 1 := by
  obtain ⟨_, _, _, _, hn, _⟩ := hs.open
  exact hn.uniq
theorem Sub.self {base : Nat} {w : World} {h : Nat} {k : Kid} (hs : Sub base w h k) : k.own k.b = 1 := by
  obtain ⟨_, _, _, _, hn, _⟩ := hs.open
  have h1 := hn.own k.b
  have h2 := hn.uniq k.b
  rw [one_self] at h1
  omega

/-- How many entries there are at least. -/
theorem inter_length : ∀ (its : List Item) (ls : List (List Item)), ls.length = its.length + 1 → (inter its ls).length = its.length + (ls.map List.length).sum
  | [], [l], _ => by simp [inter]
  | i :: its, l :: ls, h => by
    have := inter_length its ls (by simpa using h)
    simp only [inter, List.length_append, List.length_cons, this, List.map_cons, List.sum_cons]
    omega
theorem sum_ge (l : List Nat) (m : Nat) (h : ∀ x ∈ l, m ≤ x) : l.length * m ≤ l.sum := by
  induction l with
  | nil => simp
  | cons a l ih =>
    have h1 := h a (by simp)
    have h2 := ih fun x hx => h x (by simp [hx])
    simp only [List.length_cons, List.sum_cons, Nat.succ_mul]
    omega
theorem Sub.many {base : Nat} {w : World} : ∀ {h : Nat} {k : Kid}, Sub base w h k → 1 ≤ k.c → 2 ^ (h + 1) ≤ k.L.length + 1
  | 0, k, hs, hc => by
    obtain ⟨its, v0, v1, hn⟩ := hs
    have h1 := hn.c
    have h2 := hn.L
    simp only [List.map_nil, inter_nil] at h2
    rw [h2]
    simp
    omega
  | h + 1, k, hs, hc => by
    obtain ⟨its, kids, v0, v1, hn, hl, hk⟩ := hs
    have h1 := hn.c
    have h2 := hn.L
    rw [h2, inter_length its _ (by simpa using hl)]
    have h3 := sum_ge ((kids.map Kid.L).map List.length) (2 ^ (h + 1) - 1) (by
      intro x hx
      obtain ⟨z, hz, rfl⟩ := List.mem_map.1 hx
      obtain ⟨y, hy, rfl⟩ := List.mem_map.1 hz
      have := Sub.many (hk y hy).2.2 (hk y hy).1
      omega)
    simp only [List.length_map, hl] at h3
    have h4 : 2 * (2 ^ (h + 1) - 1) ≤ (its.length + 1) * (2 ^ (h + 1) - 1) := Nat.mul_le_mul_right _ (by omega)
    have h5 : 0 < 2 ^ (h + 1) := Nat.pow_pos (by decide)
    rw [Nat.pow_succ 2 (h + 1)]
    omega

#print axioms Sub.many
end Go.Proofs.Ytklnonmmamdecab
