import Derived.Below
import Derived.Maps.AppendAt
import Derived.Deep.Draws
import Derived.Test.YtjpmomklkkifjaaGreatDoorCBPure
set_option maxRecDepth 100000
set_option linter.unusedVariables false
set_option linter.unusedSimpArgs false
namespace Go.Proofs.YtjpmomklkkifjaaGreatDoor.T
open Go.RowKit
structure Kept (S : Nat → Prop) (w w' : World) : Prop where
  os : w'.os = w.os
  tape : w'.tape = w.tape
  output : w'.output = w.output
  size : w.heap.size ≤ w'.heap.size
  block : ∀ k, k < w.heap.size → ¬ S k → w'.heap[k]? = w.heap[k]?
theorem Kept.refl (S : Nat → Prop) (w : World) : Kept S w w := ⟨rfl, rfl, rfl, Nat.le_refl _, fun _ _ _ => rfl⟩
theorem Kept.trans {S T : Nat → Prop} {a b c : World} (h : Kept S a b) (k : Kept T b c) (hT : ∀ x, x < a.heap.size → T x → S x) : Kept S a c :=
  ⟨k.os.trans h.os, k.tape.trans h.tape, k.output.trans h.output, Nat.le_trans h.size k.size,
    fun i hi hs => (k.block i (Nat.lt_of_lt_of_le hi h.size) (fun ht => hs (hT i hi ht))).trans (h.block i hi hs)⟩
theorem Kept.mono {S T : Nat → Prop} {w w' : World} (h : Kept S w w') (hT : ∀ x, x < w.heap.size → S x → T x) : Kept T w w' :=
  ⟨h.os, h.tape, h.output, h.size, fun k hk ht => h.block k hk (fun hs => ht (hT k hk hs))⟩
theorem Kept.drew {S : Nat → Prop} {a w : World} (h : Kept S a w) : Kept S a w.drew := ⟨h.os, h.tape, h.output, h.size, h.block⟩
theorem Kept.drewN {S : Nat → Prop} {a w : World} (n : Nat) (h : Kept S a w) : Kept S a (w.drewN n) := ⟨h.os, h.tape, h.output, h.size, h.block⟩
theorem Kept.alloc {S : Nat → Prop} {a w : World} (h : Kept S a w) (o : Obj) : Kept S a (w.alloc o) :=
  ⟨h.os, h.tape, h.output, Nat.le_trans h.size (by simp), fun k hk hs => (Below.heap_alloc _ _ _ (Nat.lt_of_lt_of_le hk h.size)).trans (h.block k hk hs)⟩
theorem Kept.setCell {S : Nat → Prop} {a w : World} (h : Kept S a w) {p : Addr} (hp : p.block < a.heap.size → S p.block) (u : Value) : Kept S a (w.setCell p u) :=
  ⟨h.os, h.tape, h.output, Nat.le_trans h.size (by simp [World.setCell]), fun k hk hs => (Below.heap_setCell _ _ _ _ (fun e => hs (by subst e; exact hp hk))).trans (h.block k hk hs)⟩
theorem Kept.grown {S : Nat → Prop} {a w w' : World} {row : Option Nat} (h : Kept S a w) (hg : w.grownBy w' row) (hr : ∀ k, row = some k → k < a.heap.size → S k) : Kept S a w' :=
  ⟨hg.os.trans h.os, hg.tape.trans h.tape, hg.output.trans h.output, Nat.le_trans h.size hg.size,
    fun k hk hs => (hg.block k (Nat.lt_of_lt_of_le hk h.size) (fun e => hs (hr k e.symm hk))).trans (h.block k hk hs)⟩
theorem Kept.of_below {S : Nat → Prop} {w w' : World} (h : Below w.heap.size w w') : Kept S w w' := ⟨h.os, h.tape, h.output, h.size, fun k hk _ => h.block k hk⟩
theorem Kept.below {S : Nat → Prop} {B : Nat} {w w' : World} (h : Kept S w w') (hB : B ≤ w.heap.size) (hS : ∀ x, S x → B ≤ x) : Below B w w' :=
  ⟨h.os, h.tape, h.output, h.size, fun k hk => h.block k (by omega) (fun hs => by have := hS k hs; omega)⟩
theorem Kept.cell {S : Nat → Prop} {w w' : World} (h : Kept S w w') {p : Addr} (hp : p.block < w.heap.size) (hs : ¬ S p.block) : w'.cell? p = w.cell? p :=
  World.cell?_of_block (w := w) (h.block p.block hp hs)
theorem Kept.frozen {S : Nat → Prop} {w w' : World} (h : Kept S w w') {p : Addr} (hp : p.block < w.heap.size) (hs : ¬ S p.block) : w'.frozen? p = w.frozen? p :=
  World.frozen?_of_block (w := w) (h.block p.block hp hs)
theorem Kept.row {S : Nat → Prop} {w w' : World} (h : Kept S w w') {base : Nat} {e : TypeId} {size : Nat} {v : Value} {n : Nat} {xs : List Value} (ho : w.ownsRow base e size v n xs) (hs : ∀ k, v.ownBlock = some k → ¬ S k) : w'.ownsRow base e size v n xs := by
  refine ⟨ho.1, ?_⟩
  rcases ho.2 with hn | ⟨g, cap, cur, rfl, hb, hgg, rest⟩
  · exact .inl hn
  · refine .inr ⟨g, cap, cur, rfl, hb, ?_, rest⟩
    rw [h.block g (Array.getElem?_eq_some_iff.1 hgg).1 (hs g rfl)]
    exact hgg
def cellsOf (it : Item) : List Value := [.string it.key, .string it.name, .int .i64 it.node]
def flat (l : List Item) : List Value := l.flatMap cellsOf
theorem flat_cons (x : Item) (l : List Item) : flat (x :: l) = .string x.key :: .string x.name :: .int .i64 x.node :: flat l := rfl
theorem flat_append (a b : List Item) : flat (a ++ b) = flat a ++ flat b := by simp [flat]
theorem flat_length (l : List Item) : (flat l).length = l.length * 3 := by
  induction l with
  | nil => rfl
  | cons x l ih => rw [flat_cons]; simp [ih]; omega
theorem flat_take (l : List Item) (n : Nat) : (flat l).take (n * 3) = flat (l.take n) := by
  induction l generalizing n with
  | nil => simp [flat]
  | cons x l ih =>
    cases n with
    | zero => simp [flat]
    | succ n => rw [show (n + 1) * 3 = n * 3 + 1 + 1 + 1 by omega]; simp only [flat_cons, List.take_succ_cons, ih]
theorem flat_drop (l : List Item) (n : Nat) : (flat l).drop (n * 3) = flat (l.drop n) := by
  induction l generalizing n with
  | nil => simp [flat]
  | cons x l ih =>
    cases n with
    | zero => simp [flat]
    | succ n => rw [show (n + 1) * 3 = n * 3 + 1 + 1 + 1 by omega]; simp only [flat_cons, List.drop_succ_cons, ih]
theorem flat_get (l : List Item) (i : Nat) (h : i < l.length) : (flat l)[i * 3]? = some (.string (l[i]).key) ∧ (flat l)[i * 3 + 1]? = some (.string (l[i]).name) ∧ (flat l)[i * 3 + 2]? = some (.int .i64 (l[i]).node) := by
  induction l generalizing i with
  | nil => simp at h
  | cons x l ih =>
    cases i with
    | zero => simp [flat_cons]
    | succ i =>
      have := ih i (by simpa using h)
      rw [show (i + 1) * 3 = i * 3 + 1 + 1 + 1 by omega]
      simp only [flat_cons, List.getElem_cons_succ]
      simpa using this
theorem flat_one (l : List Item) : ∀ u ∈ flat l, u.oneCell' = true := by
  intro u hu
  obtain ⟨x, _, hx⟩ := List.mem_flatMap.1 hu
  simp [cellsOf] at hx
  rcases hx with rfl | rfl | rfl <;> rfl
theorem flat_set (l : List Item) (i : Nat) (x : Item) (h : i < l.length) : (((flat l).set (i * 3) (.string x.key)).set (i * 3 + 1) (.string x.name)).set (i * 3 + 2) (.int .i64 x.node) = flat (l.set i x) := by
  induction l generalizing i with
  | nil => simp at h
  | cons y l ih =>
    cases i with
    | zero => simp [flat_cons]
    | succ i =>
      have := ih i (by simpa using h)
      rw [show (i + 1) * 3 = i * 3 + 1 + 1 + 1 by omega]
      simp only [flat_cons, List.set_cons_succ, ← this]
def ptrV (b : Nat) : Value := .pointer (some ⟨b, 0, none⟩)
structure Kid where
  b : Nat
  c : Nat
  L : List Item
  own : Nat → Nat
def one (b x : Nat) : Nat := if x = b then 1 else 0
def blkN (v : Value) (x : Nat) : Nat := if v.ownBlock = some x then 1 else 0
def owns (kids : List Kid) (x : Nat) : Nat := (kids.map fun y => y.own x).sum
theorem owns_nil (x : Nat) : owns [] x = 0 := rfl
theorem owns_cons (k : Kid) (l : List Kid) (x : Nat) : owns (k :: l) x = k.own x + owns l x := by simp [owns]
theorem owns_append (a b : List Kid) (x : Nat) : owns (a ++ b) x = owns a x + owns b x := by simp [owns]
theorem owns_mem {l : List Kid} {k : Kid} (h : k ∈ l) (x : Nat) : k.own x ≤ owns l x := by
  induction l with
  | nil => simp at h
  | cons a l ih =>
    rw [owns_cons]
    rcases List.mem_cons.1 h with h | h
    · subst h; omega
    · have := ih h; omega
theorem owns_some {x : Nat} : ∀ {l : List Kid}, 0 < owns l x → ∃ y ∈ l, 0 < y.own x
  | [], h => by simp [owns_nil] at h
  | a :: l, h => by
    rw [owns_cons] at h
    by_cases h5 : 0 < a.own x
    · exact ⟨a, by simp, h5⟩
    · obtain ⟨y, hy, h6⟩ := owns_some (l := l) (x := x) (by omega)
      exact ⟨y, by simp [hy], h6⟩
structure NodeAt (base : Nat) (w : World) (k : Kid) (its : List Item) (kids : List Kid) (v0 v1 : Value) : Prop where
  cell : w.heap[k.b]? = some (.cells #[v0, v1] 188 (0, 0))
  low : base ≤ k.b
  items : w.ownsRow base 190 3 v0 its.length (flat its)
  below : w.ownsRow base 128 1 v1 kids.length (kids.map fun y => ptrV y.b)
  c : k.c = its.length
  L : k.L = inter its (kids.map Kid.L)
  own : ∀ x, k.own x = one k.b x + blkN v0 x + blkN v1 x + owns kids x
  uniq : ∀ x, k.own x ≤ 1
def Sub (base : Nat) (w : World) : Nat → Kid → Prop
  | 0, k => ∃ its v0 v1, NodeAt base w k its [] v0 v1
  | h + 1, k => ∃ its kids v0 v1, NodeAt base w k its kids v0 v1 ∧ kids.length = its.length + 1 ∧ ∀ x ∈ kids, 1 ≤ x.c ∧ x.c ≤ 3 ∧ Sub base w h x
def Kids (base : Nat) (w : World) : Nat → List Item → List Kid → Prop
  | 0, _, kids => kids = []
  | h + 1, its, kids => kids.length = its.length + 1 ∧ ∀ x ∈ kids, Sub base w h x
def Fit (k : Kid) : Prop := 1 ≤ k.c ∧ k.c ≤ 3
theorem Sub.open {base : Nat} {w : World} {h : Nat} {k : Kid} (hs : Sub base w h k) : ∃ its kids v0 v1, NodeAt base w k its kids v0 v1 ∧ Kids base w h its kids ∧ ∀ x ∈ kids, Fit x := by
  cases h with
  | zero =>
    obtain ⟨its, v0, v1, hn⟩ := hs
    exact ⟨its, [], v0, v1, hn, rfl, by simp⟩
  | succ h =>
    obtain ⟨its, kids, v0, v1, hn, hl, hk⟩ := hs
    exact ⟨its, kids, v0, v1, hn, ⟨hl, fun x hx => (hk x hx).2.2⟩, fun x hx => ⟨(hk x hx).1, (hk x hx).2.1⟩⟩
theorem Sub.shut {base : Nat} {w : World} {h : Nat} {k : Kid} {its : List Item} {kids : List Kid} {v0 v1 : Value} (hn : NodeAt base w k its kids v0 v1) (hk : Kids base w h its kids) (hf : ∀ x ∈ kids, Fit x) : Sub base w h k := by
  cases h with
  | zero =>
    obtain rfl : kids = [] := hk
    exact ⟨its, v0, v1, hn⟩
  | succ h => exact ⟨its, kids, v0, v1, hn, hk.1, fun x hx => ⟨(hf x hx).1, (hf x hx).2, hk.2 x hx⟩⟩
theorem NodeAt.lt {base : Nat} {w : World} {k : Kid} {its : List Item} {kids : List Kid} {v0 v1 : Value} (h : NodeAt base w k its kids v0 v1) : k.b < w.heap.size := (Array.getElem?_eq_some_iff.1 h.cell).1
theorem blkN_pos {v : Value} {x : Nat} : 0 < blkN v x ↔ v.ownBlock = some x := by unfold blkN; split <;> simp_all
theorem one_pos {b x : Nat} : 0 < one b x ↔ x = b := by unfold one; split <;> simp_all
theorem one_self (b : Nat) : one b b = 1 := by simp [one]
theorem blkN_self {v : Value} {x : Nat} (h : v.ownBlock = some x) : blkN v x = 1 := by simp [blkN, h]
theorem Sub.range {base : Nat} {w : World} : ∀ {h : Nat} {k : Kid}, Sub base w h k → ∀ x, 0 < k.own x → base ≤ x ∧ x < w.heap.size
  | h, k, hs, x, hx => by
    obtain ⟨its, kids, v0, v1, hn, hk, _⟩ := hs.open
    rw [hn.own] at hx
    by_cases h1 : 0 < one k.b x
    · obtain rfl := one_pos.1 h1
      exact ⟨hn.low, hn.lt⟩
    · by_cases h2 : 0 < blkN v0 x
      · exact hn.items.lt x (blkN_pos.1 h2)
      · by_cases h3 : 0 < blkN v1 x
        · exact hn.below.lt x (blkN_pos.1 h3)
        · have h4 : 0 < owns kids x := by omega
          obtain ⟨y, hy, h5⟩ := owns_some h4
          cases h with
          | zero => obtain rfl : kids = [] := hk; simp at hy
          | succ h => exact Sub.range (hk.2 y hy) x h5
theorem NodeAt.kept {base : Nat} {w w' : World} {k : Kid} {its : List Item} {kids : List Kid} {v0 v1 : Value} {S : Nat → Prop} (h : NodeAt base w k its kids v0 v1) (hk : Kept S w w') (h0 : ¬ S k.b) (h1 : ∀ x, v0.ownBlock = some x → ¬ S x) (h2 : ∀ x, v1.ownBlock = some x → ¬ S x) : NodeAt base w' k its kids v0 v1 :=
  ⟨(hk.block k.b h.lt h0).trans h.cell, h.low, hk.row h.items h1, hk.row h.below h2, h.c, h.L, h.own, h.uniq⟩
theorem Sub.kept {base : Nat} {w w' : World} {S : Nat → Prop} (hk : Kept S w w') : ∀ {h : Nat} {k : Kid}, Sub base w h k → (∀ x, 0 < k.own x → ¬ S x) → Sub base w' h k
  | 0, k, hs, hn => by
    obtain ⟨its, v0, v1, h⟩ := hs
    refine ⟨its, v0, v1, h.kept hk (hn _ ?_) (fun x hx => hn x ?_) (fun x hx => hn x ?_)⟩
    · have := h.own k.b; rw [one_self] at this; omega
    · have := h.own x; rw [blkN_self hx] at this; omega
    · have := h.own x; rw [blkN_self hx] at this; omega
  | h + 1, k, hs, hn => by
    obtain ⟨its, kids, v0, v1, h, hl, hx⟩ := hs
    refine ⟨its, kids, v0, v1, h.kept hk (hn _ ?_) (fun x hx => hn x ?_) (fun x hx => hn x ?_), hl, fun y hy => ⟨(hx y hy).1, (hx y hy).2.1, Sub.kept hk (hx y hy).2.2 fun x hp => hn x ?_⟩⟩
    · have := h.own k.b; rw [one_self] at this; omega
    · have := h.own x; rw [blkN_self hx] at this; omega
    · have := h.own x; rw [blkN_self hx] at this; omega
    · have := h.own x; have := owns_mem hy x; omega
theorem Sub.uniq {base : Nat} {w : World} {h : Nat} {k : Kid} (hs : Sub base w h k) : ∀ x, k.own x ≤ 1 := by
  obtain ⟨_, _, _, _, hn, _⟩ := hs.open
  exact hn.uniq
theorem Sub.self {base : Nat} {w : World} {h : Nat} {k : Kid} (hs : Sub base w h k) : k.own k.b = 1 := by
  obtain ⟨_, _, _, _, hn, _⟩ := hs.open
  have h1 := hn.own k.b
  have h2 := hn.uniq k.b
  rw [one_self] at h1
  omega
theorem inter_length : ∀ (its : List Item) (ls : List (List Item)), ls.length = its.length + 1 → (inter its ls).length = its.length + (ls.map List.length).sum
  | [], [l], _ => by simp [inter]
  | i :: its, l :: ls, h => by
    have := inter_length its ls (by simpa using h)
    simp only [inter, List.length_append, List.length_cons, this, List.map_cons, List.sum_cons]
    omega
theorem sum_ge (l : List Nat) (m : Nat) (h : ∀ x ∈ l, m ≤ x) : l.length * m ≤ l.sum := by
  induction l with
  | nil => simp
  | cons a l ih =>
    have h1 := h a (by simp)
    have h2 := ih fun x hx => h x (by simp [hx])
    simp only [List.length_cons, List.sum_cons, Nat.succ_mul]
    omega
theorem Sub.many {base : Nat} {w : World} : ∀ {h : Nat} {k : Kid}, Sub base w h k → 1 ≤ k.c → 2 ^ (h + 1) ≤ k.L.length + 1
  | 0, k, hs, hc => by
    obtain ⟨its, v0, v1, hn⟩ := hs
    have h1 := hn.c
    have h2 := hn.L
    simp only [List.map_nil, inter_nil] at h2
    rw [h2]
    simp
    omega
  | h + 1, k, hs, hc => by
    obtain ⟨its, kids, v0, v1, hn, hl, hk⟩ := hs
    have h1 := hn.c
    have h2 := hn.L
    rw [h2, inter_length its _ (by simpa using hl)]
    have h3 := sum_ge ((kids.map Kid.L).map List.length) (2 ^ (h + 1) - 1) (by
      intro x hx
      obtain ⟨z, hz, rfl⟩ := List.mem_map.1 hx
      obtain ⟨y, hy, rfl⟩ := List.mem_map.1 hz
      have := Sub.many (hk y hy).2.2 (hk y hy).1
      omega)
    simp only [List.length_map, hl] at h3
    have h4 : 2 * (2 ^ (h + 1) - 1) ≤ (its.length + 1) * (2 ^ (h + 1) - 1) := Nat.mul_le_mul_right _ (by omega)
    have h5 : 0 < 2 ^ (h + 1) := Nat.pow_pos (by decide)
    rw [Nat.pow_succ 2 (h + 1)]
    omega
end Go.Proofs.YtjpmomklkkifjaaGreatDoor.T
namespace Go.Proofs.YtjpmomklkkifjaaGreatDoor.T
open Go.RowKit
inductive Res where
  | cell (b : Nat) (t : TypeId) (vs : List Value)
  | row (v : Value) (e : TypeId) (k n : Nat) (xs : List Value)
  | sub (h : Nat) (k : Kid)
  | subs (h : Nat) (kids : List Kid)
  | obj (b : Nat) (p : Obj → Prop)
def Res.foot : Res → Nat → Nat
  | .cell b _ _, x => one b x
  | .row v _ _ _ _, x => blkN v x
  | .sub _ k, x => k.own x
  | .subs _ kids, x => owns kids x
  | .obj b _, x => one b x
def Res.Sat (base : Nat) (w : World) : Res → Prop
  | .cell b t vs => base ≤ b ∧ w.heap[b]? = some (.cells vs.toArray t (0, 0))
  | .row v e k n xs => w.ownsRow base e k v n xs
  | .sub h k => Sub base w h k
  | .subs h kids => ∀ x ∈ kids, Sub base w h x
  | .obj b p => base ≤ b ∧ ∃ o, w.heap[b]? = some o ∧ p o
def total (rs : List Res) (x : Nat) : Nat := (rs.map fun r => r.foot x).sum
theorem total_nil (x : Nat) : total [] x = 0 := rfl
theorem total_cons (r : Res) (rs : List Res) (x : Nat) : total (r :: rs) x = r.foot x + total rs x := by simp [total]
theorem total_append (a b : List Res) (x : Nat) : total (a ++ b) x = total a x + total b x := by simp [total]
theorem total_mem {r : Res} {rs : List Res} (h : r ∈ rs) (x : Nat) : r.foot x ≤ total rs x := by
  induction rs with
  | nil => simp at h
  | cons a l ih =>
    rw [total_cons]
    rcases List.mem_cons.1 h with h | h
    · subst h; omega
    · have := ih h; omega
structure Hold (base : Nat) (w0 : World) (K0 : Nat → Nat) (w : World) (rs : List Res) : Prop where
  sat : ∀ r ∈ rs, r.Sat base w
  uniq : ∀ x, total rs x ≤ 1
  old : ∀ x, x < w0.heap.size → total rs x ≤ K0 x
  kept : Kept (fun x => 0 < K0 x) w0 w
theorem Res.Sat.range {base : Nat} {w : World} {r : Res} (h : r.Sat base w) (x : Nat) (hx : 0 < r.foot x) : base ≤ x ∧ x < w.heap.size := by
  cases r with
  | cell b t vs =>
    obtain rfl := one_pos.1 hx
    exact ⟨h.1, (Array.getElem?_eq_some_iff.1 h.2).1⟩
  | row v e k n xs => exact World.ownsRow.lt h x (blkN_pos.1 hx)
  | sub n k => exact Sub.range h x hx
  | subs n kids =>
    obtain ⟨y, hy, h5⟩ := owns_some hx
    exact Sub.range (h y hy) x h5
  | obj b p =>
    obtain rfl := one_pos.1 hx
    obtain ⟨h1, o, h2, _⟩ := h
    exact ⟨h1, (Array.getElem?_eq_some_iff.1 h2).1⟩
theorem Res.Sat.kept {base : Nat} {w w' : World} {S : Nat → Prop} {r : Res} (h : r.Sat base w) (hk : Kept S w w') (hs : ∀ x, 0 < r.foot x → ¬ S x) : r.Sat base w' := by
  cases r with
  | cell b t vs => exact ⟨h.1, (hk.block b (Array.getElem?_eq_some_iff.1 h.2).1 (hs b (by show 0 < one b b; rw [one_self]; decide))).trans h.2⟩
  | row v e k n xs => exact hk.row h fun x hx => hs x (blkN_pos.2 hx)
  | sub n k => exact Sub.kept hk h hs
  | subs n kids => exact fun y hy => Sub.kept hk (h y hy) fun x hx => hs x (Nat.lt_of_lt_of_le hx (owns_mem hy x))
  | obj b p =>
    obtain ⟨h1, o, h2, h3⟩ := h
    exact ⟨h1, o, (hk.block b (Array.getElem?_eq_some_iff.1 h2).1 (hs b (by show 0 < one b b; rw [one_self]; decide))).trans h2, h3⟩
theorem Hold.size {base : Nat} {w0 w : World} {K0 : Nat → Nat} {rs : List Res} (h : Hold base w0 K0 w rs) : w0.heap.size ≤ w.heap.size := h.kept.size
theorem Hold.beyond {base : Nat} {w0 w : World} {K0 : Nat → Nat} {rs : List Res} (h : Hold base w0 K0 w rs) {x : Nat} (hx : w.heap.size ≤ x) : total rs x = 0 := by
  have key : ∀ l : List Res, (∀ r ∈ l, r.Sat base w) → total l x = 0 := by
    intro l
    induction l with
    | nil => intro _; rfl
    | cons a l ih =>
      intro hl
      rw [total_cons, ih fun r hr => hl r (by simp [hr])]
      have := (hl a (by simp)).range x
      omega
  exact key rs h.sat
theorem Hold.conv {base : Nat} {w0 w : World} {K0 : Nat → Nat} {rs rs' : List Res} (h : Hold base w0 K0 w rs) (ht : ∀ x, total rs' x ≤ total rs x) (hs : ∀ r ∈ rs', r.Sat base w) : Hold base w0 K0 w rs' :=
  ⟨hs, fun x => Nat.le_trans (ht x) (h.uniq x), fun x hx => Nat.le_trans (ht x) (h.old x hx), h.kept⟩
theorem Hold.put {base : Nat} {w0 w w' : World} {K0 : Nat → Nat} (l1 : List Res) {r r' : Res} {l2 : List Res} (h : Hold base w0 K0 w (l1 ++ r :: l2)) (hk : Kept (fun x => 0 < r.foot x) w w') (hs : r'.Sat base w') (hf : ∀ x, x < w.heap.size → r'.foot x ≤ r.foot x) (h1 : ∀ x, r'.foot x ≤ 1) : Hold base w0 K0 w' (l1 ++ r' :: l2) := by
  have hsz := h.size
  have key : ∀ x, x < w.heap.size → total (l1 ++ r' :: l2) x ≤ total (l1 ++ r :: l2) x := fun x hx => by
    have := hf x hx
    simp only [total_append, total_cons]
    omega
  refine ⟨fun q hq => ?_, fun x => ?_, fun x hx => Nat.le_trans (key x (by omega)) (h.old x hx), h.kept.trans hk fun x hx h2 => ?_⟩
  · have other : ∀ q, (q ∈ l1 ∨ q ∈ l2) → q.Sat base w' := fun q hq => by
      refine (h.sat q (by rcases hq with h | h <;> simp [h])).kept hk fun x hx h2 => ?_
      have h3 := h.uniq x
      simp only [total_append, total_cons] at h3
      rcases hq with hq | hq
      · have := total_mem hq x; omega
      · have := total_mem hq x; omega
    rcases List.mem_append.1 hq with hq | hq
    · exact other q (.inl hq)
    · rcases List.mem_cons.1 hq with hq | hq
      · subst hq; exact hs
      · exact other q (.inr hq)
  · rcases Nat.lt_or_ge x w.heap.size with hx | hx
    · exact Nat.le_trans (key x hx) (h.uniq x)
    · have h3 := h.beyond hx
      simp only [total_append, total_cons] at h3 ⊢
      have := h1 x
      omega
  · have h3 := h.old x hx
    simp only [total_append, total_cons] at h3
    omega
theorem Hold.keep {base : Nat} {w0 w w' : World} {K0 : Nat → Nat} {rs : List Res} (h : Hold base w0 K0 w rs) (hk : Kept (fun _ => False) w w') : Hold base w0 K0 w' rs :=
  ⟨fun q hq => (h.sat q hq).kept hk fun _ _ h => h, h.uniq, h.old, h.kept.trans hk fun _ _ h => h.elim⟩
theorem Hold.below {base : Nat} {w0 w w' : World} {K0 : Nat → Nat} {rs : List Res} (h : Hold base w0 K0 w rs) (hk : Below w.heap.size w w') : Hold base w0 K0 w' rs := h.keep (Kept.of_below hk)
theorem Hold.drew {base : Nat} {w0 w : World} {K0 : Nat → Nat} {rs : List Res} (h : Hold base w0 K0 w rs) : Hold base w0 K0 w.drew rs := h.keep (Kept.refl _ w).drew
theorem Hold.drewN {base : Nat} {w0 w : World} {K0 : Nat → Nat} {rs : List Res} (h : Hold base w0 K0 w rs) (n : Nat) : Hold base w0 K0 (w.drewN n) rs := h.keep ((Kept.refl _ w).drewN n)
theorem Hold.alloc {base : Nat} {w0 w : World} {K0 : Nat → Nat} {rs : List Res} (h : Hold base w0 K0 w rs) (o : Obj) : Hold base w0 K0 (w.alloc o) rs := h.keep ((Kept.refl _ w).alloc o)
theorem Hold.new {base : Nat} {w0 w w' : World} {K0 : Nat → Nat} {rs : List Res} (h : Hold base w0 K0 w rs) {r : Res} (hk : Kept (fun _ => False) w w') (hs : r.Sat base w') (hf : ∀ x, 0 < r.foot x → w.heap.size ≤ x) (h1 : ∀ x, r.foot x ≤ 1) : Hold base w0 K0 w' (r :: rs) := by
  have h' := h.keep hk
  have hsz := h.size
  refine ⟨fun q hq => ?_, fun x => ?_, fun x hx => ?_, h'.kept⟩
  · rcases List.mem_cons.1 hq with hq | hq
    · subst hq; exact hs
    · exact h'.sat q hq
  · rw [total_cons]
    rcases Nat.lt_or_ge x w.heap.size with hx | hx
    · have := hf x; have := h.uniq x; omega
    · have := h.beyond hx; have := h1 x; omega
  · rw [total_cons]
    have := hf x; have := h.old x hx; omega
theorem Hold.made {base : Nat} {w0 w : World} {K0 : Nat → Nat} {rs : List Res} (h : Hold base w0 K0 w rs) (hb : base ≤ w.heap.size) (t : TypeId) (vs : List Value) : Hold base w0 K0 (w.alloc (.cells vs.toArray t)) (.cell w.heap.size t vs :: rs) :=
  h.new ((Kept.refl _ w).alloc _) ⟨hb, heap_alloc_new w _⟩ (fun x hx => by obtain rfl := one_pos.1 hx; exact Nat.le_refl _) (fun x => by show one _ _ ≤ 1; unfold one; split <;> omega)
theorem Hold.forget {base : Nat} {w0 w : World} {K0 : Nat → Nat} (l1 : List Res) {r : Res} {l2 : List Res} (h : Hold base w0 K0 w (l1 ++ r :: l2)) : Hold base w0 K0 w (l1 ++ l2) :=
  h.conv (fun x => by simp only [total_append, total_cons]; omega) (fun q hq => h.sat q (by simp only [List.mem_append, List.mem_cons] at hq ⊢; rcases hq with h | h <;> simp [h]))
theorem foot_cell (b : Nat) (t : TypeId) (vs : List Value) (x : Nat) : (Res.cell b t vs).foot x = one b x := rfl
theorem foot_row (v : Value) (e : TypeId) (k n : Nat) (xs : List Value) (x : Nat) : (Res.row v e k n xs).foot x = blkN v x := rfl
theorem foot_sub (h : Nat) (k : Kid) (x : Nat) : (Res.sub h k).foot x = k.own x := rfl
theorem foot_subs (h : Nat) (kids : List Kid) (x : Nat) : (Res.subs h kids).foot x = owns kids x := rfl
theorem one_le (b x : Nat) : one b x ≤ 1 := by unfold one; split <;> omega
theorem blkN_le (v : Value) (x : Nat) : blkN v x ≤ 1 := by unfold blkN; split <;> omega
theorem Hold.cellAt {base : Nat} {w0 w : World} {K0 : Nat → Nat} {rs : List Res} (h : Hold base w0 K0 w rs) {b : Nat} {t : TypeId} {vs : List Value} (hm : Res.cell b t vs ∈ rs) {j : Nat} {v : Value} (hv : vs[j]? = some v) : w.cell? ⟨b, j, none⟩ = some v := by
  have := (h.sat _ hm).2
  rw [cell_of_row w b j _ t (0, 0) this]
  simpa using hv
theorem Hold.frozenAt {base : Nat} {w0 w : World} {K0 : Nat → Nat} {rs : List Res} (h : Hold base w0 K0 w rs) {b : Nat} {t : TypeId} {vs : List Value} (hm : Res.cell b t vs ∈ rs) (j : Nat) : w.frozen? ⟨b, j, none⟩ = false :=
  frozen_of_row w b j _ t (h.sat _ hm).2
theorem Hold.rowAt {base : Nat} {w0 w : World} {K0 : Nat → Nat} {rs : List Res} (h : Hold base w0 K0 w rs) {v : Value} {e : TypeId} {k n : Nat} {xs : List Value} (hm : Res.row v e k n xs ∈ rs) : w.ownsRow base e k v n xs := h.sat _ hm
theorem Hold.subAt {base : Nat} {w0 w : World} {K0 : Nat → Nat} {rs : List Res} (h : Hold base w0 K0 w rs) {n : Nat} {k : Kid} (hm : Res.sub n k ∈ rs) : Sub base w n k := h.sat _ hm
theorem Hold.store {base : Nat} {w0 w : World} {K0 : Nat → Nat} (l1 : List Res) {b : Nat} {t : TypeId} {vs : List Value} {l2 : List Res} (h : Hold base w0 K0 w (l1 ++ .cell b t vs :: l2)) (j : Nat) (u : Value) (vs' : List Value) (he : vs.set j u = vs') : Hold base w0 K0 (w.setCell ⟨b, j, none⟩ u) (l1 ++ .cell b t vs' :: l2) := by
  have hc := h.sat (.cell b t vs) (by simp)
  refine h.put l1 (Kept.setCell (Kept.refl _ w) (fun _ => by show 0 < one b b; rw [one_self]; decide) u) ⟨hc.1, ?_⟩ (fun x _ => Nat.le_refl _) (one_le b)
  rw [heap_setCell_same w b j _ t u hc.2, ← he]
  simp
theorem Hold.grow {base : Nat} {w0 w w' : World} {K0 : Nat → Nat} (l1 : List Res) {v v' : Value} {e : TypeId} {k n n' : Nat} {xs ys : List Value} {l2 : List Res} (h : Hold base w0 K0 w (l1 ++ .row v e k n xs :: l2)) (hg : w.grownBy w' v.ownBlock) (hr : w'.ownsRow base e k v' n' ys) (ha : v'.ownBlock = v.ownBlock ∨ ∃ x, v'.ownBlock = some x ∧ w.heap.size ≤ x) : Hold base w0 K0 w' (l1 ++ .row v' e k n' ys :: l2) := by
  refine h.put l1 ((Kept.refl _ w).grown hg fun x hx _ => blkN_pos.2 hx) hr (fun x hx => ?_) (blkN_le v')
  show blkN v' x ≤ blkN v x
  unfold blkN
  rcases ha with ha | ⟨y, ha, hy⟩
  · rw [ha]; exact Nat.le_refl _
  · rw [ha]
    split
    · rename_i e; have := Option.some.inj e; omega
    · omega
theorem Hold.newRow {base : Nat} {w0 w w' : World} {K0 : Nat → Nat} {rs : List Res} (h : Hold base w0 K0 w rs) {v : Value} {e : TypeId} {k n : Nat} {xs : List Value} (hk : Below w.heap.size w w') (hr : w'.ownsRow base e k v n xs) (ha : ∃ x, v.ownBlock = some x ∧ w.heap.size ≤ x) : Hold base w0 K0 w' (.row v e k n xs :: rs) :=
  h.new (Kept.of_below hk) hr (fun x hx => by obtain ⟨y, h1, h2⟩ := ha; have h3 := blkN_pos.1 hx; rw [h1] at h3; cases h3; exact h2) (blkN_le v)
theorem Hold.nilRow {base : Nat} {w0 w : World} {K0 : Nat → Nat} {rs : List Res} (h : Hold base w0 K0 w rs) (e : TypeId) (k : Nat) : Hold base w0 K0 w (.row (.slice none 0 0) e k 0 [] :: rs) :=
  h.new (Kept.refl _ w) (World.ownsRow_nil w base e k) (fun x hx => by have := blkN_pos.1 hx; simp [Value.ownBlock] at this) (blkN_le _)
def Shape (h : Nat) (its : List Item) (kids : List Kid) : Prop := (h = 0 ∧ kids = []) ∨ (0 < h ∧ kids.length = its.length + 1)
def rowI (v : Value) (its : List Item) : Res := .row v 190 3 its.length (flat its)
def rowN (v : Value) (kids : List Kid) : Res := .row v 128 1 kids.length (kids.map fun y => ptrV y.b)
def nodeR (b : Nat) (v0 v1 : Value) : Res := .cell b 188 [v0, v1]
theorem Hold.open {base : Nat} {w0 w : World} {K0 : Nat → Nat} (l1 : List Res) {h : Nat} {k : Kid} {l2 : List Res} (H : Hold base w0 K0 w (l1 ++ .sub h k :: l2)) :
    ∃ its kids v0 v1, k.c = its.length ∧ k.L = inter its (kids.map Kid.L) ∧ Shape h its kids ∧ (∀ x ∈ kids, Fit x) ∧ Hold base w0 K0 w (l1 ++ nodeR k.b v0 v1 :: rowI v0 its :: rowN v1 kids :: .subs (h - 1) kids :: l2) := by
  have hs : Sub base w h k := H.sat (.sub h k) (by simp)
  obtain ⟨its, kids, v0, v1, hn, hk, hf⟩ := hs.open
  have hsh : Shape h its kids ∧ ∀ x ∈ kids, Sub base w (h - 1) x := by
    cases h with
    | zero => obtain rfl : kids = [] := hk; exact ⟨.inl ⟨rfl, rfl⟩, by simp⟩
    | succ h => exact ⟨.inr ⟨by omega, hk.1⟩, hk.2⟩
  refine ⟨its, kids, v0, v1, hn.c, hn.L, hsh.1, hf, H.conv (fun x => ?_) (fun r hr => ?_)⟩
  · simp only [total_append, total_cons, nodeR, rowI, rowN, foot_cell, foot_row, foot_sub, foot_subs]
    rw [hn.own x]
    omega
  · simp only [List.mem_append, List.mem_cons] at hr
    rcases hr with hr | rfl | rfl | rfl | rfl | hr
    · exact H.sat r (by simp [hr])
    · exact ⟨hn.low, hn.cell⟩
    · exact hn.items
    · exact hn.below
    · exact hsh.2
    · exact H.sat r (by simp [hr])
theorem Hold.shut {base : Nat} {w0 w : World} {K0 : Nat → Nat} (l1 : List Res) {h b : Nat} {its : List Item} {kids : List Kid} {v0 v1 : Value} {l2 : List Res} (H : Hold base w0 K0 w (l1 ++ nodeR b v0 v1 :: rowI v0 its :: rowN v1 kids :: .subs (h - 1) kids :: l2)) (hsh : Shape h its kids) (hf : ∀ x ∈ kids, Fit x) :
    ∃ k : Kid, k.b = b ∧ k.c = its.length ∧ k.L = inter its (kids.map Kid.L) ∧ Hold base w0 K0 w (l1 ++ .sub h k :: l2) := by
  have hu : ∀ x, one b x + blkN v0 x + blkN v1 x + owns kids x ≤ 1 := fun x => by
    have := H.uniq x
    simp only [total_append, total_cons, nodeR, rowI, rowN, foot_cell, foot_row, foot_sub, foot_subs] at this
    omega
  have hn : NodeAt base w ⟨b, its.length, inter its (kids.map Kid.L), fun x => one b x + blkN v0 x + blkN v1 x + owns kids x⟩ its kids v0 v1 :=
    ⟨(H.sat (nodeR b v0 v1) (by simp)).2, (H.sat (nodeR b v0 v1) (by simp)).1, H.sat (rowI v0 its) (by simp), H.sat (rowN v1 kids) (by simp), rfl, rfl, fun _ => rfl, hu⟩
  have hk : ∀ x ∈ kids, Sub base w (h - 1) x := H.sat (.subs (h - 1) kids) (by simp)
  refine ⟨⟨b, its.length, inter its (kids.map Kid.L), fun x => one b x + blkN v0 x + blkN v1 x + owns kids x⟩, rfl, rfl, rfl, H.conv (fun x => ?_) (fun r hr => ?_)⟩
  · simp only [total_append, total_cons, nodeR, rowI, rowN, foot_cell, foot_row, foot_sub, foot_subs]
    omega
  · simp only [List.mem_append, List.mem_cons] at hr
    rcases hr with hr | rfl | hr
    · exact H.sat r (by simp [hr])
    · refine Sub.shut hn ?_ hf
      rcases hsh with ⟨rfl, rfl⟩ | ⟨hp, hl⟩
      · rfl
      · obtain ⟨h', rfl⟩ : ∃ h', h = h' + 1 := ⟨h - 1, by omega⟩
        exact ⟨hl, hk⟩
    · exact H.sat r (by simp [hr])
theorem Hold.take {base : Nat} {w0 w : World} {K0 : Nat → Nat} (l1 : List Res) {h : Nat} {a : List Kid} {k : Kid} {d : List Kid} {l2 : List Res} (H : Hold base w0 K0 w (l1 ++ .subs h (a ++ k :: d) :: l2)) : Hold base w0 K0 w (l1 ++ .sub h k :: .subs h (a ++ d) :: l2) := by
  have hk : ∀ x ∈ a ++ k :: d, Sub base w h x := H.sat (.subs h (a ++ k :: d)) (by simp)
  refine H.conv (fun x => ?_) (fun r hr => ?_)
  · simp only [total_append, total_cons, foot_sub, foot_subs, owns_append, owns_cons]
    omega
  · simp only [List.mem_append, List.mem_cons] at hr
    rcases hr with hr | rfl | rfl | hr
    · exact H.sat r (by simp [hr])
    · exact hk k (by simp)
    · exact fun x hx => hk x (by simp at hx ⊢; rcases hx with h | h <;> simp [h])
    · exact H.sat r (by simp [hr])
theorem Hold.give {base : Nat} {w0 w : World} {K0 : Nat → Nat} (l1 : List Res) {h : Nat} (a : List Kid) {k : Kid} (d : List Kid) {l2 : List Res} (H : Hold base w0 K0 w (l1 ++ .sub h k :: .subs h (a ++ d) :: l2)) : Hold base w0 K0 w (l1 ++ .subs h (a ++ k :: d) :: l2) := by
  have hk : ∀ x ∈ a ++ d, Sub base w h x := H.sat (.subs h (a ++ d)) (by simp)
  have hk2 : Sub base w h k := H.sat (.sub h k) (by simp)
  refine H.conv (fun x => ?_) (fun r hr => ?_)
  · simp only [total_append, total_cons, foot_sub, foot_subs, owns_append, owns_cons]
    omega
  · simp only [List.mem_append, List.mem_cons] at hr
    rcases hr with hr | rfl | hr
    · exact H.sat r (by simp [hr])
    · intro x hx
      simp at hx
      rcases hx with h1 | rfl | h1
      · exact hk x (by simp [h1])
      · exact hk2
      · exact hk x (by simp [h1])
    · exact H.sat r (by simp [hr])
theorem Hold.front {base : Nat} {w0 w : World} {K0 : Nat → Nat} (l1 : List Res) {r : Res} {l2 : List Res} (H : Hold base w0 K0 w (l1 ++ r :: l2)) : Hold base w0 K0 w (r :: (l1 ++ l2)) :=
  H.conv (fun x => by simp only [total_append, total_cons]; omega) (fun q hq => H.sat q (by
    simp only [List.mem_append, List.mem_cons] at hq ⊢
    rcases hq with h | h | h
    · exact .inr (.inl h)
    · exact .inl h
    · exact .inr (.inr h)))
theorem Hold.part {base : Nat} {w0 w : World} {K0 : Nat → Nat} (l1 : List Res) {h : Nat} {a d : List Kid} {l2 : List Res} (H : Hold base w0 K0 w (l1 ++ .subs h (a ++ d) :: l2)) : Hold base w0 K0 w (l1 ++ .subs h a :: .subs h d :: l2) := by
  have hk : ∀ x ∈ a ++ d, Sub base w h x := H.sat (.subs h (a ++ d)) (by simp)
  refine H.conv (fun x => ?_) (fun r hr => ?_)
  · simp only [total_append, total_cons, foot_sub, foot_subs, owns_append, owns_cons]
    omega
  · simp only [List.mem_append, List.mem_cons] at hr
    rcases hr with hr | rfl | rfl | hr
    · exact H.sat r (by simp [hr])
    · exact fun x hx => hk x (by simp [hx])
    · exact fun x hx => hk x (by simp [hx])
    · exact H.sat r (by simp [hr])
theorem rowN_congr {v : Value} {a b : List Kid} (h : a.map Kid.b = b.map Kid.b) : rowN v a = rowN v b := by
  have e : ∀ l : List Kid, (l.map fun y => ptrV y.b) = (l.map Kid.b).map ptrV := fun l => by rw [List.map_map]; rfl
  have hl : a.length = b.length := by have := congrArg List.length h; simpa using this
  unfold rowN
  rw [e, e, h, hl]
theorem Hold.start {base : Nat} {w : World} {h : Nat} {k : Kid} (hs : Sub base w h k) : Hold base w k.own w [.sub h k] :=
  ⟨fun r hr => by simp at hr; subst hr; exact hs, fun x => by rw [total_cons, total_nil, foot_sub]; have := hs.uniq x; omega, fun x _ => by rw [total_cons, total_nil, foot_sub]; omega, Kept.refl _ w⟩
end Go.Proofs.YtjpmomklkkifjaaGreatDoor.T
