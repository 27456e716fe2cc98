/-
  What stands between the signs '/' of a text, as lists. Plain facts; no Go text. Entries in their order: rows between rows, put, taken away. Plain facts. How a tree lies in memory: which blocks are its own, what is kept where only its own blocks are written. Plain facts.
-/
import Derived.Lib.SplitLaws
import Derived.Lib.IndexBytes
import Derived.Lib.Bytealg
import Derived.Below
import Derived.Maps.AppendAt
import Derived.Deep.Draws
namespace Go.Proofs.YtjpmomklkkifjaaGreatDoor.T
set_option maxRecDepth 100000

/-- Pieces between bytes 47. -/
def cutS : List UInt8 → List (List UInt8)
  | [] => [[]]
  | c :: l => if c = 47 then [] :: cutS l else match cutS l with | [] => [[c]] | a :: t => (c :: a) :: t

theorem cutS_ne (l : List UInt8) : cutS l ≠ [] := by
  cases l with
  | nil => simp [cutS]
  | cons c l =>
    unfold cutS
    split
    · simp
    · split <;> simp
theorem splitK_ne {c : UInt8} (h : c ≠ 47) : ∀ (k : Nat) (l : List UInt8), ∃ a t, Lib.splitK [47] 0 k l = a :: t ∧ Lib.splitK [47] 0 k (c :: l) = (c :: a) :: t
  | 0, l => ⟨l, [], rfl, rfl⟩
  | k + 1, l => by
    have hi : Lib.index (c :: l) [47] = if Lib.index l [47] == -1 then -1 else Lib.index l [47] + 1 := by
      rw [Lib.index_one, Lib.index_one]
      have e : (c == 47) = false := by simpa using h
      rw [Lib.indexByte, e]
      rfl
    have hg := Lib.index_ge l [47]
    by_cases hm : Lib.index l [47] = -1
    · refine ⟨l, [], ?_, ?_⟩
      · unfold Lib.splitK; rw [if_pos (by simp [hm])]
      · unfold Lib.splitK; rw [if_pos (by rw [hi]; simp [hm])]
    · have hm' : ¬ (Lib.index l [47] == -1) = true := by simpa using hm
      refine ⟨l.take ((Lib.index l [47]).toNat + 0), Lib.splitK [47] 0 k (l.drop ((Lib.index l [47]).toNat + 1)), ?_, ?_⟩
      · rw [Lib.splitK, if_neg hm']; rfl
      · rw [Lib.splitK, hi, if_neg hm', if_neg (by simp; omega)]
        have : (Lib.index l [47] + 1).toNat = (Lib.index l [47]).toNat + 1 := by omega
        rw [this]
        rfl
theorem splitK_eq (k : Nat) (l : List UInt8) : Lib.splitK [47] 0 (k + 1) (47 :: l) = [] :: Lib.splitK [47] 0 k l := by
  have hi : Lib.index (47 :: l) [47] = 0 := by rw [Lib.index_one]; rfl
  rw [Lib.splitK, hi, if_neg (by decide)]
  rfl
theorem splitK_cut : ∀ l : List UInt8, Lib.splitK [47] 0 (l.count 47) l = cutS l
  | [] => rfl
  | c :: l => by
    have ih := splitK_cut l
    by_cases h : c = 47
    · subst h
      rw [List.count_cons_self, splitK_eq, ih]
      simp [cutS]
    · rw [List.count_cons_of_ne h]
      obtain ⟨a, t, h1, h2⟩ := splitK_ne h (l.count 47) l
      rw [h2]
      unfold cutS
      rw [if_neg h, ← ih, h1]
/-- A text without the sign is one piece. -/
theorem cutS_none : ∀ {l : List UInt8}, (47 : UInt8) ∉ l → cutS l = [l]
  | [], _ => rfl
  | c :: l, h => by
    have h1 : c ≠ 47 := fun e => h (by simp [e])
    unfold cutS
    rw [if_neg h1, cutS_none fun e => h (by simp [e])]
theorem cutS_append : ∀ {a : List UInt8} (l : List UInt8), (47 : UInt8) ∉ a → cutS (a ++ 47 :: l) = a :: cutS l
  | [], l, _ => by simp [cutS]
  | c :: a, l, h => by
    have h1 : c ≠ 47 := fun e => h (by simp [e])
    rw [List.cons_append, cutS, if_neg h1, cutS_append l fun e => h (by simp [e])]
/-- Pieces joined. -/
def joinP {α : Type} (x : α) : List (List α) → List α
  | [] => []
  | [a] => a
  | a :: b :: t => a ++ x :: joinP x (b :: t)
theorem cut_join : ∀ (ps : List (List UInt8)), ps ≠ [] → (∀ p ∈ ps, (47 : UInt8) ∉ p) → cutS (joinP 47 ps) = ps
  | [], h, _ => absurd rfl h
  | [a], _, h => cutS_none (h a (by simp))
  | a :: b :: t, _, h => by
    rw [joinP, cutS_append _ (h a (by simp)), cut_join (b :: t) (by simp) fun p hp => h p (List.mem_cons_of_mem _ hp)]
theorem join_cut : ∀ l : List UInt8, joinP 47 (cutS l) = l
  | [] => rfl
  | c :: l => by
    have ih := join_cut l
    unfold cutS
    split
    · rename_i h
      subst h
      cases hc : cutS l with
      | nil => exact absurd hc (cutS_ne l)
      | cons a t => rw [joinP, ← hc, ih]; rfl
    · cases hc : cutS l with
      | nil => exact absurd hc (cutS_ne l)
      | cons a t =>
        rw [hc] at ih
        simp only
        cases t with
        | nil => simp only [joinP] at ih ⊢; rw [ih]
        | cons b t => simp only [joinP] at ih ⊢; rw [List.cons_append, ih]
theorem cut_no47 : ∀ (l : List UInt8), ∀ p ∈ cutS l, (47 : UInt8) ∉ p
  | [], p, hp => by simp [cutS] at hp; simp [hp]
  | c :: l, p, hp => by
    have ih := cut_no47 l
    unfold cutS at hp
    split at hp
    · rcases List.mem_cons.1 hp with rfl | hp
      · simp
      · exact ih p hp
    · rename_i h
      cases hc : cutS l with
      | nil => exact absurd hc (cutS_ne l)
      | cons a t =>
        rw [hc] at hp ih
        rcases List.mem_cons.1 hp with rfl | hp
        · intro e
          rcases List.mem_cons.1 e with e | e
          · exact h e.symm
          · exact ih a (by simp) e
        · exact ih p (by simp [hp])
end Go.Proofs.YtjpmomklkkifjaaGreatDoor.T
namespace Go.Proofs.YtjpmomklkkifjaaGreatDoor.T
open Go.Lib
set_option maxRecDepth 100000

theorem cmp_neg : ∀ a b : List UInt8, compareBytes b a = - compareBytes a b
  | [], [] => rfl
  | [], _ :: _ => rfl
  | _ :: _, [] => rfl
  | x :: a, y :: b => by
    unfold compareBytes
    by_cases h1 : x < y
    · have h2 : ¬ y < x := by rw [UInt8.lt_iff_toNat_lt] at *; omega
      rw [if_neg h2, if_pos h1, if_pos h1]
      decide
    · by_cases h2 : y < x
      · rw [if_pos h2, if_neg h1, if_pos h2]
      · rw [if_neg h2, if_neg h1, if_neg h1, if_neg h2]
        exact cmp_neg a b
theorem cmp_range : ∀ a b : List UInt8, -1 ≤ compareBytes a b ∧ compareBytes a b ≤ 1
  | [], [] => by decide
  | [], _ :: _ => by simp [compareBytes]
  | _ :: _, [] => by simp [compareBytes]
  | x :: a, y :: b => by
    unfold compareBytes
    have := cmp_range a b
    repeat' split
    all_goals omega
theorem cmp_zero : ∀ a b : List UInt8, compareBytes a b = 0 ↔ a = b
  | [], [] => by simp [compareBytes]
  | [], _ :: _ => by simp [compareBytes]
  | _ :: _, [] => by simp [compareBytes]
  | x :: a, y :: b => by
    unfold compareBytes
    by_cases h1 : x < y
    · rw [if_pos h1]
      simp only [List.cons.injEq]
      constructor
      · intro h; omega
      · rintro ⟨rfl, _⟩
        rw [UInt8.lt_iff_toNat_lt] at h1
        omega
    · rw [if_neg h1]
      by_cases h2 : y < x
      · rw [if_pos h2]
        simp only [List.cons.injEq]
        constructor
        · intro h; omega
        · rintro ⟨rfl, _⟩
          rw [UInt8.lt_iff_toNat_lt] at h2
          omega
      · rw [if_neg h2, cmp_zero a b]
        have e : x = y := by
          rw [UInt8.lt_iff_toNat_lt] at h1 h2
          exact UInt8.toNat_inj.1 (by omega)
        simp [e]
theorem cmp_trans : ∀ a b c : List UInt8, compareBytes a b < 0 → compareBytes b c < 0 → compareBytes a c < 0
  | [], [], _, h, _ => by simp [compareBytes] at h
  | _ :: _, [], _, h, _ => by simp [compareBytes] at h
  | _, _ :: _, [], _, h => by simp [compareBytes] at h
  | [], _ :: _, _ :: _, _, _ => by simp [compareBytes]
  | x :: a, y :: b, z :: c, h1, h2 => by
    unfold compareBytes at h1 h2 ⊢
    simp only [UInt8.lt_iff_toNat_lt] at h1 h2 ⊢
    have ih := cmp_trans a b c
    repeat' split at h1
    all_goals repeat' split at h2
    all_goals repeat' split
    all_goals first | omega | (exact ih h1 h2)

/-- How two keys compare. -/
def cmpB (a b : ByteArray) : Int := compareBytes a.data.toList b.data.toList
/-- The first key is lower. -/
def kLt (a b : ByteArray) : Prop := cmpB a b < 0

theorem cmpB_neg (a b : ByteArray) : cmpB b a = - cmpB a b := cmp_neg _ _
theorem cmpB_zero (a b : ByteArray) : cmpB a b = 0 ↔ a = b := by
  unfold cmpB
  rw [cmp_zero]
  constructor
  · intro h
    cases a; cases b
    simp only at h
    congr 1
    exact Array.toList_inj.1 h
  · rintro rfl; rfl
theorem kLt_trans {a b c : ByteArray} (h : kLt a b) (k : kLt b c) : kLt a c := cmp_trans _ _ _ h k
theorem kLt_irrefl (a : ByteArray) : ¬ kLt a a := by
  unfold kLt
  rw [(cmpB_zero a a).2 rfl]
  decide
theorem kLt_asymm {a b : ByteArray} (h : kLt a b) : ¬ kLt b a := fun k => kLt_irrefl a (kLt_trans h k)
theorem kLt_ne {a b : ByteArray} (h : kLt a b) : a ≠ b := fun e => kLt_irrefl a (by rw [← e] at h; exact h)
/-- One of three. -/
theorem kLt_tri (a b : ByteArray) : kLt a b ∨ a = b ∨ kLt b a := by
  unfold kLt
  rw [cmpB_neg a b, ← cmpB_zero a b]
  omega
instance (a b : ByteArray) : Decidable (kLt a b) := inferInstanceAs (Decidable (cmpB a b < 0))

/-- An entry under its key. -/
structure Item where
  key : ByteArray
  name : ByteArray
  node : Int

/-- In order, no key twice. -/
def Sorted (l : List Item) : Prop := l.Pairwise fun a b => kLt a.key b.key

/-- Rows with entries between them; no rows: the entries alone. -/
def inter : List Item → List (List Item) → List Item
  | its, [] => its
  | [], l :: _ => l
  | i :: its, l :: ls => l ++ i :: inter its ls
/-- What stands ahead of a row. -/
def pre : List Item → List (List Item) → List Item
  | i :: its, l :: ls => l ++ i :: pre its ls
  | _, _ => []
/-- What stands behind a row. -/
def post : List Item → List (List Item) → List Item
  | i :: its, l :: ls => i :: (l ++ post its ls)
  | _, _ => []

theorem inter_nil (its : List Item) : inter its [] = its := by cases its <;> rfl
theorem inter_post : ∀ (its : List Item) (l : List Item) (ls : List (List Item)), its.length = ls.length → inter its (l :: ls) = l ++ post its ls
  | [], l, [], _ => by simp [inter, post]
  | i :: its, l, m :: ls, h => by
    simp only [inter, post]
    rw [inter_post its m ls (by simpa using h)]
theorem inter_split : ∀ (a : List Item) (x : List (List Item)) (c : List Item) (l : List Item) (y : List (List Item)), a.length = x.length → c.length = y.length →
    inter (a ++ c) (x ++ l :: y) = pre a x ++ l ++ post c y
  | [], [], c, l, y, _, h => by simpa [pre] using inter_post c l y h
  | i :: a, m :: x, c, l, y, h1, h2 => by
    simp only [List.cons_append, inter, pre, List.append_assoc]
    rw [inter_split a x c l y (by simpa using h1) h2]
    simp
/-- Two parts with an entry between them. -/
theorem inter_two : ∀ (a : List Item) (x : List (List Item)) (m : Item) (c : List Item) (y : List (List Item)), x.length = a.length + 1 → y.length = c.length + 1 →
    inter (a ++ m :: c) (x ++ y) = inter a x ++ m :: inter c y
  | [], [l], m, c, y, _, h2 => by simp [inter]
  | i :: a, l :: x, m, c, y, h1, h2 => by
    simp only [List.cons_append, inter, List.append_assoc]
    rw [inter_two a x m c y (by simpa using h1) h2]

theorem pre_last : ∀ (a : List Item) (x : List (List Item)), a.length = x.length → a ≠ [] → ∃ p i, i ∈ a ∧ pre a x = p ++ [i]
  | [i], [l], _, _ => ⟨l, i, by simp, by simp [pre]⟩
  | i :: j :: a, l :: x, h, _ => by
    obtain ⟨p, q, hq, e⟩ := pre_last (j :: a) x (by simpa using h) (by simp)
    exact ⟨l ++ i :: p, q, List.mem_cons_of_mem _ hq, by simp [pre, e]⟩
  | [], _, _, h => absurd rfl h
theorem post_first : ∀ (c : List Item) (y : List (List Item)), c.length = y.length → ∀ i c', c = i :: c' → ∃ p, post c y = i :: p
  | _, l :: y, h, i, c', e => by subst e; exact ⟨_, rfl⟩
  | _, [], h, i, c', e => by subst e; simp at h

theorem Sorted.mid {a b c : List Item} (h : Sorted (a ++ b ++ c)) : Sorted b :=
  (List.pairwise_append.1 (List.pairwise_append.1 h).1).2.1

/-- What stands ahead of a row is lower than a key that the entries ahead are lower than. -/
theorem pre_low {a : List Item} {x : List (List Item)} {t : List Item} {key : ByteArray} (hl : a.length = x.length) (hs : Sorted (pre a x ++ t)) (h : ∀ i ∈ a, kLt i.key key) : ∀ i ∈ pre a x, kLt i.key key := by
  by_cases ha : a = []
  · subst ha
    intro i hi
    cases x <;> simp [pre] at hi
  · obtain ⟨p, q, hq, e⟩ := pre_last a x hl ha
    rw [e] at hs ⊢
    intro i hi
    rcases List.mem_append.1 hi with h1 | h1
    · have := (List.pairwise_append.1 (List.pairwise_append.1 hs).1).2.2 i h1 q (by simp)
      exact kLt_trans this (h q hq)
    · simp at h1
      subst h1
      exact h i hq
theorem post_high {c : List Item} {y : List (List Item)} {t : List Item} {key : ByteArray} (hl : c.length = y.length) (hs : Sorted (t ++ post c y)) (h : ∀ i ∈ c, kLt key i.key) : ∀ i ∈ post c y, kLt key i.key := by
  cases c with
  | nil =>
    intro i hi
    cases y <;> simp [post] at hi
  | cons q c' =>
    obtain ⟨p, e⟩ := post_first (q :: c') y hl q c' rfl
    rw [e] at hs ⊢
    intro i hi
    rcases List.mem_cons.1 hi with h1 | h1
    · subst h1; exact h i (by simp)
    · have := (List.pairwise_cons.1 (List.pairwise_append.1 hs).2.1).1 i h1
      exact kLt_trans (h q (by simp)) this

/-- The entries between the rows are in order, if all is. -/
theorem inter_sub : ∀ (its : List Item) (ls : List (List Item)), ls = [] ∨ ls.length = its.length + 1 → its.Sublist (inter its ls)
  | its, [], _ => by rw [inter_nil]; exact List.Sublist.refl _
  | [], l :: _, _ => by simp
  | i :: its, l :: ls, h => by
    have h' : ls.length = its.length + 1 := by rcases h with h | h <;> simp at h; exact h
    simp only [inter]
    exact List.Sublist.trans (List.Sublist.cons_cons i (inter_sub its ls (.inr h'))) (List.sublist_append_right _ _)
theorem Sorted.items {its : List Item} {ls : List (List Item)} (h : Sorted (inter its ls)) (hl : ls = [] ∨ ls.length = its.length + 1) : Sorted its :=
  List.Pairwise.sublist (inter_sub its ls hl) h

/-- An entry is put. -/
def putL : List Item → Item → List Item
  | [], it => [it]
  | x :: xs, it => if kLt it.key x.key then it :: x :: xs else if x.key = it.key then it :: xs else x :: putL xs it

theorem putL_low {it : Item} : ∀ (a m : List Item), (∀ i ∈ a, kLt i.key it.key) → putL (a ++ m) it = a ++ putL m it
  | [], _, _ => rfl
  | x :: a, m, h => by
    have h1 := h x (by simp)
    simp only [List.cons_append, putL]
    rw [if_neg (kLt_asymm h1), if_neg (kLt_ne h1), putL_low a m (fun i hi => h i (by simp [hi]))]
theorem putL_high {it : Item} : ∀ (m c : List Item), (∀ i ∈ c, kLt it.key i.key) → putL (m ++ c) it = putL m it ++ c
  | [], [], _ => rfl
  | [], y :: c, h => by
    simp only [List.nil_append, putL]
    rw [if_pos (h y (by simp))]
    rfl
  | x :: m, c, h => by
    simp only [List.cons_append, putL]
    split
    · rfl
    · split
      · rfl
      · rw [putL_high m c h]; rfl
theorem putL_at {it : Item} (a c : List Item) (ha : ∀ i ∈ a, kLt i.key it.key) (hc : ∀ i ∈ c, kLt it.key i.key) : putL (a ++ c) it = a ++ it :: c := by
  rw [putL_low a c ha, show c = [] ++ c from rfl, putL_high [] c hc]
  rfl
theorem putL_same {it x : Item} (a c : List Item) (ha : ∀ i ∈ a, kLt i.key it.key) (hx : x.key = it.key) : putL (a ++ x :: c) it = a ++ it :: c := by
  rw [putL_low a _ ha]
  simp only [putL]
  rw [if_neg (by rw [hx]; exact kLt_irrefl _), if_pos hx]

theorem putL_mem {it y : Item} : ∀ (l : List Item), y ∈ putL l it → y = it ∨ y ∈ l
  | [], h => by simp [putL] at h; exact .inl h
  | x :: l, h => by
    simp only [putL] at h
    split at h
    · exact List.mem_cons.1 h
    · split at h
      · exact (List.mem_cons.1 h).imp id (List.mem_cons_of_mem _)
      · rcases List.mem_cons.1 h with h1 | h1
        · right; simp [h1]
        · rcases putL_mem l h1 with h2 | h2
          · exact .inl h2
          · right; simp [h2]
theorem putL_sorted {it : Item} : ∀ {l : List Item}, Sorted l → Sorted (putL l it)
  | [], _ => by simp [putL, Sorted]
  | x :: l, h => by
    have h0 := List.pairwise_cons.1 h
    simp only [putL]
    split
    · rename_i h1
      refine List.pairwise_cons.2 ⟨fun y hy => ?_, h⟩
      rcases List.mem_cons.1 hy with h2 | h2
      · subst h2; exact h1
      · exact kLt_trans h1 (h0.1 y h2)
    · split
      · rename_i h1 h2
        exact List.pairwise_cons.2 ⟨fun y hy => by rw [← h2]; exact h0.1 y hy, h0.2⟩
      · rename_i h1 h2
        refine List.pairwise_cons.2 ⟨fun y hy => ?_, putL_sorted h0.2⟩
        rcases putL_mem l hy with h3 | h3
        · subst h3
          rcases kLt_tri x.key y.key with h4 | h4 | h4
          · exact h4
          · exact absurd h4 h2
          · exact absurd h4 h1
        · exact h0.1 y h3

/-- The entry of a key. -/
def getL (l : List Item) (key : ByteArray) : Option Item := l.find? fun x => decide (x.key = key)
/-- No entry of a key any more. -/
def dropL (l : List Item) (key : ByteArray) : List Item := l.filter fun x => !decide (x.key = key)
/-- Those behind a key. -/
def afterL (l : List Item) (key : ByteArray) : List Item := l.filter fun x => decide (kLt key x.key)

end Go.Proofs.YtjpmomklkkifjaaGreatDoor.T
namespace Go.Proofs.YtjpmomklkkifjaaGreatDoor.T
open Go.RowKit
set_option maxRecDepth 100000

/-- All blocks that were there are as they were, but those of S. -/
structure Kept (S : Nat → Prop) (w w' : World) : Prop where
  os : w'.os = w.os
  tape : w'.tape = w.tape
  output : w'.output = w.output
  size : w.heap.size ≤ w'.heap.size
  block : ∀ k, k < w.heap.size → ¬ S k → w'.heap[k]? = w.heap[k]?

theorem Kept.refl (S : Nat → Prop) (w : World) : Kept S w w := ⟨rfl, rfl, rfl, Nat.le_refl _, fun _ _ _ => rfl⟩
theorem Kept.trans {S T : Nat → Prop} {a b c : World} (h : Kept S a b) (k : Kept T b c) (hT : ∀ x, x < a.heap.size → T x → S x) : Kept S a c :=
  ⟨k.os.trans h.os, k.tape.trans h.tape, k.output.trans h.output, Nat.le_trans h.size k.size,
    fun i hi hs => (k.block i (Nat.lt_of_lt_of_le hi h.size) (fun ht => hs (hT i hi ht))).trans (h.block i hi hs)⟩
theorem Kept.mono {S T : Nat → Prop} {w w' : World} (h : Kept S w w') (hT : ∀ x, x < w.heap.size → S x → T x) : Kept T w w' :=
  ⟨h.os, h.tape, h.output, h.size, fun k hk ht => h.block k hk (fun hs => ht (hT k hk hs))⟩
theorem Kept.drew {S : Nat → Prop} {a w : World} (h : Kept S a w) : Kept S a w.drew := ⟨h.os, h.tape, h.output, h.size, h.block⟩
theorem Kept.drewN {S : Nat → Prop} {a w : World} (n : Nat) (h : Kept S a w) : Kept S a (w.drewN n) := ⟨h.os, h.tape, h.output, h.size, h.block⟩
theorem Kept.alloc {S : Nat → Prop} {a w : World} (h : Kept S a w) (o : Obj) : Kept S a (w.alloc o) :=
  ⟨h.os, h.tape, h.output, Nat.le_trans h.size (by simp), fun k hk hs => (Below.heap_alloc _ _ _ (Nat.lt_of_lt_of_le hk h.size)).trans (h.block k hk hs)⟩
theorem Kept.setCell {S : Nat → Prop} {a w : World} (h : Kept S a w) {p : Addr} (hp : p.block < a.heap.size → S p.block) (u : Value) : Kept S a (w.setCell p u) :=
  ⟨h.os, h.tape, h.output, Nat.le_trans h.size (by simp [World.setCell]), fun k hk hs => (Below.heap_setCell _ _ _ _ (fun e => hs (by subst e; exact hp hk))).trans (h.block k hk hs)⟩
theorem Kept.grown {S : Nat → Prop} {a w w' : World} {row : Option Nat} (h : Kept S a w) (hg : w.grownBy w' row) (hr : ∀ k, row = some k → k < a.heap.size → S k) : Kept S a w' :=
  ⟨hg.os.trans h.os, hg.tape.trans h.tape, hg.output.trans h.output, Nat.le_trans h.size hg.size,
    fun k hk hs => (hg.block k (Nat.lt_of_lt_of_le hk h.size) (fun e => hs (hr k e.symm hk))).trans (h.block k hk hs)⟩
theorem Kept.of_below {S : Nat → Prop} {w w' : World} (h : Below w.heap.size w w') : Kept S w w' := ⟨h.os, h.tape, h.output, h.size, fun k hk _ => h.block k hk⟩
theorem Kept.below {S : Nat → Prop} {B : Nat} {w w' : World} (h : Kept S w w') (hB : B ≤ w.heap.size) (hS : ∀ x, S x → B ≤ x) : Below B w w' :=
  ⟨h.os, h.tape, h.output, h.size, fun k hk => h.block k (by omega) (fun hs => by have := hS k hs; omega)⟩
theorem Kept.cell {S : Nat → Prop} {w w' : World} (h : Kept S w w') {p : Addr} (hp : p.block < w.heap.size) (hs : ¬ S p.block) : w'.cell? p = w.cell? p :=
  World.cell?_of_block (w := w) (h.block p.block hp hs)
theorem Kept.frozen {S : Nat → Prop} {w w' : World} (h : Kept S w w') {p : Addr} (hp : p.block < w.heap.size) (hs : ¬ S p.block) : w'.frozen? p = w.frozen? p :=
  World.frozen?_of_block (w := w) (h.block p.block hp hs)
theorem Kept.row {S : Nat → Prop} {w w' : World} (h : Kept S w w') {base : Nat} {e : TypeId} {size : Nat} {v : Value} {n : Nat} {xs : List Value} (ho : w.ownsRow base e size v n xs) (hs : ∀ k, v.ownBlock = some k → ¬ S k) : w'.ownsRow base e size v n xs := by
  refine ⟨ho.1, ?_⟩
  rcases ho.2 with hn | ⟨g, cap, cur, rfl, hb, hgg, rest⟩
  · exact .inl hn
  · refine .inr ⟨g, cap, cur, rfl, hb, ?_, rest⟩
    rw [h.block g (Array.getElem?_eq_some_iff.1 hgg).1 (hs g rfl)]
    exact hgg

/-- An entry's three cells. -/
def cellsOf (it : Item) : List Value := [.string it.key, .string it.name, .int .i64 it.node]
def flat (l : List Item) : List Value := l.flatMap cellsOf
theorem flat_nil : flat [] = [] := rfl
theorem flat_cons (x : Item) (l : List Item) : flat (x :: l) = .string x.key :: .string x.name :: .int .i64 x.node :: flat l := rfl
theorem flat_append (a b : List Item) : flat (a ++ b) = flat a ++ flat b := by simp [flat]
theorem flat_length (l : List Item) : (flat l).length = l.length * 3 := by
  induction l with
  | nil => rfl
  | cons x l ih => rw [flat_cons]; simp [ih]; omega
theorem flat_take (l : List Item) (n : Nat) : (flat l).take (n * 3) = flat (l.take n) := by
  induction l generalizing n with
  | nil => simp [flat]
  | cons x l ih =>
    cases n with
    | zero => simp [flat]
    | succ n => rw [show (n + 1) * 3 = n * 3 + 1 + 1 + 1 by omega]; simp only [flat_cons, List.take_succ_cons, ih]
theorem flat_drop (l : List Item) (n : Nat) : (flat l).drop (n * 3) = flat (l.drop n) := by
  induction l generalizing n with
  | nil => simp [flat]
  | cons x l ih =>
    cases n with
    | zero => simp [flat]
    | succ n => rw [show (n + 1) * 3 = n * 3 + 1 + 1 + 1 by omega]; simp only [flat_cons, List.drop_succ_cons, ih]
theorem flat_get (l : List Item) (i : Nat) (h : i < l.length) : (flat l)[i * 3]? = some (.string (l[i]).key) ∧ (flat l)[i * 3 + 1]? = some (.string (l[i]).name) ∧ (flat l)[i * 3 + 2]? = some (.int .i64 (l[i]).node) := by
  induction l generalizing i with
  | nil => simp at h
  | cons x l ih =>
    cases i with
    | zero => simp [flat_cons]
    | succ i =>
      have := ih i (by simpa using h)
      rw [show (i + 1) * 3 = i * 3 + 1 + 1 + 1 by omega]
      simp only [flat_cons, List.getElem_cons_succ]
      simpa using this
theorem flat_one (l : List Item) : ∀ u ∈ flat l, u.oneCell' = true := by
  intro u hu
  obtain ⟨x, _, hx⟩ := List.mem_flatMap.1 hu
  simp [cellsOf] at hx
  rcases hx with rfl | rfl | rfl <;> rfl
/-- An entry in another's place. -/
theorem flat_set (l : List Item) (i : Nat) (x : Item) (h : i < l.length) : (((flat l).set (i * 3) (.string x.key)).set (i * 3 + 1) (.string x.name)).set (i * 3 + 2) (.int .i64 x.node) = flat (l.set i x) := by
  induction l generalizing i with
  | nil => simp at h
  | cons y l ih =>
    cases i with
    | zero => simp [flat_cons]
    | succ i =>
      have := ih i (by simpa using h)
      rw [show (i + 1) * 3 = i * 3 + 1 + 1 + 1 by omega]
      simp only [flat_cons, List.set_cons_succ, ← this]

def ptrV (b : Nat) : Value := .pointer (some ⟨b, 0, none⟩)

/-- A node: its block, how many entries it has itself, all entries from it on, and which blocks are its own (each once). -/
structure Kid where
  b : Nat
  c : Nat
  L : List Item
  own : Nat → Nat

def one (b x : Nat) : Nat := if x = b then 1 else 0
def blkN (v : Value) (x : Nat) : Nat := if v.ownBlock = some x then 1 else 0
def owns (kids : List Kid) (x : Nat) : Nat := (kids.map fun y => y.own x).sum
theorem owns_nil (x : Nat) : owns [] x = 0 := rfl
theorem owns_cons (k : Kid) (l : List Kid) (x : Nat) : owns (k :: l) x = k.own x + owns l x := by simp [owns]
theorem owns_append (a b : List Kid) (x : Nat) : owns (a ++ b) x = owns a x + owns b x := by simp [owns]
theorem owns_mem {l : List Kid} {k : Kid} (h : k ∈ l) (x : Nat) : k.own x ≤ owns l x := by
  induction l with
  | nil => simp at h
  | cons a l ih =>
    rw [owns_cons]
    rcases List.mem_cons.1 h with h | h
    · subst h; omega
    · have := ih h; omega

theorem owns_some {x : Nat} : ∀ {l : List Kid}, 0 < owns l x → ∃ y ∈ l, 0 < y.own x
  | [], h => by simp [owns_nil] at h
  | a :: l, h => by
    rw [owns_cons] at h
    by_cases h5 : 0 < a.own x
    · exact ⟨a, by simp, h5⟩
    · obtain ⟨y, hy, h6⟩ := owns_some (l := l) (x := x) (by omega)
      exact ⟨y, by simp [hy], h6⟩

/-- A node lies in memory: its own entries, the nodes below it. -/
structure NodeAt (base : Nat) (w : World) (k : Kid) (its : List Item) (kids : List Kid) (v0 v1 : Value) : Prop where
  cell : w.heap[k.b]? = some (.cells #[v0, v1] 188 (0, 0))
  low : base ≤ k.b
  items : w.ownsRow base 190 3 v0 its.length (flat its)
  below : w.ownsRow base 128 1 v1 kids.length (kids.map fun y => ptrV y.b)
  c : k.c = its.length
  L : k.L = inter its (kids.map Kid.L)
  own : ∀ x, k.own x = one k.b x + blkN v0 x + blkN v1 x + owns kids x
  uniq : ∀ x, k.own x ≤ 1

/-- What lies below a node: nothing, or nodes that are as deep as each other. -/
def Sub (base : Nat) (w : World) : Nat → Kid → Prop
  | 0, k => ∃ its v0 v1, NodeAt base w k its [] v0 v1
  | h + 1, k => ∃ its kids v0 v1, NodeAt base w k its kids v0 v1 ∧ kids.length = its.length + 1 ∧ ∀ x ∈ kids, 1 ≤ x.c ∧ x.c ≤ 3 ∧ Sub base w h x
/-- The nodes below one, however many entries each has. -/
def Kids (base : Nat) (w : World) : Nat → List Item → List Kid → Prop
  | 0, _, kids => kids = []
  | h + 1, its, kids => kids.length = its.length + 1 ∧ ∀ x ∈ kids, Sub base w h x
def Fit (k : Kid) : Prop := 1 ≤ k.c ∧ k.c ≤ 3

theorem Sub.open {base : Nat} {w : World} {h : Nat} {k : Kid} (hs : Sub base w h k) : ∃ its kids v0 v1, NodeAt base w k its kids v0 v1 ∧ Kids base w h its kids ∧ ∀ x ∈ kids, Fit x := by
  cases h with
  | zero =>
    obtain ⟨its, v0, v1, hn⟩ := hs
    exact ⟨its, [], v0, v1, hn, rfl, by simp⟩
  | succ h =>
    obtain ⟨its, kids, v0, v1, hn, hl, hk⟩ := hs
    exact ⟨its, kids, v0, v1, hn, ⟨hl, fun x hx => (hk x hx).2.2⟩, fun x hx => ⟨(hk x hx).1, (hk x hx).2.1⟩⟩
theorem Sub.shut {base : Nat} {w : World} {h : Nat} {k : Kid} {its : List Item} {kids : List Kid} {v0 v1 : Value} (hn : NodeAt base w k its kids v0 v1) (hk : Kids base w h its kids) (hf : ∀ x ∈ kids, Fit x) : Sub base w h k := by
  cases h with
  | zero =>
    obtain rfl : kids = [] := hk
    exact ⟨its, v0, v1, hn⟩
  | succ h => exact ⟨its, kids, v0, v1, hn, hk.1, fun x hx => ⟨(hf x hx).1, (hf x hx).2, hk.2 x hx⟩⟩

theorem NodeAt.lt {base : Nat} {w : World} {k : Kid} {its : List Item} {kids : List Kid} {v0 v1 : Value} (h : NodeAt base w k its kids v0 v1) : k.b < w.heap.size := (Array.getElem?_eq_some_iff.1 h.cell).1
theorem blkN_pos {v : Value} {x : Nat} : 0 < blkN v x ↔ v.ownBlock = some x := by unfold blkN; split <;> simp_all
theorem one_pos {b x : Nat} : 0 < one b x ↔ x = b := by unfold one; split <;> simp_all
theorem one_self (b : Nat) : one b b = 1 := by simp [one]
theorem blkN_self {v : Value} {x : Nat} (h : v.ownBlock = some x) : blkN v x = 1 := by simp [blkN, h]

/-- Where a tree's own blocks lie. -/
theorem Sub.range {base : Nat} {w : World} : ∀ {h : Nat} {k : Kid}, Sub base w h k → ∀ x, 0 < k.own x → base ≤ x ∧ x < w.heap.size
  | h, k, hs, x, hx => by
    obtain ⟨its, kids, v0, v1, hn, hk, _⟩ := hs.open
    rw [hn.own] at hx
    by_cases h1 : 0 < one k.b x
    · obtain rfl := one_pos.1 h1
      exact ⟨hn.low, hn.lt⟩
    · by_cases h2 : 0 < blkN v0 x
      · exact hn.items.lt x (blkN_pos.1 h2)
      · by_cases h3 : 0 < blkN v1 x
        · exact hn.below.lt x (blkN_pos.1 h3)
        · have h4 : 0 < owns kids x := by omega
          obtain ⟨y, hy, h5⟩ := owns_some h4
          cases h with
          | zero => obtain rfl : kids = [] := hk; simp at hy
          | succ h => exact Sub.range (hk.2 y hy) x h5
theorem NodeAt.kept {base : Nat} {w w' : World} {k : Kid} {its : List Item} {kids : List Kid} {v0 v1 : Value} {S : Nat → Prop} (h : NodeAt base w k its kids v0 v1) (hk : Kept S w w') (h0 : ¬ S k.b) (h1 : ∀ x, v0.ownBlock = some x → ¬ S x) (h2 : ∀ x, v1.ownBlock = some x → ¬ S x) : NodeAt base w' k its kids v0 v1 :=
  ⟨(hk.block k.b h.lt h0).trans h.cell, h.low, hk.row h.items h1, hk.row h.below h2, h.c, h.L, h.own, h.uniq⟩
theorem Sub.kept {base : Nat} {w w' : World} {S : Nat → Prop} (hk : Kept S w w') : ∀ {h : Nat} {k : Kid}, Sub base w h k → (∀ x, 0 < k.own x → ¬ S x) → Sub base w' h k
  | 0, k, hs, hn => by
    obtain ⟨its, v0, v1, h⟩ := hs
    refine ⟨its, v0, v1, h.kept hk (hn _ ?_) (fun x hx => hn x ?_) (fun x hx => hn x ?_)⟩
    · have := h.own k.b; rw [one_self] at this; omega
    · have := h.own x; rw [blkN_self hx] at this; omega
    · have := h.own x; rw [blkN_self hx] at this; omega
  | h + 1, k, hs, hn => by
    obtain ⟨its, kids, v0, v1, h, hl, hx⟩ := hs
    refine ⟨its, kids, v0, v1, h.kept hk (hn _ ?_) (fun x hx => hn x ?_) (fun x hx => hn x ?_), hl, fun y hy => ⟨(hx y hy).1, (hx y hy).2.1, Sub.kept hk (hx y hy).2.2 fun x hp => hn x ?_⟩⟩
    · have := h.own k.b; rw [one_self] at this; omega
    · have := h.own x; rw [blkN_self hx] at this; omega
    · have := h.own x; rw [blkN_self hx] at this; omega
    · have := h.own x; have := owns_mem hy x; omega
theorem Sub.uniq {base : Nat} {w : World} {h : Nat} {k : Kid} (hs : Sub base w h k) : ∀ x, k.own x ≤ 1 := by
  obtain ⟨_, _, _, _, hn, _⟩ := hs.open
  exact hn.uniq
theorem Sub.self {base : Nat} {w : World} {h : Nat} {k : Kid} (hs : Sub base w h k) : k.own k.b = 1 := by
  obtain ⟨_, _, _, _, hn, _⟩ := hs.open
  have h1 := hn.own k.b
  have h2 := hn.uniq k.b
  rw [one_self] at h1
  omega

/-- How many entries there are at least. -/
theorem inter_length : ∀ (its : List Item) (ls : List (List Item)), ls.length = its.length + 1 → (inter its ls).length = its.length + (ls.map List.length).sum
  | [], [l], _ => by simp [inter]
  | i :: its, l :: ls, h => by
    have := inter_length its ls (by simpa using h)
    simp only [inter, List.length_append, List.length_cons, this, List.map_cons, List.sum_cons]
    omega
theorem sum_ge (l : List Nat) (m : Nat) (h : ∀ x ∈ l, m ≤ x) : l.length * m ≤ l.sum := by
  induction l with
  | nil => simp
  | cons a l ih =>
    have h1 := h a (by simp)
    have h2 := ih fun x hx => h x (by simp [hx])
    simp only [List.length_cons, List.sum_cons, Nat.succ_mul]
    omega
theorem Sub.many {base : Nat} {w : World} : ∀ {h : Nat} {k : Kid}, Sub base w h k → 1 ≤ k.c → 2 ^ (h + 1) ≤ k.L.length + 1
  | 0, k, hs, hc => by
    obtain ⟨its, v0, v1, hn⟩ := hs
    have h1 := hn.c
    have h2 := hn.L
    simp only [List.map_nil, inter_nil] at h2
    rw [h2]
    simp
    omega
  | h + 1, k, hs, hc => by
    obtain ⟨its, kids, v0, v1, hn, hl, hk⟩ := hs
    have h1 := hn.c
    have h2 := hn.L
    rw [h2, inter_length its _ (by simpa using hl)]
    have h3 := sum_ge ((kids.map Kid.L).map List.length) (2 ^ (h + 1) - 1) (by
      intro x hx
      obtain ⟨z, hz, rfl⟩ := List.mem_map.1 hx
      obtain ⟨y, hy, rfl⟩ := List.mem_map.1 hz
      have := Sub.many (hk y hy).2.2 (hk y hy).1
      omega)
    simp only [List.length_map, hl] at h3
    have h4 : 2 * (2 ^ (h + 1) - 1) ≤ (its.length + 1) * (2 ^ (h + 1) - 1) := Nat.mul_le_mul_right _ (by omega)
    have h5 : 0 < 2 ^ (h + 1) := Nat.pow_pos (by decide)
    rw [Nat.pow_succ 2 (h + 1)]
    omega

end Go.Proofs.YtjpmomklkkifjaaGreatDoor.T
