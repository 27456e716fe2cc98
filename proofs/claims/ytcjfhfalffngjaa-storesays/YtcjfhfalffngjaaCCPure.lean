/-
  The small contracts of the log: Room, Next, number, and little.Number. The contract of little.Number. Entries in their order: rows between rows, put, taken away. Plain facts.
-/
import Derived.Test.YtcjfhfalffngjaaCRowC
import Derived.BigQuiet
import Derived.Lib.Bytealg
import Derived.Test.YtcjfhfalffngjaaCLight
namespace Go.Proofs.Ytcjfhfalffngjaa
open Go.RowKit Go.Lib
set_option maxRecDepth 100000
set_option linter.unusedVariables false
set_option linter.unusedSimpArgs false

/-- A log in memory. -/
def logR (lb db : Nat) (from_ many first used : Nat) : Res := .cell lb 119 [.pointer (some ⟨db, 0, none⟩), .int .i64 from_, .int .i64 many, .int .i64 first, .int .i64 used]

theorem room_calls (lb : Nat) (many used : Nat) (w : World) (hu : used ≤ many) (hm : many ≤ 1000000) (q2 : w.cell? ⟨lb, 2, none⟩ = some (.int .i64 many)) (q4 : w.cell? ⟨lb, 4, none⟩ = some (.int .i64 used)) :
    Calls Try.prog 42 #[.pointer (some ⟨lb, 0, none⟩)] w fun e w' => e = .returned (.int .i64 ((many - used : Nat) : Int)) ∧ ∃ n, w' = w.drewN n := by
  have he : ((many - used : Nat) : Int) = (many : Int) - (used : Int) := by omega
  rw [he]
  go_enter Try.func42, Try.ntmps42
  go_wp2_with fail
  go_quiet (fail)
  go_wp2_with fail
  go_ret
  exact ⟨rfl, nq, rfl⟩

theorem next_calls (lb : Nat) (many first : Nat) (w : World) (hf : first ≤ 1000000) (hm : many ≤ 1000000) (q2 : w.cell? ⟨lb, 2, none⟩ = some (.int .i64 many)) (q3 : w.cell? ⟨lb, 3, none⟩ = some (.int .i64 first)) :
    Calls Try.prog 43 #[.pointer (some ⟨lb, 0, none⟩)] w fun e w' => e = .returned (.int .i64 ((first + many : Nat) : Int)) ∧ ∃ n, w' = w.drewN n := by
  have he : ((first + many : Nat) : Int) = (first : Int) + (many : Int) := by omega
  rw [he]
  go_enter Try.func43, Try.ntmps43
  go_wp2_with fail
  go_quiet (fail)
  go_wp2_with fail
  go_ret
  exact ⟨rfl, nq, rfl⟩

theorem number_calls (lb : Nat) (first i : Nat) (w : World) (hf : first ≤ 1000000) (hi : i ≤ 1000000) (q3 : w.cell? ⟨lb, 3, none⟩ = some (.int .i64 first)) :
    Calls Try.prog 80 #[.pointer (some ⟨lb, 0, none⟩), .int .i64 i] w fun e w' => e = .returned (.int .u32 ((first + i : Nat) : Int)) ∧ w' = w := by
  have he : ((first + i : Nat) : Int) = (first : Int) + (i : Int) := by omega
  have hw : IntKind.u32.wrap ((first : Int) + (i : Int)) = (first : Int) + (i : Int) := by rw [IntKind.wrap_u32]; omega
  rw [he]
  go_enter Try.func80, Try.ntmps80
  go_wp2_with fail
  go_ret
  exact ⟨rfl, rfl⟩
#print axioms room_calls
#print axioms next_calls
#print axioms number_calls
end Go.Proofs.Ytcjfhfalffngjaa
namespace Go.Proofs.Ytcjfhfalffngjaa
open Go.RowKit Go.Lib
set_option maxRecDepth 100000
set_option linter.unusedVariables false
set_option linter.unusedSimpArgs false

/-- The number that bytes tell, the lowest first. -/
def numB : List UInt8 → Nat
  | [] => 0
  | b :: r => b.toNat + 256 * numB r
theorem numB_lt : ∀ l : List UInt8, numB l < 256 ^ l.length
  | [] => by simp [numB]
  | b :: r => by
    have h := numB_lt r
    have hb := b.toNat_lt
    simp only [numB, List.length_cons, Nat.pow_succ]
    omega

theorem or_low (q b : Nat) (hq : q < 16777216) (hb : b < 256) : bits .or .u32 ((q : Int) * 256 % 4294967296) ((b : Int) % 4294967296) = ((b + 256 * q : Nat) : Int) := by
  have h1 : (q : Int) * 256 % 4294967296 = ((q * 256 : Nat) : Int) := by omega
  have h2 : (b : Int) % 4294967296 = (b : Int) := by omega
  rw [h1, h2]
  unfold bits
  simp only [BitVec.toNat_or, BitVec.ofInt_natCast, BitVec.toNat_ofNat]
  have h3 : IntKind.u32.bits = 32 := rfl
  rw [h3, Nat.mod_eq_of_lt (by omega), Nat.mod_eq_of_lt (by omega)]
  have h4 := Nat.shiftLeft_add_eq_or_of_lt (i := 8) (b := b) (by omega) q
  rw [Nat.shiftLeft_eq] at h4
  have h5 : q * 256 ||| b = q * 256 + b := h4.symm
  rw [h5, IntKind.wrap_u32]
  omega
theorem drop_at (s : ByteArray) (j : Nat) (h : j < s.size) : s.data.toList.drop j = s[j] :: s.data.toList.drop (j + 1) := by
  rw [List.drop_eq_getElem_cons (by rw [Array.length_toList]; exact h)]
  rfl

set_option maxHeartbeats 800000 in
theorem number97_calls (s : ByteArray) (hs : s.size ≤ 4) (w : World) : Calls Try.prog 97 #[.string s] w fun e w' => e = .returned (.int .u32 (numB s.data.toList : Int)) ∧ ∃ n, w' = w.drewN n := by
  go_enter Try.func97, Try.ntmps97
  go_wp2_with fail
  go_loopg [3, 4] (s.size + 1) (fun g vn vi wr => ∃ (k : Nat), k < g ∧ k ≤ s.size ∧ vi = .int .i64 ((k : Int) - 1) ∧ vn = .int .u32 (numB (s.data.toList.drop k) : Int) ∧ ∃ n, wr = w.drewN n)
  case atStart => exact ⟨s.size, by omega, by omega, rfl, by rw [List.drop_of_length_le (by rw [Array.length_toList]; exact Nat.le_refl _)]; rfl, 0, rfl⟩
  case round =>
    obtain ⟨k, hg, hk, rfl, rfl, nw, rfl⟩ := hrel
    rcases Nat.eq_zero_or_pos k with h0 | h0
    · subst h0
      go_wp2_with fail
      go_ret
      exact ⟨rfl, nw, rfl⟩
    · obtain ⟨j, rfl⟩ : ∃ j, k = j + 1 := ⟨k - 1, by omega⟩
      have hj : ((j + 1 : Nat) : Int) - 1 = (j : Int) := by omega
      rw [hj]
      have hjs : j < s.size := by omega
      have hl := numB_lt (s.data.toList.drop (j + 1))
      obtain ⟨q, hq⟩ : ∃ q, numB (s.data.toList.drop (j + 1)) = q := ⟨_, rfl⟩
      have hlen : (s.data.toList.drop (j + 1)).length = s.size - (j + 1) := by rw [List.length_drop, Array.length_toList]; rfl
      rw [hq] at hl ⊢
      have hq3 : q < 16777216 := by
        rw [hlen] at hl
        exact Nat.lt_of_lt_of_le hl (Nat.le_trans (Nat.pow_le_pow_right (by omega) (by omega : s.size - (j + 1) ≤ 3)) (by decide))
      have hnx : numB (s.data.toList.drop j) = s[j].toNat + 256 * q := by rw [drop_at s j hjs, numB, hq]
      have Hnx := hide hnx
      have Hq3 := hide hq3
      have Hg := hide hg
      clear hl hlen hq hnx hg h0
      go_wp2_with fail
      go_roundg (j + 1)
      case measure => exact unhide Hg
      case rel =>
        refine ⟨j, by omega, by omega, by first | rfl | simp, ?_, nw, rfl⟩
        have hol := or_low q _ (unhide Hq3) (s[j].toNat_lt)
        have hm : (q : Int) * 256 % 4294967296 = (q : Int) * 256 := by have := unhide Hq3; omega
        rw [hm] at hol
        rw [unhide Hnx, hol]
#print axioms number97_calls
end Go.Proofs.Ytcjfhfalffngjaa
namespace Go.Proofs.Ytcjfhfalffngjaa
set_option linter.unusedVariables false
set_option linter.unusedSimpArgs false
open Go.Lib

theorem cmp_neg : ∀ a b : List UInt8, compareBytes b a = - compareBytes a b
  | [], [] => rfl
  | [], _ :: _ => rfl
  | _ :: _, [] => rfl
  | x :: a, y :: b => by
    unfold compareBytes
    by_cases h1 : x < y
    · have h2 : ¬ y < x := by rw [UInt8.lt_iff_toNat_lt] at *; omega
      rw [if_neg h2, if_pos h1, if_pos h1]
      decide
    · by_cases h2 : y < x
      · rw [if_pos h2, if_neg h1, if_pos h2]
      · rw [if_neg h2, if_neg h1, if_neg h1, if_neg h2]
        exact cmp_neg a b
theorem cmp_range : ∀ a b : List UInt8, -1 ≤ compareBytes a b ∧ compareBytes a b ≤ 1
  | [], [] => by decide
  | [], _ :: _ => by simp [compareBytes]
  | _ :: _, [] => by simp [compareBytes]
  | x :: a, y :: b => by
    unfold compareBytes
    have := cmp_range a b
    repeat' split
    all_goals omega
theorem cmp_zero : ∀ a b : List UInt8, compareBytes a b = 0 ↔ a = b
  | [], [] => by simp [compareBytes]
  | [], _ :: _ => by simp [compareBytes]
  | _ :: _, [] => by simp [compareBytes]
  | x :: a, y :: b => by
    unfold compareBytes
    by_cases h1 : x < y
    · rw [if_pos h1]
      simp only [List.cons.injEq]
      constructor
      · intro h; omega
      · rintro ⟨rfl, _⟩
        rw [UInt8.lt_iff_toNat_lt] at h1
        omega
    · rw [if_neg h1]
      by_cases h2 : y < x
      · rw [if_pos h2]
        simp only [List.cons.injEq]
        constructor
        · intro h; omega
        · rintro ⟨rfl, _⟩
          rw [UInt8.lt_iff_toNat_lt] at h2
          omega
      · rw [if_neg h2, cmp_zero a b]
        have e : x = y := by
          rw [UInt8.lt_iff_toNat_lt] at h1 h2
          exact UInt8.toNat_inj.1 (by omega)
        simp [e]
theorem cmp_trans : ∀ a b c : List UInt8, compareBytes a b < 0 → compareBytes b c < 0 → compareBytes a c < 0
  | [], [], _, h, _ => by simp [compareBytes] at h
  | _ :: _, [], _, h, _ => by simp [compareBytes] at h
  | _, _ :: _, [], _, h => by simp [compareBytes] at h
  | [], _ :: _, _ :: _, _, _ => by simp [compareBytes]
  | x :: a, y :: b, z :: c, h1, h2 => by
    unfold compareBytes at h1 h2 ⊢
    simp only [UInt8.lt_iff_toNat_lt] at h1 h2 ⊢
    have ih := cmp_trans a b c
    repeat' split at h1
    all_goals repeat' split at h2
    all_goals repeat' split
    all_goals first | omega | (exact ih h1 h2)

/-- How two keys compare. -/
def cmpB (a b : ByteArray) : Int := compareBytes a.data.toList b.data.toList
/-- The first key is lower. -/
def kLt (a b : ByteArray) : Prop := cmpB a b < 0

theorem cmpB_neg (a b : ByteArray) : cmpB b a = - cmpB a b := cmp_neg _ _
theorem cmpB_zero (a b : ByteArray) : cmpB a b = 0 ↔ a = b := by
  unfold cmpB
  rw [cmp_zero]
  constructor
  · intro h
    cases a; cases b
    simp only at h
    congr 1
    exact Array.toList_inj.1 h
  · rintro rfl; rfl
theorem kLt_trans {a b c : ByteArray} (h : kLt a b) (k : kLt b c) : kLt a c := cmp_trans _ _ _ h k
theorem kLt_irrefl (a : ByteArray) : ¬ kLt a a := by
  unfold kLt
  rw [(cmpB_zero a a).2 rfl]
  decide
theorem kLt_asymm {a b : ByteArray} (h : kLt a b) : ¬ kLt b a := fun k => kLt_irrefl a (kLt_trans h k)
theorem kLt_ne {a b : ByteArray} (h : kLt a b) : a ≠ b := fun e => kLt_irrefl a (by rw [← e] at h; exact h)
/-- One of three. -/
theorem kLt_tri (a b : ByteArray) : kLt a b ∨ a = b ∨ kLt b a := by
  unfold kLt
  rw [cmpB_neg a b, ← cmpB_zero a b]
  omega
instance (a b : ByteArray) : Decidable (kLt a b) := inferInstanceAs (Decidable (cmpB a b < 0))

/-- In order, no key twice. -/
def Sorted (l : List ChD) : Prop := l.Pairwise fun a b => kLt a.key b.key

/-- An entry is put. -/
def putL : List ChD → ChD → List ChD
  | [], it => [it]
  | x :: xs, it => if kLt it.key x.key then it :: x :: xs else if x.key = it.key then it :: xs else x :: putL xs it

theorem putL_low {it : ChD} : ∀ (a m : List ChD), (∀ i ∈ a, kLt i.key it.key) → putL (a ++ m) it = a ++ putL m it
  | [], _, _ => rfl
  | x :: a, m, h => by
    have h1 := h x (by simp)
    simp only [List.cons_append, putL]
    rw [if_neg (kLt_asymm h1), if_neg (kLt_ne h1), putL_low a m (fun i hi => h i (by simp [hi]))]
theorem putL_high {it : ChD} : ∀ (m c : List ChD), (∀ i ∈ c, kLt it.key i.key) → putL (m ++ c) it = putL m it ++ c
  | [], [], _ => rfl
  | [], y :: c, h => by
    simp only [List.nil_append, putL]
    rw [if_pos (h y (by simp))]
    rfl
  | x :: m, c, h => by
    simp only [List.cons_append, putL]
    split
    · rfl
    · split
      · rfl
      · rw [putL_high m c h]; rfl
theorem putL_at {it : ChD} (a c : List ChD) (ha : ∀ i ∈ a, kLt i.key it.key) (hc : ∀ i ∈ c, kLt it.key i.key) : putL (a ++ c) it = a ++ it :: c := by
  rw [putL_low a c ha, show c = [] ++ c from rfl, putL_high [] c hc]
  rfl
theorem putL_same {it x : ChD} (a c : List ChD) (ha : ∀ i ∈ a, kLt i.key it.key) (hx : x.key = it.key) : putL (a ++ x :: c) it = a ++ it :: c := by
  rw [putL_low a _ ha]
  simp only [putL]
  rw [if_neg (by rw [hx]; exact kLt_irrefl _), if_pos hx]

theorem putL_mem {it y : ChD} : ∀ (l : List ChD), y ∈ putL l it → y = it ∨ y ∈ l
  | [], h => by simp [putL] at h; exact .inl h
  | x :: l, h => by
    simp only [putL] at h
    split at h
    · exact List.mem_cons.1 h
    · split at h
      · exact (List.mem_cons.1 h).imp id (List.mem_cons_of_mem _)
      · rcases List.mem_cons.1 h with h1 | h1
        · right; simp [h1]
        · rcases putL_mem l h1 with h2 | h2
          · exact .inl h2
          · right; simp [h2]
theorem putL_sorted {it : ChD} : ∀ {l : List ChD}, Sorted l → Sorted (putL l it)
  | [], _ => by simp [putL, Sorted]
  | x :: l, h => by
    have h0 := List.pairwise_cons.1 h
    simp only [putL]
    split
    · rename_i h1
      refine List.pairwise_cons.2 ⟨fun y hy => ?_, h⟩
      rcases List.mem_cons.1 hy with h2 | h2
      · subst h2; exact h1
      · exact kLt_trans h1 (h0.1 y h2)
    · split
      · rename_i h1 h2
        exact List.pairwise_cons.2 ⟨fun y hy => by rw [← h2]; exact h0.1 y hy, h0.2⟩
      · rename_i h1 h2
        refine List.pairwise_cons.2 ⟨fun y hy => ?_, putL_sorted h0.2⟩
        rcases putL_mem l hy with h3 | h3
        · subst h3
          rcases kLt_tri x.key y.key with h4 | h4 | h4
          · exact h4
          · exact absurd h4 h2
          · exact absurd h4 h1
        · exact h0.1 y h3

/-- The entry of a key. -/
def getL (l : List ChD) (key : ByteArray) : Option ChD := l.find? fun x => decide (x.key = key)
/-- No entry of a key any more. -/
def dropL (l : List ChD) (key : ByteArray) : List ChD := l.filter fun x => !decide (x.key = key)
/-- Those behind a key. -/
def afterL (l : List ChD) (key : ByteArray) : List ChD := l.filter fun x => decide (kLt key x.key)

#print axioms putL_sorted
open Go.RowKit
/-- An entry's three cells. -/
def cellsOf (it : ChD) : List Value := [.string it.key, .string it.val, .bool it.gone]
def flat (l : List ChD) : List Value := l.flatMap cellsOf
theorem flat_nil : flat [] = [] := rfl
theorem flat_cons (x : ChD) (l : List ChD) : flat (x :: l) = .string x.key :: .string x.val :: .bool x.gone :: flat l := rfl
theorem flat_append (a b : List ChD) : flat (a ++ b) = flat a ++ flat b := by simp [flat]
theorem flat_length (l : List ChD) : (flat l).length = l.length * 3 := by
  induction l with
  | nil => rfl
  | cons x l ih => rw [flat_cons]; simp [ih]; omega
theorem flat_take (l : List ChD) (n : Nat) : (flat l).take (n * 3) = flat (l.take n) := by
  induction l generalizing n with
  | nil => simp [flat]
  | cons x l ih =>
    cases n with
    | zero => simp [flat]
    | succ n => rw [show (n + 1) * 3 = n * 3 + 1 + 1 + 1 by omega]; simp only [flat_cons, List.take_succ_cons, ih]
theorem flat_drop (l : List ChD) (n : Nat) : (flat l).drop (n * 3) = flat (l.drop n) := by
  induction l generalizing n with
  | nil => simp [flat]
  | cons x l ih =>
    cases n with
    | zero => simp [flat]
    | succ n => rw [show (n + 1) * 3 = n * 3 + 1 + 1 + 1 by omega]; simp only [flat_cons, List.drop_succ_cons, ih]
theorem flat_get (l : List ChD) (i : Nat) (h : i < l.length) : (flat l)[i * 3]? = some (.string (l[i]).key) ∧ (flat l)[i * 3 + 1]? = some (.string (l[i]).val) ∧ (flat l)[i * 3 + 2]? = some (.bool (l[i]).gone) := by
  induction l generalizing i with
  | nil => simp at h
  | cons x l ih =>
    cases i with
    | zero => simp [flat_cons]
    | succ i =>
      have := ih i (by simpa using h)
      rw [show (i + 1) * 3 = i * 3 + 1 + 1 + 1 by omega]
      simp only [flat_cons, List.getElem_cons_succ]
      simpa using this
theorem flat_one (l : List ChD) : ∀ u ∈ flat l, u.oneCell' = true := by
  intro u hu
  obtain ⟨x, _, hx⟩ := List.mem_flatMap.1 hu
  simp [cellsOf] at hx
  rcases hx with rfl | rfl | rfl <;> rfl
/-- An entry in another's place. -/
theorem flat_set (l : List ChD) (i : Nat) (x : ChD) (h : i < l.length) : (((flat l).set (i * 3) (.string x.key)).set (i * 3 + 1) (.string x.val)).set (i * 3 + 2) (.bool x.gone) = flat (l.set i x) := by
  induction l generalizing i with
  | nil => simp at h
  | cons y l ih =>
    cases i with
    | zero => simp [flat_cons]
    | succ i =>
      have := ih i (by simpa using h)
      rw [show (i + 1) * 3 = i * 3 + 1 + 1 + 1 by omega]
      simp only [flat_cons, List.set_cons_succ, ← this]

#print axioms flat_set
end Go.Proofs.Ytcjfhfalffngjaa
