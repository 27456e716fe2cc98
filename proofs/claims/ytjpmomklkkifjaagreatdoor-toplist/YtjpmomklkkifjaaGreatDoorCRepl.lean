/-
  What strings.ReplaceAll does to a text at 'c' and an 'h' just behind it. Plain facts.
-/
import Derived.Test.YtjpmomklkkifjaaGreatDoorCRune
import Derived.Lib.Replace
import Derived.Lib.CountLaws
namespace Go.Proofs.YtjpmomklkkifjaaGreatDoor
open Go.Lib
set_option maxRecDepth 100000

/-- 'c' and an 'h' just behind it are one together. -/
def repl : List Int → List Int
  | [] => []
  | [r] => [r]
  | r :: q :: t => if r = 99 ∧ q = 104 then 67 :: repl t else r :: repl (q :: t)
  termination_by l => l.length

def chL : List UInt8 := [99, 104]
def replB (s : List UInt8) : List UInt8 := replaceK chL [67] (count s chL) s

theorem replB_all (s : List UInt8) : replaceAll s [99, 104] [67] = replB s := by
  unfold replaceAll replace replaceNum replB chL
  rw [if_neg (by decide), if_pos (.inl (by decide))]

theorem replB_hit (t : List UInt8) : replB (99 :: 104 :: t) = 67 :: replB t := by
  have h : index (99 :: 104 :: t) chL = ((0 : Nat) : Int) := by
    unfold index chL
    rw [if_pos (by simp)]
    rfl
  unfold replB
  rw [count_hit (by decide) h]
  have e : List.drop (0 + chL.length) (99 :: 104 :: t) = t := rfl
  rw [e, Nat.add_comm, replaceK_hit _ _ _ _ 0 h, e]
  rfl
theorem replB_miss (b : UInt8) (t : List UInt8) (hn : chL.isPrefixOf (b :: t) = false) : replB (b :: t) = b :: replB t := by
  have hi : index (b :: t) chL = if index t chL == -1 then -1 else index t chL + 1 := by
    rw [index.eq_2, hn]
    simp
  unfold replB
  by_cases hm : index t chL = -1
  · have h2 : index (b :: t) chL = -1 := by rw [hi, hm]; rfl
    rw [count_miss hm, count_miss h2]
    rfl
  · obtain ⟨i, h1⟩ : ∃ i : Nat, index t chL = i := ⟨(index t chL).toNat, by have := index_ge t chL; omega⟩
    have h2 : index (b :: t) chL = ((i + 1 : Nat) : Int) := by
      rw [hi, if_neg (by simpa using hm), h1]
      simp
    rw [count_hit (by decide) h1, count_hit (by decide) h2]
    have e : List.drop (i + 1 + chL.length) (b :: t) = List.drop (i + chL.length) t := by
      rw [show i + 1 + chL.length = (i + chL.length) + 1 by omega, List.drop_succ_cons]
    rw [e, Nat.add_comm 1, replaceK_hit _ _ _ _ _ h2, replaceK_hit _ _ _ _ _ h1, e]
    rfl
theorem replB_nil : replB [] = [] := by decide

theorem head_miss (b : UInt8) (t : List UInt8) (h : b.toNat ≠ 99 ∨ ∀ c t', t = c :: t' → c.toNat ≠ 104) : chL.isPrefixOf (b :: t) = false := by
  unfold chL
  cases t with
  | nil => simp [List.isPrefixOf]
  | cons c t =>
    simp only [List.isPrefixOf, Bool.and_eq_false_iff, beq_eq_false_iff_ne]
    rcases h with h | h
    · left
      intro e
      apply h
      rw [← e]
      rfl
    · right
      left
      intro e
      apply h c t rfl
      rw [← e]
      rfl

theorem enc_head {r : Int} (h : SmallR r) (hne : r ≠ 104) (t : List Int) : ∀ c t', encL (r :: t) = c :: t' → c.toNat ≠ 104 := by
  intro c t' e
  have h2 := h.2
  have h0 := h.1
  rw [encL_cons] at e
  rcases Int.lt_or_le r 128 with h1 | h1
  · rw [enc_one h.1 h1] at e
    simp only [List.singleton_append, List.cons.injEq] at e
    rw [← e.1, u8 _ (by omega)]
    omega
  · rw [enc_two h1 h.2] at e
    simp only [List.cons_append, List.nil_append, List.cons.injEq] at e
    rw [← e.1, u8 _ (by omega)]
    omega

/-- A sign that is no 'c' ahead of an 'h' stays. -/
theorem repl_keep {r : Int} (h : SmallR r) (t : List Int) (hk : r ≠ 99 ∨ ∀ c t', encL t = c :: t' → c.toNat ≠ 104) : replB (encL (r :: t)) = Lib.encodeRune r ++ replB (encL t) := by
  have h2 := h.2
  have h0 := h.1
  rw [encL_cons]
  rcases Int.lt_or_le r 128 with h1 | h1
  · rw [enc_one h.1 h1]
    simp only [List.singleton_append]
    refine replB_miss _ _ (head_miss _ _ ?_)
    rcases hk with hk | hk
    · left
      rw [u8 _ (by omega)]
      omega
    · exact .inr hk
  · rw [enc_two h1 h.2]
    simp only [List.cons_append, List.nil_append]
    rw [replB_miss _ _ (head_miss _ _ (.inl (by rw [u8 _ (by omega)]; omega))), replB_miss _ _ (head_miss _ _ (.inl (by rw [u8 _ (by omega)]; omega)))]

theorem repl_enc : ∀ (n : Nat) (ts : List Int), ts.length ≤ n → (∀ r ∈ ts, SmallR r) → replB (encL ts) = encL (repl ts)
  | _, [], _, _ => by
    rw [encL_nil, replB_nil, repl, encL_nil]
  | 0, _ :: _, hn, _ => by simp at hn
  | n + 1, [r], _, h => by
    rw [repl_keep (h r (by simp)) [] (.inr (fun c t' e => by cases e)), encL_nil, replB_nil, repl, encL_cons, encL_nil]
  | n + 1, r :: q :: t, hn, h => by
    have hr := h r (by simp)
    have hq := h q (by simp)
    rw [repl]
    by_cases hc : r = 99 ∧ q = 104
    · rw [if_pos hc]
      obtain ⟨rfl, rfl⟩ := hc
      have e : encL (99 :: 104 :: t) = 99 :: 104 :: encL t := by
        rw [encL_cons, encL_cons, enc_one (by decide) (by decide), enc_one (by decide) (by decide)]
        rfl
      have e2 : encL (67 :: repl t) = 67 :: encL (repl t) := by
        rw [encL_cons, enc_one (by decide) (by decide)]
        rfl
      rw [e, replB_hit, repl_enc n t (by simp at hn; omega) (fun x hx => h x (by simp [hx])), e2]
    · rw [if_neg hc, repl_keep hr (q :: t) ?_, repl_enc n (q :: t) (by simpa using hn) (fun x hx => h x (by simp at hx ⊢; exact .inr hx)), encL_cons]
      by_cases h99 : r = 99
      · exact .inr (enc_head hq (fun e => hc ⟨h99, e⟩) t)
      · exact .inl h99

theorem repl_small {ts : List Int} (h : ∀ r ∈ ts, SmallR r) : ∀ r ∈ repl ts, SmallR r := by
  induction ts using repl.induct with
  | case1 => simp [repl]
  | case2 r => simpa [repl] using h
  | case3 r q t hc ih =>
    rw [repl, if_pos hc]
    intro x hx
    rcases List.mem_cons.1 hx with rfl | hx
    · exact ⟨by decide, by decide⟩
    · exact ih (fun y hy => h y (by simp [hy])) x hx
  | case4 r q t hc ih =>
    rw [repl, if_neg hc]
    intro x hx
    rcases List.mem_cons.1 hx with rfl | hx
    · exact h x (by simp)
    · exact ih (fun y hy => h y (by simp at hy ⊢; exact .inr hy)) x hx
theorem repl_length (ts : List Int) : (repl ts).length ≤ ts.length := by
  induction ts using repl.induct with
  | case1 => simp [repl]
  | case2 r => simp [repl]
  | case3 r q t hc ih =>
    rw [repl, if_pos hc]
    simp only [List.length_cons]
    omega
  | case4 r q t hc ih =>
    rw [repl, if_neg hc]
    simp only [List.length_cons] at ih ⊢
    omega
end Go.Proofs.YtjpmomklkkifjaaGreatDoor
