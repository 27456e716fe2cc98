/-
  How bytes compare; what the signs of a name are once they are folded. Plain facts. The contract of key.Compare, over the seat's program. Any bytes as a list of signs: how they are read, and what is written of them. Plain facts.
-/
import Derived.Test.YtjpmomklkkifjaaGreatDoorCWeight
import Derived.Test.YtjpmomklkkifjaaGreatDoorCKey
import Derived.Test.YtjpmomklkkifjaaGreatDoorCPlain
import Derived.Lib.ValidLaws
import Derived.Lib.QuoteLoop
namespace Go.Proofs.YtjpmomklkkifjaaGreatDoor
open Go.Lib
set_option maxRecDepth 100000

theorem cmp_neg : ∀ a b : List UInt8, compareBytes b a = - compareBytes a b
  | [], [] => rfl
  | [], _ :: _ => rfl
  | _ :: _, [] => rfl
  | x :: a, y :: b => by
    unfold compareBytes
    by_cases h1 : x < y
    · have h2 : ¬ y < x := by rw [UInt8.lt_iff_toNat_lt] at *; omega
      rw [if_neg h2, if_pos h1, if_pos h1]
      decide
    · by_cases h2 : y < x
      · rw [if_pos h2, if_neg h1, if_pos h2]
      · rw [if_neg h2, if_neg h1, if_neg h1, if_neg h2]
        exact cmp_neg a b
theorem cmp_range : ∀ a b : List UInt8, -1 ≤ compareBytes a b ∧ compareBytes a b ≤ 1
  | [], [] => by decide
  | [], _ :: _ => by simp [compareBytes]
  | _ :: _, [] => by simp [compareBytes]
  | x :: a, y :: b => by
    unfold compareBytes
    have := cmp_range a b
    repeat' split
    all_goals omega
theorem cmp_zero : ∀ a b : List UInt8, compareBytes a b = 0 ↔ a = b
  | [], [] => by simp [compareBytes]
  | [], _ :: _ => by simp [compareBytes]
  | _ :: _, [] => by simp [compareBytes]
  | x :: a, y :: b => by
    unfold compareBytes
    by_cases h1 : x < y
    · rw [if_pos h1]
      simp only [List.cons.injEq]
      constructor
      · intro h; omega
      · rintro ⟨rfl, _⟩
        rw [UInt8.lt_iff_toNat_lt] at h1
        omega
    · rw [if_neg h1]
      by_cases h2 : y < x
      · rw [if_pos h2]
        simp only [List.cons.injEq]
        constructor
        · intro h; omega
        · rintro ⟨rfl, _⟩
          rw [UInt8.lt_iff_toNat_lt] at h2
          omega
      · rw [if_neg h2, cmp_zero a b]
        have e : x = y := by
          rw [UInt8.lt_iff_toNat_lt] at h1 h2
          exact UInt8.toNat_inj.1 (by omega)
        simp [e]
theorem cmp_trans : ∀ a b c : List UInt8, compareBytes a b < 0 → compareBytes b c < 0 → compareBytes a c < 0
  | [], [], _, h, _ => by simp [compareBytes] at h
  | _ :: _, [], _, h, _ => by simp [compareBytes] at h
  | _, _ :: _, [], _, h => by simp [compareBytes] at h
  | [], _ :: _, _ :: _, _, _ => by simp [compareBytes]
  | x :: a, y :: b, z :: c, h1, h2 => by
    unfold compareBytes at h1 h2 ⊢
    simp only [UInt8.lt_iff_toNat_lt] at h1 h2 ⊢
    have ih := cmp_trans a b c
    repeat' split at h1
    all_goals repeat' split at h2
    all_goals repeat' split
    all_goals first | omega | (exact ih h1 h2)

/-- A base that is folded, or the two together. -/
def BaseF (r : Int) : Prop := r = 32 ∨ r = 45 ∨ r = 46 ∨ r = 95 ∨ r = 963 ∨ (97 ≤ r ∧ r ≤ 122) ∨ (48 ≤ r ∧ r ≤ 57)

theorem weight_table : ∀ n : Fin 128, (n.val = 32 ∨ n.val = 45 ∨ n.val = 46 ∨ n.val = 95 ∨ (97 ≤ n.val ∧ n.val ≤ 122) ∨ (48 ≤ n.val ∧ n.val ≤ 57) ∨ n.val = 67) → 2 ≤ weightE (n.val : Int) := by decide +kernel
theorem weight_base {r : Int} (h : BaseF r ∨ r = 67) : 2 ≤ weightE r := by
  rcases h with (h | h | h | h | h | h | h) | h
  all_goals first
    | (have := weight_table ⟨r.toNat, by omega⟩ (by simp only; omega); simpa [Int.toNat_of_nonneg (show 0 ≤ r by omega)] using this)
    | (subst h; decide +kernel)
theorem weight_mark {r : Int} (h : Mark r) : weightE r = 0 ∧ 2 ≤ weightM r := by
  rcases mark_four h with rfl | rfl | rfl | rfl <;> exact ⟨by decide +kernel, by decide⟩

/-- The parts of a sign that is there: bases and marks. -/
theorem parts_sign {r : Int} (h : isZ r = true) : ∀ p ∈ splitZ r, baseZ p = true ∨ Mark p := by
  intro p hp
  unfold splitZ at hp
  cases hB : wholeB r with
  | true =>
    rw [hB] at hp
    obtain ⟨hm, _⟩ := whole_mem r hB
    have hf := tab_facts _ hm
    simp at hp
    rcases hp with rfl | rfl
    · exact .inl hf.2.2.1
    · exact .inr (mark_of_class (by have := hf.2.2.2.1; omega))
  | false =>
    rw [hB] at hp
    simp at hp
    subst hp
    unfold isZ at h
    rw [hB] at h
    simp only [Bool.false_or, Bool.or_eq_true, bne_iff_ne] at h
    rcases h with h | h
    · exact .inl h
    · exact .inr (mark_of_class h)
theorem fold_base {p : Int} (h : baseZ p = true) : BaseF (foldZ p) := by
  have h := of_decide_eq_true h
  unfold foldZ BaseF
  split
  · omega
  · split <;> omega
theorem fold_mark {p : Int} (h : Mark p) : foldZ p = p := by
  have := mark_range h
  unfold foldZ
  rw [if_neg (by omega), if_neg (by omega)]

theorem fold_kind {rs : List Int} (h : ∀ r ∈ rs, isZ r = true) : ∀ q ∈ foldL rs, BaseF q ∨ Mark q := by
  intro q hq
  obtain ⟨p, hp, rfl⟩ := List.mem_map.1 hq
  obtain ⟨r, hr, hpr⟩ := List.mem_flatMap.1 (splitL_mem p hp)
  rcases parts_sign (h r hr) p hpr with hb | hm
  · exact .inl (fold_base hb)
  · rw [fold_mark hm]
    exact .inr hm

theorem repl_kind {ts : List Int} (h : ∀ q ∈ ts, BaseF q ∨ Mark q) : ∀ q ∈ repl ts, (BaseF q ∨ q = 67) ∨ Mark q := by
  induction ts using repl.induct with
  | case1 => simp [repl]
  | case2 r =>
    intro q hq
    simp [repl] at hq
    subst hq
    rcases h q (by simp) with h1 | h1
    · exact .inl (.inl h1)
    · exact .inr h1
  | case3 r q t hc ih =>
    rw [repl, if_pos hc]
    intro x hx
    rcases List.mem_cons.1 hx with rfl | hx
    · exact .inl (.inr rfl)
    · exact ih (fun y hy => h y (by simp [hy])) x hx
  | case4 r q t hc ih =>
    rw [repl, if_neg hc]
    intro x hx
    rcases List.mem_cons.1 hx with rfl | hx
    · rcases h x (by simp) with h1 | h1
      · exact .inl (.inl h1)
      · exact .inr h1
    · exact ih (fun y hy => h y (by simp at hy ⊢; exact .inr hy)) x hx

theorem kind_elem {q : Int} (h : (BaseF q ∨ q = 67) ∨ Mark q) : Elem q := by
  unfold Elem
  rcases h with (h | h) | h
  · unfold BaseF at h
    omega
  · omega
  · exact .inr (.inr h)

/-- What a name's key is made of. -/
def elems (rs : List Int) : List Int := repl (foldL rs)

theorem Name.elem {rs : List Int} (h : Name rs) : ∀ r ∈ repl (foldL rs), Elem r := fun r hr => kind_elem (repl_kind (fold_kind h.signs) r hr)

theorem runS_head (p : Int) (ps : List Int) (h : classZ p = 0) : ∃ t, (runS (p :: ps)).1 = p :: t := by
  suffices hh : ∀ (l : List Int) (st : List Int × List Int), (∃ t, st.1 = p :: t) → ∃ t, (l.foldl stepS st).1 = p :: t by
    unfold runS
    rw [List.foldl_cons]
    refine hh ps _ ⟨[], ?_⟩
    unfold stepS
    rw [if_pos h]
    rfl
  intro l
  induction l with
  | nil => exact fun st h => h
  | cons x l ih =>
    intro st ⟨t, ht⟩
    rw [List.foldl_cons]
    refine ih _ ?_
    unfold stepS
    split
    · exact ⟨t ++ sortM st.2 ++ [x], by simp [ht]⟩
    · exact ⟨t, ht⟩

theorem first_part {r : Int} (h : isZ r = true) (hc : classZ r = 0) : ∃ p t, splitZ r = p :: t ∧ classZ p = 0 ∧ baseZ p = true := by
  unfold splitZ
  cases hB : wholeB r with
  | true =>
    obtain ⟨hm, _⟩ := whole_mem r hB
    have hf := tab_facts _ hm
    exact ⟨_, _, rfl, base_class _ hf.2.2.1, hf.2.2.1⟩
  | false =>
    refine ⟨r, [], rfl, hc, ?_⟩
    unfold isZ at h
    rw [hB, hc] at h
    simpa using h

theorem Name.fold_head {rs : List Int} (h : Name rs) : ∃ q t, foldL rs = q :: t ∧ BaseF q := by
  obtain ⟨r, t, rfl⟩ : ∃ r t, rs = r :: t := by
    cases hrs : rs with
    | nil => exact absurd hrs h.ne
    | cons r t => exact ⟨r, t, rfl⟩
  obtain ⟨p, t2, hp, hc, hb⟩ := first_part (h.signs r (by simp)) (h.first r t rfl)
  have e : partsL (r :: t) = p :: (t2 ++ partsL t) := by
    show splitZ r ++ partsL t = _
    rw [hp]
    rfl
  obtain ⟨t3, h3⟩ := runS_head p (t2 ++ partsL t) hc
  refine ⟨foldZ p, (t3 ++ sortM (runS (partsL (r :: t))).2).map foldZ, ?_, fold_base hb⟩
  unfold foldL splitL
  rw [e] at *
  rw [h3]
  simp

theorem repl_head {q : Int} {t : List Int} (h : BaseF q) : ∃ q' t', repl (q :: t) = q' :: t' ∧ (BaseF q' ∨ q' = 67) := by
  cases t with
  | nil => exact ⟨q, [], by rw [repl], .inl h⟩
  | cons x t =>
    rw [repl]
    split
    · exact ⟨_, _, rfl, .inr rfl⟩
    · exact ⟨_, _, rfl, .inl h⟩

theorem runK_ne {q : Int} {t : List Int} (h : weightE q ≠ 0) : (runK (q :: t)).1 ≠ [] := by
  suffices hh : ∀ (l : List Int) (st : List Int × List Int), st.1 ≠ [] → (l.foldl stepK st).1 ≠ [] by
    unfold runK
    rw [List.foldl_cons]
    refine hh t _ ?_
    unfold stepK
    rw [if_pos h]
    simp
  intro l
  induction l with
  | nil => exact fun st h => h
  | cons x l ih =>
    intro st hs
    rw [List.foldl_cons]
    refine ih _ ?_
    unfold stepK
    split
    · simp
    · split
      · exact hs
      · exact hs

theorem Name.key_ne {rs : List Int} (h : Name rs) : (runK (repl (foldL rs))).1 ≠ [] := by
  obtain ⟨q, t, e, hb⟩ := h.fold_head
  obtain ⟨q', t', e', hb'⟩ := repl_head (t := t) hb
  rw [e, e']
  exact runK_ne (by have := weight_base hb'; omega)
end Go.Proofs.YtjpmomklkkifjaaGreatDoor
namespace Go.Proofs.YtjpmomklkkifjaaGreatDoor
open Go.RowKit
set_option maxRecDepth 100000

/-- What key.Of needs of a text; a name has it, and texts made of one. -/
structure Keyed (rs : List Int) : Prop where
  small : ∀ r ∈ rs, SmallR r
  short : rs.length ≤ 400
  few : marks (partsL rs) < 20
  elem : ∀ r ∈ repl (foldL rs), Elem r
  ne : (runK (repl (foldL rs))).1 ≠ []
theorem Name.keyed {rs : List Int} (h : Name rs) : Keyed rs := ⟨h.small, by have := h.short; omega, h.marks, h.elem, h.key_ne⟩

/-- The key of a text. -/
def keyOf (rs : List Int) : ByteArray := keyB (repl (foldL rs))
/-- How two compare. -/
def cmpK (a b : List Int) : Int := Lib.compareBytes (keyOf a).data.toList (keyOf b).data.toList

theorem keyOf_calls (rs : List Int) (w : World) (hR : Ready w) (h : Keyed rs) :
    Calls Tryz.prog 54 #[.string (encS rs)] w fun e w' => e = .returned (.string (keyOf rs)) ∧ Below w.heap.size w w' :=
  of_calls rs w hR h.small h.short h.few h.elem h.ne

theorem compare_calls (a b : List Int) (w : World) (hR : Ready w) (ha : Keyed a) (hb : Keyed b) :
    Calls Tryz.prog 18 #[.string (encS a), .string (encS b)] w fun e w' => e = .returned (.int .i64 (cmpK a b)) ∧ Below w.heap.size w w' := by
  have h1 := keyOf_calls a w hR ha
  have h2 := fun wx (hx : Ready wx) => keyOf_calls b wx hx hb
  have h3 := fun wx => Tryz.strings_Compare (keyOf a) (keyOf b) wx
  unfold cmpK
  generalize Lib.compareBytes (keyOf a).data.toList (keyOf b).data.toList = c at *
  generalize keyOf a = ka at *
  generalize keyOf b = kb at *
  go_enter Tryz.func18, Tryz.ntmps18
  go_wp2_with fail
  refine h1.mono ?_
  rintro e w1 ⟨rfl, hb1⟩
  have hR1 := hR.later hb1
  go_wp2_with fail
  refine (h2 w1 hR1).mono ?_
  rintro e w2 ⟨rfl, hb2⟩
  go_wp2_with fail
  refine (h3 w2).mono ?_
  rintro e wx ⟨rfl, hwx⟩
  have hwx := hwx.symm
  subst hwx
  go_wp2
  go_ret
  exact ⟨rfl, hb1.trans (hb2.mono hb1.size)⟩
end Go.Proofs.YtjpmomklkkifjaaGreatDoor
namespace Go.Proofs.YtjpmomklkkifjaaGreatDoor
open Go.Lib
set_option maxRecDepth 100000

/-- A sign that a text can be read to. -/
def WideR (r : Int) : Prop := 0 ≤ r ∧ r ≤ 1114111 ∧ ¬ (55296 ≤ r ∧ r ≤ 57343)
theorem SmallR.wide {r : Int} (h : SmallR r) : WideR r := ⟨h.1, by have := h.2; omega, by have := h.2; omega⟩

theorem enc_three {r : Int} (h : (2048 ≤ r ∧ r < 55296) ∨ (57343 < r ∧ r ≤ 65535)) : encodeRune r = [(224 + r / 4096).toNat.toUInt8, (128 + r / 64 % 64).toNat.toUInt8, (128 + r % 64).toNat.toUInt8] := by
  unfold encodeRune
  rw [encodeRuneZ_three h]
  rfl
theorem enc_four {r : Int} (h0 : 65536 ≤ r) (h1 : r ≤ 1114111) : encodeRune r = [(240 + r / 262144).toNat.toUInt8, (128 + r / 4096 % 64).toNat.toUInt8, (128 + r / 64 % 64).toNat.toUInt8, (128 + r % 64).toNat.toUInt8] := by
  unfold encodeRune
  rw [encodeRuneZ_four h0 h1]
  rfl
theorem enc_lenW (r : Int) : 1 ≤ (encodeRune r).length ∧ (encodeRune r).length ≤ 4 := by
  unfold encodeRune
  rw [List.length_map]
  exact encodeRuneZ_length r

theorem decode_encW {r : Int} (h : WideR r) (t : List UInt8) : decodeL (encodeRune r ++ t) = (r.toNat, (encodeRune r).length) := by
  obtain ⟨h0, h2, h3⟩ := h
  rcases Int.lt_or_le r 2048 with h1 | h1
  · exact decode_enc ⟨h0, h1⟩ t
  · rcases Int.lt_or_le r 65536 with h4 | h4
    · rw [enc_three (by omega), decodeL_N]
      have e0 := u8 (224 + r / 4096).toNat (by omega)
      have e1 := u8 (128 + r / 64 % 64).toNat (by omega)
      have e2 := u8 (128 + r % 64).toNat (by omega)
      unfold decodeN
      simp only [List.cons_append, List.nil_append, List.getD_cons_zero, List.getD_cons_succ, e0, e1, e2, List.length_cons]
      rw [if_neg (by omega), if_neg (by omega), if_pos ⟨by omega, ⟨by omega, by omega⟩, by omega, by omega⟩, if_pos (by omega)]
      simp only [List.length_nil]
      refine Prod.ext ?_ rfl
      show _ = r.toNat
      omega
    · rw [enc_four h4 h2, decodeL_N]
      have e0 := u8 (240 + r / 262144).toNat (by omega)
      have e1 := u8 (128 + r / 4096 % 64).toNat (by omega)
      have e2 := u8 (128 + r / 64 % 64).toNat (by omega)
      have e3 := u8 (128 + r % 64).toNat (by omega)
      unfold decodeN
      simp only [List.cons_append, List.nil_append, List.getD_cons_zero, List.getD_cons_succ, e0, e1, e2, e3, List.length_cons]
      rw [if_neg (by omega), if_neg (by omega), if_neg (by omega), if_pos ⟨by omega, ⟨by omega, by omega⟩, ⟨by omega, by omega⟩, by omega, by omega⟩, if_pos (by omega)]
      simp only [List.length_nil]
      refine Prod.ext ?_ rfl
      show _ = r.toNat
      omega

/-- The bytes are read to these signs. -/
def Reads : List UInt8 → List Int → Prop
  | l, [] => l = []
  | l, r :: rs => l ≠ [] ∧ (decodeL l).1 = r.toNat ∧ 0 ≤ r ∧ Reads (l.drop (decodeL l).2) rs

theorem reads_enc : ∀ rs : List Int, (∀ r ∈ rs, WideR r) → Reads (encL rs) rs
  | [], _ => rfl
  | r :: rs, h => by
    have hr := h r (by simp)
    have hd := decode_encW hr (encL rs)
    rw [encL_cons]
    refine ⟨fun e => ?_, by rw [hd], hr.1, ?_⟩
    · have h1 := (enc_lenW r).1
      have h2 := congrArg List.length e
      rw [List.length_append, List.length_nil] at h2
      omega
    · rw [hd, List.drop_left]
      exact reads_enc rs (fun x hx => h x (by simp [hx]))

theorem decodeL_wide {l : List UInt8} (hne : l ≠ []) : WideR ((decodeL l).1 : Int) ∧ 1 ≤ (decodeL l).2 ∧ (decodeL l).2 ≤ l.length ∧ (128 ≤ (decodeL l).1 → (decodeL l).1 < 2048 → 2 ≤ (decodeL l).2) := by
  have hl : 0 < l.length := List.length_pos_iff.2 hne
  rw [decodeL_N]
  have k0 := (l.getD 0 0).toNat_lt
  rcases decodeN_shape l.length (l.getD 0 0).toNat (l.getD 1 0).toNat (l.getD 2 0).toNat (l.getD 3 0).toNat with ⟨c, e⟩ | ⟨c1, c2, c3, cv, e⟩ | ⟨c1, c2, c3, c4, cv, cs, e⟩ | ⟨c1, c2, c3, c4, c5, cv, cw, e⟩ | e
  · rw [e]
    exact ⟨⟨by omega, by dsimp only; omega, by dsimp only; omega⟩, by dsimp only; omega, by dsimp only; omega, by dsimp only; omega⟩
  · rw [e]
    exact ⟨⟨by omega, by dsimp only; omega, by dsimp only; omega⟩, by dsimp only; omega, by dsimp only; omega, by dsimp only; omega⟩
  · rw [e]
    exact ⟨⟨by omega, by dsimp only; omega, by dsimp only; omega⟩, by dsimp only; omega, by dsimp only; omega, by dsimp only; omega⟩
  · rw [e]
    exact ⟨⟨by omega, by dsimp only; omega, by dsimp only; omega⟩, by dsimp only; omega, by dsimp only; omega, by dsimp only; omega⟩
  · rw [e]
    exact ⟨⟨by omega, by dsimp only; omega, by dsimp only; omega⟩, by dsimp only; omega, by dsimp only; omega, by dsimp only; omega⟩

theorem tab_range : ∀ x ∈ tab, 192 ≤ x.1 ∧ x.1 < 768 := by decide +kernel
theorem marks_sign (r : Int) : marks (splitZ r) ≤ 1 ∧ (marks (splitZ r) ≠ 0 → 128 ≤ r ∧ r < 2048) := by
  unfold splitZ
  cases hB : wholeB r with
  | false =>
    by_cases hc : classZ r = 0
    · simp [marks, hc]
    · have := mark_range (mark_of_class hc)
      simp [marks, hc]
      omega
  | true =>
    obtain ⟨hm, he⟩ := whole_mem r hB
    have h0 := base_class _ (tab_facts _ hm).2.2.1
    have h1 := tab_range _ hm
    rw [he] at h1
    refine ⟨?_, fun _ => ⟨by omega, by omega⟩⟩
    simp only [if_true, marks]
    rw [List.filter_cons, if_neg (by simp [h0])]
    exact Nat.le_trans (List.length_filter_le _ _) (by simp)

theorem reads_any : ∀ (n : Nat) (l : List UInt8), l.length ≤ n → ∃ rs, Reads l rs ∧ (∀ r ∈ rs, WideR r) ∧ rs.length ≤ l.length ∧ 2 * marks (partsL rs) ≤ l.length
  | 0, l, h => by
    have e : l = [] := List.eq_nil_of_length_eq_zero (by omega)
    subst e
    exact ⟨[], rfl, by simp, by simp, by simp [partsL, marks]⟩
  | n + 1, l, h => by
    by_cases hne : l = []
    · subst hne
      exact ⟨[], rfl, by simp, by simp, by simp [partsL, marks]⟩
    · obtain ⟨hw, h1, h2, h3⟩ := decodeL_wide hne
      obtain ⟨rs, hr, hs, hl, hm⟩ := reads_any n (l.drop (decodeL l).2) (by rw [List.length_drop]; omega)
      rw [List.length_drop] at hl hm
      refine ⟨((decodeL l).1 : Int) :: rs, ⟨hne, by simp, hw.1, hr⟩, ?_, ?_, ?_⟩
      · intro r hr
        rcases List.mem_cons.1 hr with rfl | hr
        · exact hw
        · exact hs r hr
      · rw [List.length_cons]
        omega
      · have e : partsL (((decodeL l).1 : Int) :: rs) = splitZ ((decodeL l).1 : Int) ++ partsL rs := rfl
        rw [e, marks_append]
        obtain ⟨m1, m2⟩ := marks_sign ((decodeL l).1 : Int)
        by_cases hz : marks (splitZ ((decodeL l).1 : Int)) = 0
        · omega
        · obtain ⟨q1, q2⟩ := m2 hz
          have := h3 (by omega) (by omega)
          omega

theorem reads_valid : ∀ (rs : List Int) (l : List UInt8), Reads l rs → validD l = true → l = encL rs
  | [], l, h, _ => h
  | r :: rs, l, h, hv => by
    obtain ⟨hne, h1, h2, h3⟩ := h
    rw [validD_step l hne] at hv
    split at hv
    · cases hv
    · rename_i hb
      have h4 := encode_decode l hne hb
      have h5 := reads_valid rs _ h3 hv
      rw [encL_cons, ← h5]
      have e : ((decodeL l).1 : Int) = r := by omega
      rw [e] at h4
      rw [h4, List.take_append_drop]

theorem encL_lenW (rs : List Int) : rs.length ≤ (encL rs).length ∧ (encL rs).length ≤ 4 * rs.length := by
  induction rs with
  | nil => simp [encL]
  | cons r rs ih =>
    have hr := enc_lenW r
    rw [encL_cons, List.length_append, List.length_cons]
    omega
theorem encL_injW : ∀ (a b : List Int), (∀ r ∈ a, WideR r) → (∀ r ∈ b, WideR r) → encL a = encL b → a = b
  | [], [], _, _, _ => rfl
  | [], r :: b, _, hb, h => by
    have := (enc_lenW r).1
    rw [encL_cons, encL_nil] at h
    have := congrArg List.length h
    rw [List.length_append, List.length_nil] at this
    omega
  | r :: a, [], ha, _, h => by
    have := (enc_lenW r).1
    rw [encL_cons, encL_nil] at h
    have := congrArg List.length h
    rw [List.length_append, List.length_nil] at this
    omega
  | r :: a, q :: b, ha, hb, h => by
    have h1 := decode_encW (ha r (by simp)) (encL a)
    have h2 := decode_encW (hb q (by simp)) (encL b)
    rw [encL_cons, encL_cons] at h
    rw [h, h2] at h1
    have e : r = q := by
      have := congrArg Prod.fst h1
      have h3 := (ha r (by simp)).1
      have h4 := (hb q (by simp)).1
      simp only at this
      omega
    subst e
    rw [encL_injW a b (fun x hx => ha x (by simp [hx])) (fun x hx => hb x (by simp [hx])) (List.append_cancel_left h)]

theorem splitZ_wide {r : Int} (h : WideR r) : ∀ p ∈ splitZ r, WideR p := by
  intro p hp
  unfold splitZ at hp
  cases hB : wholeB r with
  | false => rw [hB] at hp; simp at hp; subst hp; exact h
  | true =>
    rw [hB] at hp
    obtain ⟨hm, _⟩ := whole_mem r hB
    have := tab_small _ hm
    simp at hp
    rcases hp with rfl | rfl
    · exact ⟨by omega, by omega, by omega⟩
    · exact ⟨by omega, by omega, by omega⟩
theorem partsL_wide {rs : List Int} (h : ∀ r ∈ rs, WideR r) : ∀ p ∈ partsL rs, WideR p := by
  intro p hp
  obtain ⟨r, hr, hp⟩ := List.mem_flatMap.1 hp
  exact splitZ_wide (h r hr) p hp
end Go.Proofs.YtjpmomklkkifjaaGreatDoor
