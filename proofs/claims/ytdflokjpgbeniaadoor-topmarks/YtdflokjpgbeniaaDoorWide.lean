/-
  Any bytes as a list of signs: how they are read, and what is written of them. Plain facts.
-/
import Derived.Test.YtdflokjpgbeniaaDoorPlain
import Derived.Lib.ValidLaws
import Derived.Lib.QuoteLoop
namespace Go.Proofs.YtdflokjpgbeniaaDoor
open Go.Lib

/-- A sign that a text can be read to. -/
def WideR (r : Int) : Prop := 0 ≤ r ∧ r ≤ 1114111 ∧ ¬ (55296 ≤ r ∧ r ≤ 57343)
theorem SmallR.wide {r : Int} (h : SmallR r) : WideR r := ⟨h.1, by have := h.2; omega, by have := h.2; omega⟩

theorem enc_three {r : Int} (h : (2048 ≤ r ∧ r < 55296) ∨ (57343 < r ∧ r ≤ 65535)) : encodeRune r = [(224 + r / 4096).toNat.toUInt8, (128 + r / 64 % 64).toNat.toUInt8, (128 + r % 64).toNat.toUInt8] := by
  unfold encodeRune
  rw [encodeRuneZ_three h]
  rfl
theorem enc_four {r : Int} (h0 : 65536 ≤ r) (h1 : r ≤ 1114111) : encodeRune r = [(240 + r / 262144).toNat.toUInt8, (128 + r / 4096 % 64).toNat.toUInt8, (128 + r / 64 % 64).toNat.toUInt8, (128 + r % 64).toNat.toUInt8] := by
  unfold encodeRune
  rw [encodeRuneZ_four h0 h1]
  rfl
theorem enc_lenW (r : Int) : 1 ≤ (encodeRune r).length ∧ (encodeRune r).length ≤ 4 := by
  unfold encodeRune
  rw [List.length_map]
  exact encodeRuneZ_length r

theorem decode_encW {r : Int} (h : WideR r) (t : List UInt8) : decodeL (encodeRune r ++ t) = (r.toNat, (encodeRune r).length) := by
  obtain ⟨h0, h2, h3⟩ := h
  rcases Int.lt_or_le r 2048 with h1 | h1
  · exact decode_enc ⟨h0, h1⟩ t
  · rcases Int.lt_or_le r 65536 with h4 | h4
    · rw [enc_three (by omega), decodeL_N]
      have e0 := u8 (224 + r / 4096).toNat (by omega)
      have e1 := u8 (128 + r / 64 % 64).toNat (by omega)
      have e2 := u8 (128 + r % 64).toNat (by omega)
      unfold decodeN
      simp only [List.cons_append, List.nil_append, List.getD_cons_zero, List.getD_cons_succ, e0, e1, e2, List.length_cons]
      rw [if_neg (by omega), if_neg (by omega), if_pos ⟨by omega, ⟨by omega, by omega⟩, by omega, by omega⟩, if_pos (by omega)]
      simp only [List.length_nil]
      refine Prod.ext ?_ rfl
      show _ = r.toNat
      omega
    · rw [enc_four h4 h2, decodeL_N]
      have e0 := u8 (240 + r / 262144).toNat (by omega)
      have e1 := u8 (128 + r / 4096 % 64).toNat (by omega)
      have e2 := u8 (128 + r / 64 % 64).toNat (by omega)
      have e3 := u8 (128 + r % 64).toNat (by omega)
      unfold decodeN
      simp only [List.cons_append, List.nil_append, List.getD_cons_zero, List.getD_cons_succ, e0, e1, e2, e3, List.length_cons]
      rw [if_neg (by omega), if_neg (by omega), if_neg (by omega), if_pos ⟨by omega, ⟨by omega, by omega⟩, ⟨by omega, by omega⟩, by omega, by omega⟩, if_pos (by omega)]
      simp only [List.length_nil]
      refine Prod.ext ?_ rfl
      show _ = r.toNat
      omega

/-- The bytes are read to these signs. -/
def Reads : List UInt8 → List Int → Prop
  | l, [] => l = []
  | l, r :: rs => l ≠ [] ∧ (decodeL l).1 = r.toNat ∧ 0 ≤ r ∧ Reads (l.drop (decodeL l).2) rs

theorem reads_enc : ∀ rs : List Int, (∀ r ∈ rs, WideR r) → Reads (encL rs) rs
  | [], _ => rfl
  | r :: rs, h => by
    have hr := h r (by simp)
    have hd := decode_encW hr (encL rs)
    rw [encL_cons]
    refine ⟨fun e => ?_, by rw [hd], hr.1, ?_⟩
    · have h1 := (enc_lenW r).1
      have h2 := congrArg List.length e
      rw [List.length_append, List.length_nil] at h2
      omega
    · rw [hd, List.drop_left]
      exact reads_enc rs (fun x hx => h x (by simp [hx]))

theorem decodeL_wide {l : List UInt8} (hne : l ≠ []) : WideR ((decodeL l).1 : Int) ∧ 1 ≤ (decodeL l).2 ∧ (decodeL l).2 ≤ l.length ∧ (128 ≤ (decodeL l).1 → (decodeL l).1 < 2048 → 2 ≤ (decodeL l).2) := by
  have hl : 0 < l.length := List.length_pos_iff.2 hne
  rw [decodeL_N]
  have k0 := (l.getD 0 0).toNat_lt
  rcases decodeN_shape l.length (l.getD 0 0).toNat (l.getD 1 0).toNat (l.getD 2 0).toNat (l.getD 3 0).toNat with ⟨c, e⟩ | ⟨c1, c2, c3, cv, e⟩ | ⟨c1, c2, c3, c4, cv, cs, e⟩ | ⟨c1, c2, c3, c4, c5, cv, cw, e⟩ | e
  · rw [e]
    exact ⟨⟨by omega, by dsimp only; omega, by dsimp only; omega⟩, by dsimp only; omega, by dsimp only; omega, by dsimp only; omega⟩
  · rw [e]
    exact ⟨⟨by omega, by dsimp only; omega, by dsimp only; omega⟩, by dsimp only; omega, by dsimp only; omega, by dsimp only; omega⟩
  · rw [e]
    exact ⟨⟨by omega, by dsimp only; omega, by dsimp only; omega⟩, by dsimp only; omega, by dsimp only; omega, by dsimp only; omega⟩
  · rw [e]
    exact ⟨⟨by omega, by dsimp only; omega, by dsimp only; omega⟩, by dsimp only; omega, by dsimp only; omega, by dsimp only; omega⟩
  · rw [e]
    exact ⟨⟨by omega, by dsimp only; omega, by dsimp only; omega⟩, by dsimp only; omega, by dsimp only; omega, by dsimp only; omega⟩

theorem tab_range : ∀ x ∈ tab, 192 ≤ x.1 ∧ x.1 < 768 := by decide +kernel
theorem marks_sign (r : Int) : marks (splitZ r) ≤ 1 ∧ (marks (splitZ r) ≠ 0 → 128 ≤ r ∧ r < 2048) := by
  unfold splitZ
  cases hB : wholeB r with
  | false =>
    by_cases hc : classZ r = 0
    · simp [marks, hc]
    · have := mark_range (mark_of_class hc)
      simp [marks, hc]
      omega
  | true =>
    obtain ⟨hm, he⟩ := whole_mem r hB
    have h0 := base_class _ (tab_facts _ hm).2.2.1
    have h1 := tab_range _ hm
    rw [he] at h1
    refine ⟨?_, fun _ => ⟨by omega, by omega⟩⟩
    simp only [if_true, marks]
    rw [List.filter_cons, if_neg (by simp [h0])]
    exact Nat.le_trans (List.length_filter_le _ _) (by simp)

theorem reads_any : ∀ (n : Nat) (l : List UInt8), l.length ≤ n → ∃ rs, Reads l rs ∧ (∀ r ∈ rs, WideR r) ∧ rs.length ≤ l.length ∧ 2 * marks (partsL rs) ≤ l.length
  | 0, l, h => by
    have e : l = [] := List.eq_nil_of_length_eq_zero (by omega)
    subst e
    exact ⟨[], rfl, by simp, by simp, by simp [partsL, marks]⟩
  | n + 1, l, h => by
    by_cases hne : l = []
    · subst hne
      exact ⟨[], rfl, by simp, by simp, by simp [partsL, marks]⟩
    · obtain ⟨hw, h1, h2, h3⟩ := decodeL_wide hne
      obtain ⟨rs, hr, hs, hl, hm⟩ := reads_any n (l.drop (decodeL l).2) (by rw [List.length_drop]; omega)
      rw [List.length_drop] at hl hm
      refine ⟨((decodeL l).1 : Int) :: rs, ⟨hne, by simp, hw.1, hr⟩, ?_, ?_, ?_⟩
      · intro r hr
        rcases List.mem_cons.1 hr with rfl | hr
        · exact hw
        · exact hs r hr
      · rw [List.length_cons]
        omega
      · have e : partsL (((decodeL l).1 : Int) :: rs) = splitZ ((decodeL l).1 : Int) ++ partsL rs := rfl
        rw [e, marks_append]
        obtain ⟨m1, m2⟩ := marks_sign ((decodeL l).1 : Int)
        by_cases hz : marks (splitZ ((decodeL l).1 : Int)) = 0
        · omega
        · obtain ⟨q1, q2⟩ := m2 hz
          have := h3 (by omega) (by omega)
          omega

theorem reads_valid : ∀ (rs : List Int) (l : List UInt8), Reads l rs → validD l = true → l = encL rs
  | [], l, h, _ => h
  | r :: rs, l, h, hv => by
    obtain ⟨hne, h1, h2, h3⟩ := h
    rw [validD_step l hne] at hv
    split at hv
    · cases hv
    · rename_i hb
      have h4 := encode_decode l hne hb
      have h5 := reads_valid rs _ h3 hv
      rw [encL_cons, ← h5]
      have e : ((decodeL l).1 : Int) = r := by omega
      rw [e] at h4
      rw [h4, List.take_append_drop]

theorem encL_lenW (rs : List Int) : rs.length ≤ (encL rs).length ∧ (encL rs).length ≤ 4 * rs.length := by
  induction rs with
  | nil => simp [encL]
  | cons r rs ih =>
    have hr := enc_lenW r
    rw [encL_cons, List.length_append, List.length_cons]
    omega
theorem encL_injW : ∀ (a b : List Int), (∀ r ∈ a, WideR r) → (∀ r ∈ b, WideR r) → encL a = encL b → a = b
  | [], [], _, _, _ => rfl
  | [], r :: b, _, hb, h => by
    have := (enc_lenW r).1
    rw [encL_cons, encL_nil] at h
    have := congrArg List.length h
    rw [List.length_append, List.length_nil] at this
    omega
  | r :: a, [], ha, _, h => by
    have := (enc_lenW r).1
    rw [encL_cons, encL_nil] at h
    have := congrArg List.length h
    rw [List.length_append, List.length_nil] at this
    omega
  | r :: a, q :: b, ha, hb, h => by
    have h1 := decode_encW (ha r (by simp)) (encL a)
    have h2 := decode_encW (hb q (by simp)) (encL b)
    rw [encL_cons, encL_cons] at h
    rw [h, h2] at h1
    have e : r = q := by
      have := congrArg Prod.fst h1
      have h3 := (ha r (by simp)).1
      have h4 := (hb q (by simp)).1
      simp only at this
      omega
    subst e
    rw [encL_injW a b (fun x hx => ha x (by simp [hx])) (fun x hx => hb x (by simp [hx])) (List.append_cancel_left h)]

theorem splitZ_wide {r : Int} (h : WideR r) : ∀ p ∈ splitZ r, WideR p := by
  intro p hp
  unfold splitZ at hp
  cases hB : wholeB r with
  | false => rw [hB] at hp; simp at hp; subst hp; exact h
  | true =>
    rw [hB] at hp
    obtain ⟨hm, _⟩ := whole_mem r hB
    have := tab_small _ hm
    simp at hp
    rcases hp with rfl | rfl
    · exact ⟨by omega, by omega, by omega⟩
    · exact ⟨by omega, by omega, by omega⟩
theorem partsL_wide {rs : List Int} (h : ∀ r ∈ rs, WideR r) : ∀ p ∈ partsL rs, WideR p := by
  intro p hp
  obtain ⟨r, hr, hp⟩ := List.mem_flatMap.1 hp
  exact splitZ_wide (h r hr) p hp
end Go.Proofs.YtdflokjpgbeniaaDoor
