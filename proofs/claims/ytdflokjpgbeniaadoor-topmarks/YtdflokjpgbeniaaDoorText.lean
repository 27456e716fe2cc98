/-
  Texts as lists of signs: what their bytes are, and how they are read. Plain facts; no Go text.
-/
import Derived.Lib.MapLaws
import Derived.Lib.RuneBytes
namespace Go.Proofs.YtdflokjpgbeniaaDoor

/-- A sign of one or two bytes. -/
def SmallR (r : Int) : Prop := 0 ≤ r ∧ r < 2048
/-- The bytes of signs. -/
def encL (rs : List Int) : List UInt8 := rs.flatMap Lib.encodeRune
/-- The text of signs. -/
def encS (rs : List Int) : ByteArray := ⟨(encL rs).toArray⟩

theorem encL_nil : encL [] = [] := rfl
theorem encL_cons (r : Int) (rs : List Int) : encL (r :: rs) = Lib.encodeRune r ++ encL rs := rfl
theorem encL_append (a b : List Int) : encL (a ++ b) = encL a ++ encL b := by simp [encL]
theorem encL_one (r : Int) : encL [r] = Lib.encodeRune r := by simp [encL]

theorem enc_one {r : Int} (h0 : 0 ≤ r) (h1 : r < 128) : Lib.encodeRune r = [r.toNat.toUInt8] := by
  unfold Lib.encodeRune
  rw [Lib.encodeRuneZ_one h0 (by omega)]
  rfl
theorem enc_two {r : Int} (h0 : 128 ≤ r) (h1 : r < 2048) : Lib.encodeRune r = [(192 + r / 64).toNat.toUInt8, (128 + r % 64).toNat.toUInt8] := by
  unfold Lib.encodeRune
  rw [Lib.encodeRuneZ_two h0 (by omega)]
  rfl
theorem enc_len {r : Int} (h : SmallR r) : 1 ≤ (Lib.encodeRune r).length ∧ (Lib.encodeRune r).length ≤ 2 := by
  rcases Int.lt_or_le r 128 with h1 | h1
  · rw [enc_one h.1 h1]; simp
  · rw [enc_two h1 h.2]; simp

theorem u8 (n : Nat) (h : n < 256) : n.toUInt8.toNat = n := by
  show (UInt8.ofNat n).toNat = n
  simp
  omega

/-- What is in front is read back. -/
theorem decode_enc {r : Int} (h : SmallR r) (t : List UInt8) : Lib.decodeL (Lib.encodeRune r ++ t) = (r.toNat, (Lib.encodeRune r).length) := by
  have h2 := h.2
  have h0 := h.1
  rcases Int.lt_or_le r 128 with h1 | h1
  · rw [enc_one h.1 h1, Lib.decodeL_N]
    have e := u8 r.toNat (by omega)
    unfold Lib.decodeN
    simp only [List.singleton_append, List.getD_cons_zero, e]
    rw [if_pos (by omega)]
    rfl
  · rw [enc_two h1 h.2, Lib.decodeL_N]
    have e0 := u8 (192 + r / 64).toNat (by omega)
    have e1 := u8 (128 + r % 64).toNat (by omega)
    unfold Lib.decodeN
    simp only [List.cons_append, List.nil_append, List.getD_cons_zero, List.getD_cons_succ, e0, e1]
    rw [if_neg (by omega), if_pos ⟨by omega, by simp, by omega⟩, if_pos (by omega)]
    simp only [List.length_cons, List.length_nil]
    refine Prod.ext ?_ rfl
    show _ = r.toNat
    omega

/-- The bytes from a place on: those of the signs behind it. -/
theorem drop_enc (a b : List Int) : (encL (a ++ b)).drop (encL a).length = encL b := by
  rw [encL_append, List.drop_left]
theorem encS_size (rs : List Int) : (encS rs).size = (encL rs).length := by
  show (encL rs).toArray.size = _
  simp
/-- A text is read sign by sign. -/
theorem decode_at (a : List Int) (r : Int) (b : List Int) (h : SmallR r) : Utf8.decode (encS (a ++ r :: b)) (encL a).length = (r.toNat, (Lib.encodeRune r).length) := by
  rw [← Lib.decodeL_drop]
  show Lib.decodeL (((encL (a ++ r :: b)).toArray.toList).drop _) = _
  rw [List.toList_toArray, drop_enc, encL_cons, decode_enc h]
theorem enc_pos {r : Int} (h : SmallR r) : 0 < (Lib.encodeRune r).length := by have := enc_len h; omega
theorem encL_len (rs : List Int) (h : ∀ r ∈ rs, SmallR r) : rs.length ≤ (encL rs).length ∧ (encL rs).length ≤ 2 * rs.length := by
  induction rs with
  | nil => simp [encL]
  | cons r rs ih =>
    have := ih (fun x hx => h x (by simp [hx]))
    have hr := enc_len (h r (by simp))
    rw [encL_cons, List.length_append, List.length_cons]
    omega
/-- Signs that are written the same are the same. -/
theorem encL_inj : ∀ (a b : List Int), (∀ r ∈ a, SmallR r) → (∀ r ∈ b, SmallR r) → encL a = encL b → a = b
  | [], [], _, _, _ => rfl
  | [], r :: b, _, hb, h => by
    have := enc_pos (hb r (by simp))
    rw [encL_cons, encL_nil] at h
    have := congrArg List.length h
    rw [List.length_append, List.length_nil] at this
    omega
  | r :: a, [], ha, _, h => by
    have := enc_pos (ha r (by simp))
    rw [encL_cons, encL_nil] at h
    have := congrArg List.length h
    rw [List.length_append, List.length_nil] at this
    omega
  | r :: a, q :: b, ha, hb, h => by
    have h1 := decode_enc (ha r (by simp)) (encL a)
    have h2 := decode_enc (hb q (by simp)) (encL b)
    rw [encL_cons, encL_cons] at h
    rw [h, h2] at h1
    have e : r = q := by
      have := congrArg Prod.fst h1
      have h3 := (ha r (by simp)).1
      have h4 := (hb q (by simp)).1
      simp only at this
      omega
    subst e
    rw [encL_inj a b (fun x hx => ha x (by simp [hx])) (fun x hx => hb x (by simp [hx])) (List.append_cancel_left h)]
end Go.Proofs.YtdflokjpgbeniaaDoor
