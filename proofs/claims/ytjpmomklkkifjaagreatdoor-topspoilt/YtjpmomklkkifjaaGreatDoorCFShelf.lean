import Derived.Test.YtjpmomklkkifjaaGreatDoorCRepl
import Derived.Test.YtjpmomklkkifjaaGreatDoorCKey
import Derived.Test.YtjpmomklkkifjaaGreatDoorCPlain
import Derived.Lib.ValidLaws
import Derived.Lib.QuoteLoop
import Derived.Test.YtjpmomklkkifjaaGreatDoorProg
import Derived.Shelf.Strings.Split
import Derived.Shelf.Strings.Prefix
import Derived.Shelf.Small.Strs
set_option maxRecDepth 100000
set_option linter.unusedVariables false
set_option linter.unusedSimpArgs false
namespace Go.Proofs.YtjpmomklkkifjaaGreatDoor
open Go.Lib
theorem cmp_neg : ∀ a b : List UInt8, compareBytes b a = - compareBytes a b
  | [], [] => rfl
  | [], _ :: _ => rfl
  | _ :: _, [] => rfl
  | x :: a, y :: b => by
    unfold compareBytes
    by_cases h1 : x < y
    · have h2 : ¬ y < x := by rw [UInt8.lt_iff_toNat_lt] at *; omega
      rw [if_neg h2, if_pos h1, if_pos h1]
      decide
    · by_cases h2 : y < x
      · rw [if_pos h2, if_neg h1, if_pos h2]
      · rw [if_neg h2, if_neg h1, if_neg h1, if_neg h2]
        exact cmp_neg a b
theorem cmp_range : ∀ a b : List UInt8, -1 ≤ compareBytes a b ∧ compareBytes a b ≤ 1
  | [], [] => by decide
  | [], _ :: _ => by simp [compareBytes]
  | _ :: _, [] => by simp [compareBytes]
  | x :: a, y :: b => by
    unfold compareBytes
    have := cmp_range a b
    repeat' split
    all_goals omega
theorem cmp_zero : ∀ a b : List UInt8, compareBytes a b = 0 ↔ a = b
  | [], [] => by simp [compareBytes]
  | [], _ :: _ => by simp [compareBytes]
  | _ :: _, [] => by simp [compareBytes]
  | x :: a, y :: b => by
    unfold compareBytes
    by_cases h1 : x < y
    · rw [if_pos h1]
      simp only [List.cons.injEq]
      constructor
      · intro h; omega
      · rintro ⟨rfl, _⟩
        rw [UInt8.lt_iff_toNat_lt] at h1
        omega
    · rw [if_neg h1]
      by_cases h2 : y < x
      · rw [if_pos h2]
        simp only [List.cons.injEq]
        constructor
        · intro h; omega
        · rintro ⟨rfl, _⟩
          rw [UInt8.lt_iff_toNat_lt] at h2
          omega
      · rw [if_neg h2, cmp_zero a b]
        have e : x = y := by
          rw [UInt8.lt_iff_toNat_lt] at h1 h2
          exact UInt8.toNat_inj.1 (by omega)
        simp [e]
theorem cmp_trans : ∀ a b c : List UInt8, compareBytes a b < 0 → compareBytes b c < 0 → compareBytes a c < 0
  | [], [], _, h, _ => by simp [compareBytes] at h
  | _ :: _, [], _, h, _ => by simp [compareBytes] at h
  | _, _ :: _, [], _, h => by simp [compareBytes] at h
  | [], _ :: _, _ :: _, _, _ => by simp [compareBytes]
  | x :: a, y :: b, z :: c, h1, h2 => by
    unfold compareBytes at h1 h2 ⊢
    simp only [UInt8.lt_iff_toNat_lt] at h1 h2 ⊢
    have ih := cmp_trans a b c
    repeat' split at h1
    all_goals repeat' split at h2
    all_goals repeat' split
    all_goals first | omega | (exact ih h1 h2)
def BaseF (r : Int) : Prop := r = 32 ∨ r = 45 ∨ r = 46 ∨ r = 95 ∨ r = 963 ∨ (97 ≤ r ∧ r ≤ 122) ∨ (48 ≤ r ∧ r ≤ 57)
theorem weight_table : ∀ n : Fin 128, (n.val = 32 ∨ n.val = 45 ∨ n.val = 46 ∨ n.val = 95 ∨ (97 ≤ n.val ∧ n.val ≤ 122) ∨ (48 ≤ n.val ∧ n.val ≤ 57) ∨ n.val = 67) → 2 ≤ weightE (n.val : Int) := by decide +kernel
theorem weight_base {r : Int} (h : BaseF r ∨ r = 67) : 2 ≤ weightE r := by
  rcases h with (h | h | h | h | h | h | h) | h
  all_goals first
    | (have := weight_table ⟨r.toNat, by omega⟩ (by simp only; omega); simpa [Int.toNat_of_nonneg (show 0 ≤ r by omega)] using this)
    | (subst h; decide +kernel)
theorem parts_sign {r : Int} (h : isZ r = true) : ∀ p ∈ splitZ r, baseZ p = true ∨ Mark p := by
  intro p hp
  unfold splitZ at hp
  cases hB : wholeB r with
  | true =>
    rw [hB] at hp
    obtain ⟨hm, _⟩ := whole_mem r hB
    have hf := tab_facts _ hm
    simp at hp
    rcases hp with rfl | rfl
    · exact .inl hf.2.2.1
    · exact .inr (mark_of_class (by have := hf.2.2.2.1; omega))
  | false =>
    rw [hB] at hp
    simp at hp
    subst hp
    unfold isZ at h
    rw [hB] at h
    simp only [Bool.false_or, Bool.or_eq_true, bne_iff_ne] at h
    rcases h with h | h
    · exact .inl h
    · exact .inr (mark_of_class h)
theorem fold_base {p : Int} (h : baseZ p = true) : BaseF (foldZ p) := by
  have h := of_decide_eq_true h
  unfold foldZ BaseF
  split
  · omega
  · split <;> omega
theorem fold_mark {p : Int} (h : Mark p) : foldZ p = p := by
  have := mark_range h
  unfold foldZ
  rw [if_neg (by omega), if_neg (by omega)]
theorem fold_kind {rs : List Int} (h : ∀ r ∈ rs, isZ r = true) : ∀ q ∈ foldL rs, BaseF q ∨ Mark q := by
  intro q hq
  obtain ⟨p, hp, rfl⟩ := List.mem_map.1 hq
  obtain ⟨r, hr, hpr⟩ := List.mem_flatMap.1 (splitL_mem p hp)
  rcases parts_sign (h r hr) p hpr with hb | hm
  · exact .inl (fold_base hb)
  · rw [fold_mark hm]
    exact .inr hm
theorem repl_kind {ts : List Int} (h : ∀ q ∈ ts, BaseF q ∨ Mark q) : ∀ q ∈ repl ts, (BaseF q ∨ q = 67) ∨ Mark q := by
  induction ts using repl.induct with
  | case1 => simp [repl]
  | case2 r =>
    intro q hq
    simp [repl] at hq
    subst hq
    rcases h q (by simp) with h1 | h1
    · exact .inl (.inl h1)
    · exact .inr h1
  | case3 r q t hc ih =>
    rw [repl, if_pos hc]
    intro x hx
    rcases List.mem_cons.1 hx with rfl | hx
    · exact .inl (.inr rfl)
    · exact ih (fun y hy => h y (by simp [hy])) x hx
  | case4 r q t hc ih =>
    rw [repl, if_neg hc]
    intro x hx
    rcases List.mem_cons.1 hx with rfl | hx
    · rcases h x (by simp) with h1 | h1
      · exact .inl (.inl h1)
      · exact .inr h1
    · exact ih (fun y hy => h y (by simp at hy ⊢; exact .inr hy)) x hx
theorem kind_elem {q : Int} (h : (BaseF q ∨ q = 67) ∨ Mark q) : Elem q := by
  unfold Elem
  rcases h with (h | h) | h
  · unfold BaseF at h
    omega
  · omega
  · exact .inr (.inr h)
def elems (rs : List Int) : List Int := repl (foldL rs)
theorem Name.elem {rs : List Int} (h : Name rs) : ∀ r ∈ repl (foldL rs), Elem r := fun r hr => kind_elem (repl_kind (fold_kind h.signs) r hr)
theorem runS_head (p : Int) (ps : List Int) (h : classZ p = 0) : ∃ t, (runS (p :: ps)).1 = p :: t := by
  suffices hh : ∀ (l : List Int) (st : List Int × List Int), (∃ t, st.1 = p :: t) → ∃ t, (l.foldl stepS st).1 = p :: t by
    unfold runS
    rw [List.foldl_cons]
    refine hh ps _ ⟨[], ?_⟩
    unfold stepS
    rw [if_pos h]
    rfl
  intro l
  induction l with
  | nil => exact fun st h => h
  | cons x l ih =>
    intro st ⟨t, ht⟩
    rw [List.foldl_cons]
    refine ih _ ?_
    unfold stepS
    split
    · exact ⟨t ++ sortM st.2 ++ [x], by simp [ht]⟩
    · exact ⟨t, ht⟩
theorem first_part {r : Int} (h : isZ r = true) (hc : classZ r = 0) : ∃ p t, splitZ r = p :: t ∧ classZ p = 0 ∧ baseZ p = true := by
  unfold splitZ
  cases hB : wholeB r with
  | true =>
    obtain ⟨hm, _⟩ := whole_mem r hB
    have hf := tab_facts _ hm
    exact ⟨_, _, rfl, base_class _ hf.2.2.1, hf.2.2.1⟩
  | false =>
    refine ⟨r, [], rfl, hc, ?_⟩
    unfold isZ at h
    rw [hB, hc] at h
    simpa using h
theorem Name.fold_head {rs : List Int} (h : Name rs) : ∃ q t, foldL rs = q :: t ∧ BaseF q := by
  obtain ⟨r, t, rfl⟩ : ∃ r t, rs = r :: t := by
    cases hrs : rs with
    | nil => exact absurd hrs h.ne
    | cons r t => exact ⟨r, t, rfl⟩
  obtain ⟨p, t2, hp, hc, hb⟩ := first_part (h.signs r (by simp)) (h.first r t rfl)
  have e : partsL (r :: t) = p :: (t2 ++ partsL t) := by
    show splitZ r ++ partsL t = _
    rw [hp]
    rfl
  obtain ⟨t3, h3⟩ := runS_head p (t2 ++ partsL t) hc
  refine ⟨foldZ p, (t3 ++ sortM (runS (partsL (r :: t))).2).map foldZ, ?_, fold_base hb⟩
  unfold foldL splitL
  rw [e] at *
  rw [h3]
  simp
theorem repl_head {q : Int} {t : List Int} (h : BaseF q) : ∃ q' t', repl (q :: t) = q' :: t' ∧ (BaseF q' ∨ q' = 67) := by
  cases t with
  | nil => exact ⟨q, [], by rw [repl], .inl h⟩
  | cons x t =>
    rw [repl]
    split
    · exact ⟨_, _, rfl, .inr rfl⟩
    · exact ⟨_, _, rfl, .inl h⟩
theorem runK_ne {q : Int} {t : List Int} (h : weightE q ≠ 0) : (runK (q :: t)).1 ≠ [] := by
  suffices hh : ∀ (l : List Int) (st : List Int × List Int), st.1 ≠ [] → (l.foldl stepK st).1 ≠ [] by
    unfold runK
    rw [List.foldl_cons]
    refine hh t _ ?_
    unfold stepK
    rw [if_pos h]
    simp
  intro l
  induction l with
  | nil => exact fun st h => h
  | cons x l ih =>
    intro st hs
    rw [List.foldl_cons]
    refine ih _ ?_
    unfold stepK
    split
    · simp
    · split
      · exact hs
      · exact hs
theorem Name.key_ne {rs : List Int} (h : Name rs) : (runK (repl (foldL rs))).1 ≠ [] := by
  obtain ⟨q, t, e, hb⟩ := h.fold_head
  obtain ⟨q', t', e', hb'⟩ := repl_head (t := t) hb
  rw [e, e']
  exact runK_ne (by have := weight_base hb'; omega)
end Go.Proofs.YtjpmomklkkifjaaGreatDoor
namespace Go.Proofs.YtjpmomklkkifjaaGreatDoor
open Go.RowKit
structure Keyed (rs : List Int) : Prop where
  small : ∀ r ∈ rs, SmallR r
  short : rs.length ≤ 400
  few : marks (partsL rs) < 20
  elem : ∀ r ∈ repl (foldL rs), Elem r
  ne : (runK (repl (foldL rs))).1 ≠ []
theorem Name.keyed {rs : List Int} (h : Name rs) : Keyed rs := ⟨h.small, by have := h.short; omega, h.marks, h.elem, h.key_ne⟩
def keyOf (rs : List Int) : ByteArray := keyB (repl (foldL rs))
def cmpK (a b : List Int) : Int := Lib.compareBytes (keyOf a).data.toList (keyOf b).data.toList
theorem keyOf_calls (rs : List Int) (w : World) (hR : Ready w) (h : Keyed rs) :
    Calls Tryz.prog 54 #[.string (encS rs)] w fun e w' => e = .returned (.string (keyOf rs)) ∧ Below w.heap.size w w' :=
  of_calls rs w hR h.small h.short h.few h.elem h.ne
theorem compare_calls (a b : List Int) (w : World) (hR : Ready w) (ha : Keyed a) (hb : Keyed b) :
    Calls Tryz.prog 18 #[.string (encS a), .string (encS b)] w fun e w' => e = .returned (.int .i64 (cmpK a b)) ∧ Below w.heap.size w w' := by
  have h1 := keyOf_calls a w hR ha
  have h2 := fun wx (hx : Ready wx) => keyOf_calls b wx hx hb
  have h3 := fun wx => Tryz.strings_Compare (keyOf a) (keyOf b) wx
  unfold cmpK
  generalize Lib.compareBytes (keyOf a).data.toList (keyOf b).data.toList = c at *
  generalize keyOf a = ka at *
  generalize keyOf b = kb at *
  go_enter Tryz.func18, Tryz.ntmps18
  go_wp2_with fail
  refine h1.mono ?_
  rintro e w1 ⟨rfl, hb1⟩
  have hR1 := hR.later hb1
  go_wp2_with fail
  refine (h2 w1 hR1).mono ?_
  rintro e w2 ⟨rfl, hb2⟩
  go_wp2_with fail
  refine (h3 w2).mono ?_
  rintro e wx ⟨rfl, hwx⟩
  have hwx := hwx.symm
  subst hwx
  go_wp2
  go_ret
  exact ⟨rfl, hb1.trans (hb2.mono hb1.size)⟩
end Go.Proofs.YtjpmomklkkifjaaGreatDoor
namespace Go.Proofs.YtjpmomklkkifjaaGreatDoor
open Go.Lib
def WideR (r : Int) : Prop := 0 ≤ r ∧ r ≤ 1114111 ∧ ¬ (55296 ≤ r ∧ r ≤ 57343)
def Reads : List UInt8 → List Int → Prop
  | l, [] => l = []
  | l, r :: rs => l ≠ [] ∧ (decodeL l).1 = r.toNat ∧ 0 ≤ r ∧ Reads (l.drop (decodeL l).2) rs
end Go.Proofs.YtjpmomklkkifjaaGreatDoor
namespace Go.Proofs.YtjpmomklkkifjaaGreatDoor
open Go.RowKit
def errV : Option Int → Value
  | none => .nilIface
  | some k => .iface 86 (.int .i64 k)
noncomputable def signsOf (s : ByteArray) : List Int := open Classical in if h : ∃ rs, s = encS rs ∧ ∀ r ∈ rs, SmallR r then Classical.choose h else []
theorem encS_inj {a b : List Int} (ha : ∀ r ∈ a, SmallR r) (hb : ∀ r ∈ b, SmallR r) (h : encS a = encS b) : a = b := by
  refine encL_inj a b ha hb ?_
  have := congrArg (fun x : ByteArray => x.data.toList) h
  simpa [encS] using this
theorem signsOf_enc {rs : List Int} (h : ∀ r ∈ rs, SmallR r) : signsOf (encS rs) = rs := by
  have hx : ∃ qs, encS rs = encS qs ∧ ∀ r ∈ qs, SmallR r := ⟨rs, rfl, h⟩
  unfold signsOf
  rw [dif_pos hx]
  have := Classical.choose_spec hx
  exact (encS_inj h this.2 this.1).symm
def dotsB (s : ByteArray) : Bool := s.toList == [46] || s.toList == [46, 46]
noncomputable def checkP (s : ByteArray) : Option Int :=
  if s.size = 0 ∨ 24 < s.size then some 1
  else if Lib.validD s.data.toList = false then some 4
  else if onlyB s = false then some 3
  else if classZ ((signsOf s).headD 0) ≠ 0 then some 3
  else if dotsB s = true then some 3
  else if 12 < (splitL (signsOf s)).length then some 2 else none
theorem checkP_size {s : ByteArray} (h : s.size = 0 ∨ 24 < s.size) : checkP s = some 1 := by unfold checkP; rw [if_pos h]
theorem checkP_valid {s : ByteArray} (h0 : ¬ s.size = 0) (h1 : ¬ 24 < s.size) (hv : Lib.validD s.data.toList = false) : checkP s = some 4 := by
  unfold checkP; rw [if_neg (by omega), if_pos hv]
theorem checkP_only {s : ByteArray} (h0 : ¬ s.size = 0) (h1 : ¬ 24 < s.size) (hv : Lib.validD s.data.toList = true) (ho : onlyB s = false) : checkP s = some 3 := by
  unfold checkP; rw [if_neg (by omega), if_neg (by rw [hv]; simp), if_pos ho]
theorem checkP_mark {r : Int} {rs : List Int} (h0 : ¬ (encS (r :: rs)).size = 0) (h1 : ¬ 24 < (encS (r :: rs)).size) (hv : Lib.validD (encS (r :: rs)).data.toList = true) (ho : onlyB (encS (r :: rs)) = true) (hs : ∀ x ∈ r :: rs, SmallR x) (hc : classZ r ≠ 0) : checkP (encS (r :: rs)) = some 3 := by
  unfold checkP; rw [if_neg (by omega), if_neg (by rw [hv]; simp), if_neg (by rw [ho]; simp), signsOf_enc hs, if_pos (by simpa using hc)]
theorem checkP_dots {r : Int} {rs : List Int} (h0 : ¬ (encS (r :: rs)).size = 0) (h1 : ¬ 24 < (encS (r :: rs)).size) (hv : Lib.validD (encS (r :: rs)).data.toList = true) (ho : onlyB (encS (r :: rs)) = true) (hs : ∀ x ∈ r :: rs, SmallR x) (hc : classZ r = 0) (hd : dotsB (encS (r :: rs)) = true) : checkP (encS (r :: rs)) = some 3 := by
  unfold checkP; rw [if_neg (by omega), if_neg (by rw [hv]; simp), if_neg (by rw [ho]; simp), signsOf_enc hs, if_neg (by simpa using hc), if_pos hd]
theorem checkP_many {r : Int} {rs : List Int} (h0 : ¬ (encS (r :: rs)).size = 0) (h1 : ¬ 24 < (encS (r :: rs)).size) (hv : Lib.validD (encS (r :: rs)).data.toList = true) (ho : onlyB (encS (r :: rs)) = true) (hs : ∀ x ∈ r :: rs, SmallR x) (hc : classZ r = 0) (hd : dotsB (encS (r :: rs)) = false) : checkP (encS (r :: rs)) = if 12 < (splitL (r :: rs)).length then some 2 else none := by
  unfold checkP; rw [if_neg (by omega), if_neg (by rw [hv]; simp), if_neg (by rw [ho]; simp), signsOf_enc hs, if_neg (by simpa using hc), if_neg (by rw [hd]; simp)]
theorem name_of_check {s : ByteArray} (h : checkP s = none) : Name (signsOf s) ∧ s = encS (signsOf s) ∧ dotsB s = false := by
  unfold checkP at h
  split at h
  · cases h
  rename_i h1
  split at h
  · cases h
  rename_i h2
  split at h
  · cases h
  rename_i h3
  have ho : onlyB s = true := by simpa using h3
  obtain ⟨rs, rfl, hz⟩ := only_enc0 s ho
  have hsm : ∀ r ∈ rs, SmallR r := fun r hr => is_small (hz r hr)
  rw [signsOf_enc hsm] at h ⊢
  split at h
  · cases h
  rename_i h4
  split at h
  · cases h
  rename_i h5
  split at h
  · cases h
  rename_i h6
  refine ⟨⟨hz, ?_, ?_, ?_, by omega⟩, rfl, by simpa using h5⟩
  · rintro rfl
    exact h1 (.inl rfl)
  · rintro q t rfl
    simpa using h4
  · rw [← encS_size]; omega
set_option maxHeartbeats 1000000 in
theorem check_spec (s : ByteArray) (w : World) (hR : Ready w) (hs : s.size ≤ 9223372036854775807) :
    Calls Tryz.prog 17 #[.string s] w fun e w' => e = .returned (errV (checkP s)) ∧ Below w.heap.size w w' := by
  by_cases h0 : s.size = 0
  · have h0z : ((s.size : Int) == 0) = true := by simp [h0]
    have Hk : Hid (checkP s = some 1) := checkP_size (.inl h0)
    go_enter Tryz.func17, Tryz.ntmps17
    go_wp2
    go_ret
    exact ⟨by rw [unhide Hk]; rfl, Below.refl _ _⟩
  · have h0z : ((s.size : Int) == 0) = false := by simp [h0]
    by_cases h1 : 24 < s.size
    · have h1z : (24 : Int) < (s.size : Int) := by omega
      have Hk : Hid (checkP s = some 1) := checkP_size (.inr h1)
      go_enter Tryz.func17, Tryz.ntmps17
      go_wp2
      go_ret
      exact ⟨by rw [unhide Hk]; rfl, Below.refl _ _⟩
    · have h1z : ¬ (24 : Int) < (s.size : Int) := by omega
      have hV := validString_calls s w hs hR.u8
      cases hv : Lib.validD s.data.toList with
      | false =>
        have Hk : Hid (checkP s = some 4) := checkP_valid h0 h1 hv
        rw [hv] at hV
        clear hv
        go_enter Tryz.func17, Tryz.ntmps17
        go_wp2_with fail
        refine hV.mono ?_
        rintro e w1 ⟨rfl, hb1⟩
        go_wp2
        go_ret
        exact ⟨by rw [unhide Hk]; rfl, hb1⟩
      | true =>
        rw [hv] at hV
        have Hv := hide hv
        clear hv
        have hO := fun wx (hx : Ready wx) => onlySigns_calls s wx hx.tab
        cases ho : onlyB s with
        | false =>
          have Hk : Hid (checkP s = some 3) := checkP_only h0 h1 (unhide Hv) ho
          rw [ho] at hO
          clear ho
          go_enter Tryz.func17, Tryz.ntmps17
          go_wp2_with fail
          refine hV.mono ?_
          rintro e w1 ⟨rfl, hb1⟩
          have hR1 := hR.later hb1
          go_wp2_with fail
          refine (hO w1 hR1).mono ?_
          rintro e w2 ⟨rfl, hb2⟩
          go_wp2
          go_ret
          exact ⟨by rw [unhide Hk]; rfl, hb1.trans (hb2.mono hb1.size)⟩
        | true =>
          rw [ho] at hO
          obtain ⟨rs, rfl, hz⟩ := only_enc0 s ho
          have Ho := hide ho
          clear ho
          have hsm : ∀ r ∈ rs, SmallR r := fun r hr => is_small (hz r hr)
          have hb : (encL rs).length ≤ 24 := by rw [← encS_size]; omega
          cases rs with
          | nil => exact absurd rfl h0
          | cons r rs =>
            have hBg := fun wx (hx : Ready wx) => begins_calls r rs wx hx.u8 (hsm r (by simp))
            cases hc : classZ r != 0 with
            | true =>
              have Hk : Hid (checkP (encS (r :: rs)) = some 3) := checkP_mark h0 h1 (unhide Hv) (unhide Ho) hsm (by simpa using hc)
              rw [hc] at hBg
              clear hc hz hsm hb Hv Ho
              generalize encS (r :: rs) = s at *
              go_enter Tryz.func17, Tryz.ntmps17
              go_wp2_with fail
              refine hV.mono ?_
              rintro e w1 ⟨rfl, hb1⟩
              have hR1 := hR.later hb1
              go_wp2_with fail
              refine (hO w1 hR1).mono ?_
              rintro e w2 ⟨rfl, hb2⟩
              have hR2 := hR1.later hb2
              go_wp2_with fail
              refine (hBg w2 hR2).mono ?_
              rintro e w3 ⟨rfl, hb3⟩
              go_wp2
              go_ret
              exact ⟨by rw [unhide Hk]; rfl, (hb1.trans (hb2.mono hb1.size)).trans (hb3.mono (by have := hb1.size; have := hb2.size; omega))⟩
            | false =>
              rw [hc] at hBg
              have hc0 : classZ r = 0 := by simpa using hc
              have Hd3 : Hid (dotsB (encS (r :: rs)) = true → checkP (encS (r :: rs)) = some 3) := fun hd => checkP_dots h0 h1 (unhide Hv) (unhide Ho) hsm hc0 hd
              have Hd2 : Hid (dotsB (encS (r :: rs)) = false → checkP (encS (r :: rs)) = if 12 < (splitL (r :: rs)).length then some 2 else none) := fun hd => checkP_many h0 h1 (unhide Hv) (unhide Ho) hsm hc0 hd
              clear Hv Ho
              have hD := fun wx => dots_calls (encS (r :: rs)) wx
              have hP := fun wx (hx : Ready wx) => plainSplit_calls (r :: rs) wx hx.tab hsm (by have := (encL_len (r :: rs) hsm).1; omega) (by have := marks_parts (r :: rs) hsm; omega)
              have hN := fun wx => Tryz.utf8_RuneCountInString (encS (splitL (r :: rs))) wx (by
                rw [encS_size]
                have h5 := (encL_len (splitL (r :: rs)) (splitL_small hsm)).2
                rw [splitL_length] at h5
                have h6 := partsL_len (r :: rs)
                have h7 := (encL_len (r :: rs) hsm).1
                omega)
              rw [runeCount_enc _ (splitL_small hsm)] at hN
              have Hname : Hid ((splitL (r :: rs)).length ≤ 12 → Name (r :: rs)) := fun h => ⟨hz, by simp, fun q t e => by cases e; exact hc0, hb, h⟩
              have hlen : (splitL (r :: rs)).length ≤ 1000 := by
                rw [splitL_length]
                have h6 := partsL_len (r :: rs)
                have h7 := (encL_len (r :: rs) hsm).1
                omega
              obtain ⟨s, Hs⟩ : ∃ s, Hid (encS (r :: rs) = s) := ⟨_, rfl⟩
              rw [unhide Hs] at hV hO hBg hD hP h0z h1z Hd3 Hd2 ⊢
              clear hc hc0 hz hsm hb h0 h1 hs
              generalize (splitL (r :: rs)).length = n at *
              generalize encS (splitL (r :: rs)) = sp at *
              cases hd : (s.toList == [46] || s.toList == [46, 46]) with
              | true =>
                have Hk : Hid (checkP s = some 3) := unhide Hd3 hd
                rw [hd] at hD
                clear hd
                go_enter Tryz.func17, Tryz.ntmps17
                go_wp2_with fail
                refine hV.mono ?_
                rintro e w1 ⟨rfl, hb1⟩
                have hR1 := hR.later hb1
                go_wp2_with fail
                refine (hO w1 hR1).mono ?_
                rintro e w2 ⟨rfl, hb2⟩
                have hR2 := hR1.later hb2
                go_wp2_with fail
                refine (hBg w2 hR2).mono ?_
                rintro e w3 ⟨rfl, hb3⟩
                go_wp2_with fail
                refine (hD w3).mono ?_
                rintro e wx ⟨rfl, hwx⟩
                have hwx := hwx.symm
                subst hwx
                go_wp2
                go_ret
                exact ⟨by rw [unhide Hk]; rfl, (hb1.trans (hb2.mono hb1.size)).trans (hb3.mono (by have := hb1.size; have := hb2.size; omega))⟩
              | false =>
                have Hk0 := hide (unhide Hd2 hd)
                rw [hd] at hD
                clear hd
                by_cases hn : 12 < n
                · have hnz : (12 : Int) < (n : Int) := by omega
                  have Hk : Hid (checkP s = some 2) := (unhide Hk0).trans (if_pos hn)
                  go_enter Tryz.func17, Tryz.ntmps17
                  go_wp2_with fail
                  refine hV.mono ?_
                  rintro e w1 ⟨rfl, hb1⟩
                  have hR1 := hR.later hb1
                  go_wp2_with fail
                  refine (hO w1 hR1).mono ?_
                  rintro e w2 ⟨rfl, hb2⟩
                  have hR2 := hR1.later hb2
                  go_wp2_with fail
                  refine (hBg w2 hR2).mono ?_
                  rintro e w3 ⟨rfl, hb3⟩
                  have hR3 := hR2.later hb3
                  go_wp2_with fail
                  refine (hD w3).mono ?_
                  rintro e wx ⟨rfl, hwx⟩
                  have hwx := hwx.symm
                  subst hwx
                  go_wp2_with fail
                  refine (hP w3 hR3).mono ?_
                  rintro e w4 ⟨rfl, hb4⟩
                  go_wp2_with fail
                  refine (hN w4).mono ?_
                  rintro e w5 ⟨rfl, pos, hw5⟩
                  have hb5 : Below w4.heap.size w4 w5 := by rw [hw5]; exact (Below.refl _ _).alloc (Nat.le_refl _) _
                  clear hw5
                  go_wp2
                  go_ret
                  exact ⟨by rw [unhide Hk]; rfl, (((hb1.trans (hb2.mono hb1.size)).trans (hb3.mono (by have := hb1.size; have := hb2.size; omega))).trans (hb4.mono (by have := hb1.size; have := hb2.size; have := hb3.size; omega))).trans (hb5.mono (by have := hb1.size; have := hb2.size; have := hb3.size; have := hb4.size; omega))⟩
                · have hnz : ¬ (12 : Int) < (n : Int) := by omega
                  have Hk : Hid (checkP s = none) := (unhide Hk0).trans (if_neg hn)
                  go_enter Tryz.func17, Tryz.ntmps17
                  go_wp2_with fail
                  refine hV.mono ?_
                  rintro e w1 ⟨rfl, hb1⟩
                  have hR1 := hR.later hb1
                  go_wp2_with fail
                  refine (hO w1 hR1).mono ?_
                  rintro e w2 ⟨rfl, hb2⟩
                  have hR2 := hR1.later hb2
                  go_wp2_with fail
                  refine (hBg w2 hR2).mono ?_
                  rintro e w3 ⟨rfl, hb3⟩
                  have hR3 := hR2.later hb3
                  go_wp2_with fail
                  refine (hD w3).mono ?_
                  rintro e wx ⟨rfl, hwx⟩
                  have hwx := hwx.symm
                  subst hwx
                  go_wp2_with fail
                  refine (hP w3 hR3).mono ?_
                  rintro e w4 ⟨rfl, hb4⟩
                  go_wp2_with fail
                  refine (hN w4).mono ?_
                  rintro e w5 ⟨rfl, pos, hw5⟩
                  have hb5 : Below w4.heap.size w4 w5 := by rw [hw5]; exact (Below.refl _ _).alloc (Nat.le_refl _) _
                  clear hw5
                  go_wp2
                  go_ret
                  exact ⟨by rw [unhide Hk]; rfl, (((hb1.trans (hb2.mono hb1.size)).trans (hb3.mono (by have := hb1.size; have := hb2.size; omega))).trans (hb4.mono (by have := hb1.size; have := hb2.size; have := hb3.size; omega))).trans (hb5.mono (by have := hb1.size; have := hb2.size; have := hb3.size; have := hb4.size; omega))⟩
end Go.Proofs.YtjpmomklkkifjaaGreatDoor
namespace Go.Proofs.YtjpmomklkkifjaaGreatDoor
open Go.Shelf Go.RowKit
def lays146_ren : Go.Shelf.Ren := ⟨fun | 138 => 146 | 143 => 147 | 146 => 56 | 195 => 51 | 197 => 90 | 217 => 209 | 218 => 188 | 219 => 189 | 221 => 102 | 224 => 186 | 225 => 187 | 260 => 135 | 266 => 227 | 267 => 210 | 268 => 145 | 314 => 228 | n => n, fun | 31 => 42 | 46 => 126 | 51 => 182 | 105 => 139 | 119 => 134 | 138 => 136 | 139 => 137 | 146 => 233 | 0 => 0 | 3 => 3 | 4 => 4 | 5 => 5 | 9 => 9 | 21 => 21 | n => n, fun | 1 => 2 | 3 => 0 | 4 => 1 | n => n⟩
theorem lays146 : Lays.n146 Tryz.prog lays146_ren := {
  mixed := by kernel_rfl
  f138 := Tryz.func146.trans (congrArg some (by kernel_rfl))
  f143 := Tryz.func147.trans (congrArg some (by kernel_rfl))
  f146 := Tryz.func56.trans (congrArg some (by kernel_rfl))
  f195 := Tryz.func51.trans (congrArg some (by kernel_rfl))
  f197 := Tryz.func90.trans (congrArg some (by kernel_rfl))
  f217 := Tryz.func209.trans (congrArg some (by kernel_rfl))
  f218 := Tryz.func188.trans (congrArg some (by kernel_rfl))
  f219 := Tryz.func189.trans (congrArg some (by kernel_rfl))
  f221 := Tryz.func102.trans (congrArg some (by kernel_rfl))
  f224 := Tryz.func186.trans (congrArg some (by kernel_rfl))
  f225 := Tryz.func187.trans (congrArg some (by kernel_rfl))
  f260 := Tryz.func135.trans (congrArg some (by kernel_rfl))
  f266 := Tryz.func227.trans (congrArg some (by kernel_rfl))
  f267 := Tryz.func210.trans (congrArg some (by kernel_rfl))
  f268 := Tryz.func145.trans (congrArg some (by kernel_rfl))
  f314 := Tryz.func228.trans (congrArg some (by kernel_rfl))
  t0 := Tryz.underlying0
  a0 := Tryz.isAgg0
  z0 := Tryz.sizeOf0
  v0 := Tryz.zeroValue0
  t3 := Tryz.underlying3
  a3 := Tryz.isAgg3
  z3 := Tryz.sizeOf3
  v3 := Tryz.zeroValue3
  t4 := Tryz.underlying4
  a4 := Tryz.isAgg4
  z4 := Tryz.sizeOf4
  v4 := Tryz.zeroValue4
  t5 := Tryz.underlying5
  a5 := Tryz.isAgg5
  z5 := Tryz.sizeOf5
  v5 := Tryz.zeroValue5
  t9 := Tryz.underlying9
  a9 := Tryz.isAgg9
  z9 := Tryz.sizeOf9
  v9 := Tryz.zeroValue9
  t21 := Tryz.underlying21
  a21 := Tryz.isAgg21
  z21 := Tryz.sizeOf21
  v21 := Tryz.zeroValue21
  t31 := Tryz.underlying42
  a31 := Tryz.isAgg42
  z31 := Tryz.sizeOf42
  v31 := Tryz.zeroValue42
  t46 := Tryz.underlying126
  a46 := Tryz.isAgg126
  z46 := Tryz.sizeOf126
  v46 := Tryz.zeroValue126
  t51 := Tryz.underlying182
  a51 := Tryz.isAgg182
  z51 := Tryz.sizeOf182
  v51 := Tryz.zeroValue182
  t105 := Tryz.underlying139
  a105 := Tryz.isAgg139
  z105 := Tryz.sizeOf139
  v105 := Tryz.zeroValue139
  t119 := Tryz.underlying134
  a119 := Tryz.isAgg134
  z119 := Tryz.sizeOf134
  t138 := Tryz.underlying136
  a138 := Tryz.isAgg136
  z138 := Tryz.sizeOf136
  v138 := Tryz.zeroValue136
  t139 := Tryz.underlying137
  a139 := Tryz.isAgg137
  z139 := Tryz.sizeOf137
  v139 := Tryz.zeroValue137
  t146 := Tryz.underlying233
  a146 := Tryz.isAgg233
  z146 := Tryz.sizeOf233
  v146 := Tryz.zeroValue233
  g1 := by kernel_rfl
  g3 := by kernel_rfl
  g4 := by kernel_rfl }
def lays99_ren : Go.Shelf.Ren := ⟨fun | 99 => 55 | 206 => 101 | n => n, fun | 3 => 3 | 4 => 4 | 9 => 9 | n => n, fun | n => n⟩
theorem lays99 : Lays.n99 Tryz.prog lays99_ren := {
  mixed := by kernel_rfl
  f99 := Tryz.func55.trans (congrArg some (by kernel_rfl))
  f206 := Tryz.func101.trans (congrArg some (by kernel_rfl))
  t3 := Tryz.underlying3
  a3 := Tryz.isAgg3
  z3 := Tryz.sizeOf3
  v3 := Tryz.zeroValue3
  t4 := Tryz.underlying4
  a4 := Tryz.isAgg4
  z4 := Tryz.sizeOf4
  v4 := Tryz.zeroValue4
  t9 := Tryz.underlying9
  a9 := Tryz.isAgg9
  z9 := Tryz.sizeOf9
  v9 := Tryz.zeroValue9 }
theorem info9 : (Tryz.prog.info? 9).map (fun i => (i.zero, i.size, i.bytes)) = some (some (.string ByteArray.empty), 1, 16) := by kernel_rfl
theorem strSplit_calls (s sep : ByteArray) (m : Int) (w : World) (hs : s.size < 4294967281) (hm : w.cell? ⟨2, 0, none⟩ = some (.int .i64 m)) (h1 : 1 ≤ sep.size) :
    Calls Tryz.prog 56 #[.string s, .string sep] w fun e w' =>
      e = .returned (.slice (some ⟨w.heap.size, 0, none⟩) (Lib.countB s sep + 1) (Lib.countB s sep + 1)) ∧ w' = w.alloc (.cells ((Lib.splitB sep 0 (Lib.countB s sep) s).map Value.string).toArray 9) :=
  Any.strings_Split lays146 info9 s sep m w hs hm h1
theorem hasPrefix_calls (s p : ByteArray) (w : World) :
    Calls Tryz.prog 55 #[.string s, .string p] w fun e w' => e = .returned (.bool (Lib.hasPrefix s.data.toList p.data.toList)) ∧ w' = w := Any.strings_HasPrefix lays99 s p w
end Go.Proofs.YtjpmomklkkifjaaGreatDoor
