/-
  The contract of name.Check, over the seat's program: where it finds no fault, the text is signs, and few. The contract of key.elementWeight, over the seat's program. The contracts of key.elementWeight and key.markWeight, over the seat's program.
-/
import Derived.Test.YtjpmomklkkifjaaGreatDoorCValid
import Derived.Outline
import Derived.WalkMore
import Derived.BigQuiet
namespace Go.Proofs.YtjpmomklkkifjaaGreatDoor
open Go.RowKit
set_option maxRecDepth 100000

/-- Are all signs from a place on there? -/
def onlyFrom (s : ByteArray) : Nat → Nat → Bool
  | 0, _ => true
  | f + 1, pos => if pos < s.size then isZ (Utf8.decode s pos).1 && onlyFrom s f (pos + (Utf8.decode s pos).2) else true
def onlyB (s : ByteArray) : Bool := onlyFrom s s.size 0

theorem onlyFrom_end (s : ByteArray) (f pos : Nat) (h : ¬ pos < s.size) : onlyFrom s f pos = true := by
  cases f <;> simp [onlyFrom, h]

theorem is_small {r : Int} (h : isZ r = true) : SmallR r := by
  unfold isZ at h
  simp only [Bool.or_eq_true, bne_iff_ne] at h
  rcases h with (h | h) | h
  · obtain ⟨hm, hx⟩ := whole_mem r h
    have : ∀ x ∈ tab, 0 ≤ x.1 ∧ x.1 < 2048 := by decide +kernel
    have := this _ hm
    rw [hx] at this
    exact this
  · have := of_decide_eq_true h
    exact ⟨by omega, by omega⟩
  · exact mark_small (mark_of_class h)

/-- Signs that are there are read as they are written. -/
theorem only_enc (s : ByteArray) : ∀ (f pos : Nat), s.size ≤ pos + f → pos ≤ s.size → onlyFrom s f pos = true → ∃ rs, s.data.toList.drop pos = encL rs ∧ ∀ r ∈ rs, isZ r = true
  | 0, pos, h, h2, _ => ⟨[], by
      have hl : s.data.toList.length = s.size := Array.length_toList
      rw [List.drop_eq_nil_of_le (by omega)]
      rfl, by simp⟩
  | f + 1, pos, h, h2, ho => by
    have hl : s.data.toList.length = s.size := Array.length_toList
    by_cases hp : pos < s.size
    · simp only [onlyFrom, if_pos hp, Bool.and_eq_true] at ho
      have hd := Lib.decodeL_drop s pos
      have hne : s.data.toList.drop pos ≠ [] := by
        intro e
        have := congrArg List.length e
        rw [List.length_drop, List.length_nil] at this
        omega
      have hw := Lib.decodeL_le _ hne
      have hw1 := Lib.decodeL_width (s.data.toList.drop pos)
      rw [hd, List.length_drop] at hw
      rw [hd] at hw1
      obtain ⟨rs, h3, h4⟩ := only_enc s f (pos + (Utf8.decode s pos).2) (by omega) (by omega) ho.2
      refine ⟨((Utf8.decode s pos).1 : Int) :: rs, ?_, ?_⟩
      · have he := Lib.encode_decode (s.data.toList.drop pos) hne (by
          rintro ⟨h5, _⟩
          have := is_small ho.1
          rw [hd] at h5
          rw [h5] at this
          have := this.2
          omega)
        rw [hd] at he
        rw [encL_cons, he, ← h3, ← List.drop_drop, List.take_append_drop]
      · intro r hr
        rcases List.mem_cons.1 hr with rfl | hr
        · exact ho.1
        · exact h4 r hr
    · exact ⟨[], by rw [List.drop_eq_nil_of_le (by omega)]; rfl, by simp⟩

theorem only_enc0 (s : ByteArray) (h : onlyB s = true) : ∃ rs, s = encS rs ∧ ∀ r ∈ rs, isZ r = true := by
  obtain ⟨rs, h1, h2⟩ := only_enc s s.size 0 (by omega) (by omega) h
  refine ⟨rs, ?_, h2⟩
  rw [List.drop_zero] at h1
  unfold encS
  rw [← h1]

set_option maxRecDepth 100000 in
theorem onlySigns_calls (s : ByteArray) (w : World) (hT : HasTab w) :
    Calls Tryz.prog 48 #[.string s] w fun e w' => e = .returned (.bool (onlyB s)) ∧ Below w.heap.size w w' := by
  have hsz3 := hT.size
  go_enter Tryz.func48, Tryz.ntmps48
  go_wp2_with fail
  go_loopg [] (s.size + 1) (fun k wr => ∃ (pos fuel : Nat), k = fuel + 1 ∧ wr.heap[w.heap.size]? = some (.stringIter s pos) ∧ Below w.heap.size w wr ∧ s.size ≤ pos + fuel ∧ Hid (onlyFrom s fuel pos = onlyB s))
  case atStart =>
    refine ⟨0, s.size, rfl, ?_, (Below.refl _ w).alloc (Nat.le_refl _) _, by omega, rfl⟩
    have := World.iter_heap w s 0
    simpa using this
  case round =>
    obtain ⟨pos, fuel, hk, hit, hbw, hfu, HO⟩ := hrel
    have hsz : w.heap.size < wr.heap.size := (Array.getElem?_eq_some_iff.1 hit).1
    by_cases hp : pos < s.size
    · obtain ⟨f, rfl⟩ : ∃ f, fuel = f + 1 := ⟨fuel - 1, by omega⟩
      have hnx : ∀ ty, (Instr.next (.pointer (some ⟨w.heap.size, 0, none⟩)) true ty).run Tryz.prog wr = _ := fun ty => Lib.run_next_any_at wr w.heap.size s pos ty hit hp
      have hwd : 1 ≤ (Utf8.decode s pos).2 := by
        have := Lib.decodeL_width (s.data.toList.drop pos)
        rw [Lib.decodeL_drop] at this
        exact this
      have hit2 := Lib.iterAt_heap wr w.heap.size s pos (pos + (Utf8.decode s pos).2) hit
      have hbw2 := Lib.below_iterAt hbw (k := w.heap.size) (Nat.le_refl _) s (pos + (Utf8.decode s pos).2)
      have hsz2 : (wr.iterAt w.heap.size s (pos + (Utf8.decode s pos).2)).heap.size = wr.heap.size := Lib.iterAt_size _ _ _ _
      have hI := is_calls ((Utf8.decode s pos).1 : Int) (wr.iterAt w.heap.size s (pos + (Utf8.decode s pos).2)) (hT.later hbw2 hsz3)
      have Hst : Hid (onlyFrom s (f + 1) pos = (isZ (Utf8.decode s pos).1 && onlyFrom s f (pos + (Utf8.decode s pos).2))) := by
        show _ = _
        simp only [onlyFrom, if_pos hp]
      cases hz : isZ ((Utf8.decode s pos).1 : Int) with
      | true =>
        rw [hz] at hI Hst
        have Hz := hide hz
        clear hz
        go_wp2_with fail
        refine hI.mono ?_
        rintro e w1 ⟨rfl, hb1⟩
        go_wp2
        go_roundg (f + 1)
        case measure => omega
        case rel =>
          refine ⟨pos + (Utf8.decode s pos).2, f, rfl, ?_, hbw2.trans (hb1.mono (by omega)), by omega, ?_⟩
          · rw [hb1.block _ (by omega)]
            exact hit2
          · rw [← unhide HO, unhide Hst]
            rfl
      | false =>
        rw [hz] at hI Hst
        have Hz := hide hz
        clear hz
        go_wp2_with fail
        refine hI.mono ?_
        rintro e w1 ⟨rfl, hb1⟩
        go_wp2
        go_ret
        refine ⟨?_, hbw2.trans (hb1.mono (by omega))⟩
        rw [← unhide HO, unhide Hst]
        rfl
    · have hnx : ∀ ty, (Instr.next (.pointer (some ⟨w.heap.size, 0, none⟩)) true ty).run Tryz.prog wr = _ := fun ty => Lib.run_next_end_at wr w.heap.size s pos ty hit hp
      go_wp2
      go_ret
      refine ⟨?_, hbw⟩
      rw [← unhide HO, onlyFrom_end s fuel pos hp]
      rfl

theorem runeCount_from (rs : List Int) (hs : ∀ r ∈ rs, SmallR r) : ∀ (rest done : List Int) (f : Nat), rs = done ++ rest → rest.length ≤ f → Lib.runeCountFrom (encS rs) f (encL done).length = rest.length
  | [], done, f, h, _ => by
    rw [Lib.runeCountFrom_end _ _ _ (by rw [encS_size, h, List.append_nil]; omega)]
    rfl
  | r :: rest, done, 0, h, hf => by simp at hf
  | r :: rest, done, f + 1, h, hf => by
    have hr := hs r (by rw [h]; simp)
    have hp : (encL done).length < (encS rs).size := by
      rw [encS_size, h, encL_append, encL_cons, List.length_append, List.length_append]
      have := enc_pos hr
      omega
    have hd : Utf8.decode (encS rs) (encL done).length = (r.toNat, (Lib.encodeRune r).length) := by
      rw [h]
      exact decode_at done r rest hr
    simp only [Lib.runeCountFrom, if_pos hp, hd]
    have e : (encL done).length + (Lib.encodeRune r).length = (encL (done ++ [r])).length := by rw [encL_append, encL_one, List.length_append]
    rw [e, runeCount_from rs hs rest (done ++ [r]) f (by rw [h]; simp) (by simpa using hf), List.length_cons]
    omega
theorem runeCount_enc (rs : List Int) (hs : ∀ r ∈ rs, SmallR r) : Lib.runeCount (encS rs) = rs.length := by
  unfold Lib.runeCount
  exact runeCount_from rs hs rs [] _ rfl (by rw [encS_size]; exact (encL_len rs hs).1)

theorem dots_calls (s : ByteArray) (w : World) : Calls Tryz.prog 50 #[.string s] w fun e w' => e = .returned (.bool (s.toList == [46] || s.toList == [46, 46])) ∧ w' = w := by
  cases h1 : s.toList == [46]
  · go_enter Tryz.func50, Tryz.ntmps50
    go_wp2
    all_goals go_ret
    all_goals (refine ⟨?_, rfl⟩; simp_all)
  · go_enter Tryz.func50, Tryz.ntmps50
    go_wp2
    all_goals go_ret
    all_goals (refine ⟨?_, rfl⟩; simp_all)

theorem begins_calls (r : Int) (rs : List Int) (w : World) (hU : Lib.Utf8Tabs 0 1 w) (hr : SmallR r) :
    Calls Tryz.prog 49 #[.string (encS (r :: rs))] w fun e w' => e = .returned (.bool (classZ r != 0)) ∧ Below w.heap.size w w' := by
  have h1 := Tryz.utf8_DecodeRuneInString (encS (r :: rs)) w hU
  have hd : Lib.decodeGo (encS (r :: rs)) = (r.toNat, (Lib.encodeRune r).length) := by
    unfold Lib.decodeGo
    have hp : ¬ (encS (r :: rs)).size = 0 := by
      rw [encS_size, encL_cons, List.length_append]
      have := enc_pos hr
      omega
    rw [if_neg hp]
    exact decode_at [] r rs hr
  rw [hd] at h1
  simp only [Int.toNat_of_nonneg hr.1] at h1
  have hC := fun wx => class_calls r wx
  clear hd
  generalize classZ r = c at *
  generalize (Lib.encodeRune r).length = n at *
  go_enter Tryz.func49, Tryz.ntmps49
  go_wp2_with fail
  refine h1.mono ?_
  rintro e w1 ⟨rfl, hb1⟩
  go_wp2_with fail
  refine (hC w1).mono ?_
  rintro e wx ⟨rfl, hwx⟩
  have hwx := hwx.symm
  subst hwx
  go_wp2
  go_ret
  exact ⟨rfl, hb1⟩

/-- A name that may be. -/
structure Name (rs : List Int) : Prop where
  signs : ∀ r ∈ rs, isZ r = true
  ne : rs ≠ []
  first : ∀ r t, rs = r :: t → classZ r = 0
  bytes : (encL rs).length ≤ 24
  few : (splitL rs).length ≤ 12

theorem Name.small {rs : List Int} (h : Name rs) : ∀ r ∈ rs, SmallR r := fun r hr => is_small (h.signs r hr)

theorem marks_split {r : Int} (h : SmallR r) : 2 * marks (splitZ r) ≤ (Lib.encodeRune r).length := by
  have hl := enc_len h
  have two : 128 ≤ r → (Lib.encodeRune r).length = 2 := fun h1 => by rw [enc_two h1 h.2]; rfl
  unfold splitZ
  cases hB : wholeB r with
  | false =>
    by_cases hc : classZ r = 0
    · simp [marks, hc]
    · have := mark_range (mark_of_class hc)
      rw [two (by omega)]
      simp [marks, hc]
  | true =>
    obtain ⟨hm, hx⟩ := whole_mem r hB
    have h1 := base_class _ (tab_facts _ hm).2.2.1
    have h3 : ∀ x ∈ tab, 192 ≤ x.1 := by decide +kernel
    have h2 := h3 _ hm
    rw [two (by omega)]
    simp only [marks, if_true, List.filter_cons, h1]
    simp
    split <;> simp
theorem marks_parts : ∀ rs : List Int, (∀ r ∈ rs, SmallR r) → 2 * marks (partsL rs) ≤ (encL rs).length
  | [], _ => by simp [marks, partsL]
  | r :: rs, h => by
    have h1 := marks_split (h r (by simp))
    have h2 := marks_parts rs (fun x hx => h x (by simp [hx]))
    have e : partsL (r :: rs) = splitZ r ++ partsL rs := rfl
    rw [e, marks_append, encL_cons, List.length_append]
    omega
theorem Name.marks {rs : List Int} (h : Name rs) : marks (partsL rs) < 20 := by
  have := marks_parts rs h.small
  have := h.bytes
  omega
theorem Name.short {rs : List Int} (h : Name rs) : rs.length ≤ 24 := by
  have := (encL_len rs h.small).1
  have := h.bytes
  omega

/-- What a check leaves: no fault, and a name; or a fault. -/
def Checked (s : ByteArray) (e : Ending) : Prop := (e = .returned .nilIface ∧ ∃ rs, s = encS rs ∧ Name rs) ∨ ∃ k, e = .returned (.iface 86 (.int .i64 k))

set_option maxRecDepth 100000 in
theorem check_calls (s : ByteArray) (w : World) (hR : Ready w) (hs : s.size ≤ 9223372036854775807) :
    Calls Tryz.prog 17 #[.string s] w fun e w' => Checked s e ∧ Below w.heap.size w w' := by
  by_cases h0 : s.size = 0
  · have h0z : ((s.size : Int) == 0) = true := by simp [h0]
    go_enter Tryz.func17, Tryz.ntmps17
    go_wp2
    go_ret
    exact ⟨.inr ⟨1, rfl⟩, Below.refl _ _⟩
  · have h0z : ((s.size : Int) == 0) = false := by simp [h0]
    by_cases h1 : 24 < s.size
    · have h1z : (24 : Int) < (s.size : Int) := by omega
      go_enter Tryz.func17, Tryz.ntmps17
      go_wp2
      go_ret
      exact ⟨.inr ⟨1, rfl⟩, Below.refl _ _⟩
    · have h1z : ¬ (24 : Int) < (s.size : Int) := by omega
      have hV := validString_calls s w hs hR.u8
      cases hv : Lib.validD s.data.toList with
      | false =>
        rw [hv] at hV
        clear hv
        go_enter Tryz.func17, Tryz.ntmps17
        go_wp2_with fail
        refine hV.mono ?_
        rintro e w1 ⟨rfl, hb1⟩
        go_wp2
        go_ret
        exact ⟨.inr ⟨4, rfl⟩, hb1⟩
      | true =>
        rw [hv] at hV
        clear hv
        have hO := fun wx (hx : Ready wx) => onlySigns_calls s wx hx.tab
        cases ho : onlyB s with
        | false =>
          rw [ho] at hO
          clear ho
          go_enter Tryz.func17, Tryz.ntmps17
          go_wp2_with fail
          refine hV.mono ?_
          rintro e w1 ⟨rfl, hb1⟩
          have hR1 := hR.later hb1
          go_wp2_with fail
          refine (hO w1 hR1).mono ?_
          rintro e w2 ⟨rfl, hb2⟩
          go_wp2
          go_ret
          exact ⟨.inr ⟨3, rfl⟩, hb1.trans (hb2.mono hb1.size)⟩
        | true =>
          rw [ho] at hO
          obtain ⟨rs, rfl, hz⟩ := only_enc0 s ho
          clear ho
          have hsm : ∀ r ∈ rs, SmallR r := fun r hr => is_small (hz r hr)
          have hb : (encL rs).length ≤ 24 := by rw [← encS_size]; omega
          cases rs with
          | nil => exact absurd rfl h0
          | cons r rs =>
            have hBg := fun wx (hx : Ready wx) => begins_calls r rs wx hx.u8 (hsm r (by simp))
            cases hc : classZ r != 0 with
            | true =>
              rw [hc] at hBg
              clear hc hz hsm hb
              generalize encS (r :: rs) = s at *
              go_enter Tryz.func17, Tryz.ntmps17
              go_wp2_with fail
              refine hV.mono ?_
              rintro e w1 ⟨rfl, hb1⟩
              have hR1 := hR.later hb1
              go_wp2_with fail
              refine (hO w1 hR1).mono ?_
              rintro e w2 ⟨rfl, hb2⟩
              have hR2 := hR1.later hb2
              go_wp2_with fail
              refine (hBg w2 hR2).mono ?_
              rintro e w3 ⟨rfl, hb3⟩
              go_wp2
              go_ret
              exact ⟨.inr ⟨3, rfl⟩, (hb1.trans (hb2.mono hb1.size)).trans (hb3.mono (by have := hb1.size; have := hb2.size; omega))⟩
            | false =>
              rw [hc] at hBg
              have hc0 : classZ r = 0 := by simpa using hc
              have hD := fun wx => dots_calls (encS (r :: rs)) wx
              have hP := fun wx (hx : Ready wx) => plainSplit_calls (r :: rs) wx hx.tab hsm (by have := (encL_len (r :: rs) hsm).1; omega) (by have := marks_parts (r :: rs) hsm; omega)
              have hN := fun wx => Tryz.utf8_RuneCountInString (encS (splitL (r :: rs))) wx (by
                rw [encS_size]
                have h5 := (encL_len (splitL (r :: rs)) (splitL_small hsm)).2
                rw [splitL_length] at h5
                have h6 := partsL_len (r :: rs)
                have h7 := (encL_len (r :: rs) hsm).1
                omega)
              rw [runeCount_enc _ (splitL_small hsm)] at hN
              have Hname : Hid ((splitL (r :: rs)).length ≤ 12 → Name (r :: rs)) := fun h => ⟨hz, by simp, fun q t e => by cases e; exact hc0, hb, h⟩
              have hlen : (splitL (r :: rs)).length ≤ 1000 := by
                rw [splitL_length]
                have h6 := partsL_len (r :: rs)
                have h7 := (encL_len (r :: rs) hsm).1
                omega
              obtain ⟨s, Hs⟩ : ∃ s, Hid (encS (r :: rs) = s) := ⟨_, rfl⟩
              rw [unhide Hs] at hV hO hBg hD hP h0z h1z ⊢
              clear hc hc0 hz hsm hb h0 h1 hs
              generalize (splitL (r :: rs)).length = n at *
              generalize encS (splitL (r :: rs)) = sp at *
              cases hd : (s.toList == [46] || s.toList == [46, 46]) with
              | true =>
                rw [hd] at hD
                clear hd
                go_enter Tryz.func17, Tryz.ntmps17
                go_wp2_with fail
                refine hV.mono ?_
                rintro e w1 ⟨rfl, hb1⟩
                have hR1 := hR.later hb1
                go_wp2_with fail
                refine (hO w1 hR1).mono ?_
                rintro e w2 ⟨rfl, hb2⟩
                have hR2 := hR1.later hb2
                go_wp2_with fail
                refine (hBg w2 hR2).mono ?_
                rintro e w3 ⟨rfl, hb3⟩
                go_wp2_with fail
                refine (hD w3).mono ?_
                rintro e wx ⟨rfl, hwx⟩
                have hwx := hwx.symm
                subst hwx
                go_wp2
                go_ret
                exact ⟨.inr ⟨3, rfl⟩, (hb1.trans (hb2.mono hb1.size)).trans (hb3.mono (by have := hb1.size; have := hb2.size; omega))⟩
              | false =>
                rw [hd] at hD
                clear hd
                by_cases hn : 12 < n
                · have hnz : (12 : Int) < (n : Int) := by omega
                  go_enter Tryz.func17, Tryz.ntmps17
                  go_wp2_with fail
                  refine hV.mono ?_
                  rintro e w1 ⟨rfl, hb1⟩
                  have hR1 := hR.later hb1
                  go_wp2_with fail
                  refine (hO w1 hR1).mono ?_
                  rintro e w2 ⟨rfl, hb2⟩
                  have hR2 := hR1.later hb2
                  go_wp2_with fail
                  refine (hBg w2 hR2).mono ?_
                  rintro e w3 ⟨rfl, hb3⟩
                  have hR3 := hR2.later hb3
                  go_wp2_with fail
                  refine (hD w3).mono ?_
                  rintro e wx ⟨rfl, hwx⟩
                  have hwx := hwx.symm
                  subst hwx
                  go_wp2_with fail
                  refine (hP w3 hR3).mono ?_
                  rintro e w4 ⟨rfl, hb4⟩
                  go_wp2_with fail
                  refine (hN w4).mono ?_
                  rintro e w5 ⟨rfl, pos, hw5⟩
                  have hb5 : Below w4.heap.size w4 w5 := by rw [hw5]; exact (Below.refl _ _).alloc (Nat.le_refl _) _
                  clear hw5
                  go_wp2
                  go_ret
                  exact ⟨.inr ⟨2, rfl⟩, (((hb1.trans (hb2.mono hb1.size)).trans (hb3.mono (by have := hb1.size; have := hb2.size; omega))).trans (hb4.mono (by have := hb1.size; have := hb2.size; have := hb3.size; omega))).trans (hb5.mono (by have := hb1.size; have := hb2.size; have := hb3.size; have := hb4.size; omega))⟩
                · have hnz : ¬ (12 : Int) < (n : Int) := by omega
                  go_enter Tryz.func17, Tryz.ntmps17
                  go_wp2_with fail
                  refine hV.mono ?_
                  rintro e w1 ⟨rfl, hb1⟩
                  have hR1 := hR.later hb1
                  go_wp2_with fail
                  refine (hO w1 hR1).mono ?_
                  rintro e w2 ⟨rfl, hb2⟩
                  have hR2 := hR1.later hb2
                  go_wp2_with fail
                  refine (hBg w2 hR2).mono ?_
                  rintro e w3 ⟨rfl, hb3⟩
                  have hR3 := hR2.later hb3
                  go_wp2_with fail
                  refine (hD w3).mono ?_
                  rintro e wx ⟨rfl, hwx⟩
                  have hwx := hwx.symm
                  subst hwx
                  go_wp2_with fail
                  refine (hP w3 hR3).mono ?_
                  rintro e w4 ⟨rfl, hb4⟩
                  go_wp2_with fail
                  refine (hN w4).mono ?_
                  rintro e w5 ⟨rfl, pos, hw5⟩
                  have hb5 : Below w4.heap.size w4 w5 := by rw [hw5]; exact (Below.refl _ _).alloc (Nat.le_refl _) _
                  clear hw5
                  go_wp2
                  go_ret
                  exact ⟨.inl ⟨rfl, r :: rs, (unhide Hs).symm, unhide Hname (by omega)⟩, (((hb1.trans (hb2.mono hb1.size)).trans (hb3.mono (by have := hb1.size; have := hb2.size; omega))).trans (hb4.mono (by have := hb1.size; have := hb2.size; have := hb3.size; omega))).trans (hb5.mono (by have := hb1.size; have := hb2.size; have := hb3.size; have := hb4.size; omega))⟩
end Go.Proofs.YtjpmomklkkifjaaGreatDoor
namespace Go.Proofs.YtjpmomklkkifjaaGreatDoor
open Go.RowKit
set_option maxRecDepth 100000

/-- The elements as their weights rise. -/
def orderB : ByteArray := ⟨#[32, 45, 46, 95, 48, 49, 50, 51, 52, 53, 54, 55, 56, 57, 97, 98, 99, 67, 100, 101, 102, 103, 104, 105, 106, 107, 108, 109, 110, 111, 112, 113, 114, 115, 116, 117, 118, 119, 120, 121, 122, 207, 131]⟩

theorem orderB_size : orderB.size = 43 := rfl
/-- .. from the third on. -/
def orderTail : ByteArray := ⟨#[46, 95, 48, 49, 50, 51, 52, 53, 54, 55, 56, 57, 97, 98, 99, 67, 100, 101, 102, 103, 104, 105, 106, 107, 108, 109, 110, 111, 112, 113, 114, 115, 116, 117, 118, 119, 120, 121, 122, 207, 131]⟩

def markB768 : ByteArray := ⟨#[204, 128]⟩
set_option maxRecDepth 100000 in
theorem index_768 (w : World) :
    Calls Tryz.prog 144 #[.string orderB, .int .i32 768] w fun e w' => e = .returned (.int .i64 (-1)) ∧ Below w.heap.size w w' := by
  have hV : ∀ wx, Calls Tryz.prog 185 #[.int .i32 768] wx fun e w' => e = .returned (.bool true) ∧ w' = wx := fun wx => Tryz.utf8_ValidRune 768 wx
  have hix : ∀ wx, (Instr.index 9 (.string orderB) (.int .i64 1)).run Tryz.prog wx = .ok (.int .u8 45) wx := fun wx => by kernel_rfl
  have hsl : ∀ wx, (Instr.slice 9 (.string orderB) (some (.int .i64 2)) none none).run Tryz.prog wx = .ok (.string orderTail) wx := fun wx => by kernel_rfl
  have hsz := orderB_size
  have henc : Utf8.encode 768 = markB768 := by decide +kernel
  have hmsz : markB768.size = 2 := rfl
  have hix2 : ∀ wx, (Instr.index 9 (.string markB768) (.int .i64 1)).run Tryz.prog wx = .ok (.int .u8 128) wx := fun wx => by kernel_rfl
  have hIB : ∀ wx, Calls Tryz.prog 184 #[.string orderTail, .int .u8 128] wx fun e w' => e = .returned (.int .i64 (-1)) ∧ w' = wx := fun wx => Tryz.strings_IndexByte orderTail 128 wx
  go_enter Tryz.func144, Tryz.ntmps144
  go_wp2_with fail
  refine (hV w).mono ?_
  rintro e wx ⟨rfl, hwx⟩
  have hwx := hwx.symm
  subst hwx
  go_wp2_with fail
  go_step3
  go_wp2_with fail
  refine wp_loop_rounds 1 ?_
  rw [rounds_succ]
  go_wp2_with fail
  go_step3
  go_wp2_with fail
  go_quiet (fail)
  have hbq := below_drewN (Below.refl w.heap.size w) nq
  go_wp2_with fail
  generalize w.drewN nq = wq at *
  go_quiet ((go_at_call 184; refine Calls.quiet_of_same (hIB _)))
  go_wp2
  rw [Exit.noGoto_ret]
  go_wp2
  rw [Exit.noGoto_ret]
  go_wp2
  go_ret
  exact ⟨rfl, below_drewN hbq nq⟩
def markB769 : ByteArray := ⟨#[204, 129]⟩
set_option maxRecDepth 100000 in
theorem index_769 (w : World) :
    Calls Tryz.prog 144 #[.string orderB, .int .i32 769] w fun e w' => e = .returned (.int .i64 (-1)) ∧ Below w.heap.size w w' := by
  have hV : ∀ wx, Calls Tryz.prog 185 #[.int .i32 769] wx fun e w' => e = .returned (.bool true) ∧ w' = wx := fun wx => Tryz.utf8_ValidRune 769 wx
  have hix : ∀ wx, (Instr.index 9 (.string orderB) (.int .i64 1)).run Tryz.prog wx = .ok (.int .u8 45) wx := fun wx => by kernel_rfl
  have hsl : ∀ wx, (Instr.slice 9 (.string orderB) (some (.int .i64 2)) none none).run Tryz.prog wx = .ok (.string orderTail) wx := fun wx => by kernel_rfl
  have hsz := orderB_size
  have henc : Utf8.encode 769 = markB769 := by decide +kernel
  have hmsz : markB769.size = 2 := rfl
  have hix2 : ∀ wx, (Instr.index 9 (.string markB769) (.int .i64 1)).run Tryz.prog wx = .ok (.int .u8 129) wx := fun wx => by kernel_rfl
  have hIB : ∀ wx, Calls Tryz.prog 184 #[.string orderTail, .int .u8 129] wx fun e w' => e = .returned (.int .i64 (-1)) ∧ w' = wx := fun wx => Tryz.strings_IndexByte orderTail 129 wx
  go_enter Tryz.func144, Tryz.ntmps144
  go_wp2_with fail
  refine (hV w).mono ?_
  rintro e wx ⟨rfl, hwx⟩
  have hwx := hwx.symm
  subst hwx
  go_wp2_with fail
  go_step3
  go_wp2_with fail
  refine wp_loop_rounds 1 ?_
  rw [rounds_succ]
  go_wp2_with fail
  go_step3
  go_wp2_with fail
  go_quiet (fail)
  have hbq := below_drewN (Below.refl w.heap.size w) nq
  go_wp2_with fail
  generalize w.drewN nq = wq at *
  go_quiet ((go_at_call 184; refine Calls.quiet_of_same (hIB _)))
  go_wp2
  rw [Exit.noGoto_ret]
  go_wp2
  rw [Exit.noGoto_ret]
  go_wp2
  go_ret
  exact ⟨rfl, below_drewN hbq nq⟩
def markB776 : ByteArray := ⟨#[204, 136]⟩
set_option maxRecDepth 100000 in
theorem index_776 (w : World) :
    Calls Tryz.prog 144 #[.string orderB, .int .i32 776] w fun e w' => e = .returned (.int .i64 (-1)) ∧ Below w.heap.size w w' := by
  have hV : ∀ wx, Calls Tryz.prog 185 #[.int .i32 776] wx fun e w' => e = .returned (.bool true) ∧ w' = wx := fun wx => Tryz.utf8_ValidRune 776 wx
  have hix : ∀ wx, (Instr.index 9 (.string orderB) (.int .i64 1)).run Tryz.prog wx = .ok (.int .u8 45) wx := fun wx => by kernel_rfl
  have hsl : ∀ wx, (Instr.slice 9 (.string orderB) (some (.int .i64 2)) none none).run Tryz.prog wx = .ok (.string orderTail) wx := fun wx => by kernel_rfl
  have hsz := orderB_size
  have henc : Utf8.encode 776 = markB776 := by decide +kernel
  have hmsz : markB776.size = 2 := rfl
  have hix2 : ∀ wx, (Instr.index 9 (.string markB776) (.int .i64 1)).run Tryz.prog wx = .ok (.int .u8 136) wx := fun wx => by kernel_rfl
  have hIB : ∀ wx, Calls Tryz.prog 184 #[.string orderTail, .int .u8 136] wx fun e w' => e = .returned (.int .i64 (-1)) ∧ w' = wx := fun wx => Tryz.strings_IndexByte orderTail 136 wx
  go_enter Tryz.func144, Tryz.ntmps144
  go_wp2_with fail
  refine (hV w).mono ?_
  rintro e wx ⟨rfl, hwx⟩
  have hwx := hwx.symm
  subst hwx
  go_wp2_with fail
  go_step3
  go_wp2_with fail
  refine wp_loop_rounds 1 ?_
  rw [rounds_succ]
  go_wp2_with fail
  go_step3
  go_wp2_with fail
  go_quiet (fail)
  have hbq := below_drewN (Below.refl w.heap.size w) nq
  go_wp2_with fail
  generalize w.drewN nq = wq at *
  go_quiet ((go_at_call 184; refine Calls.quiet_of_same (hIB _)))
  go_wp2
  rw [Exit.noGoto_ret]
  go_wp2
  rw [Exit.noGoto_ret]
  go_wp2
  go_ret
  exact ⟨rfl, below_drewN hbq nq⟩
def markB807 : ByteArray := ⟨#[204, 167]⟩
set_option maxRecDepth 100000 in
theorem index_807 (w : World) :
    Calls Tryz.prog 144 #[.string orderB, .int .i32 807] w fun e w' => e = .returned (.int .i64 (-1)) ∧ Below w.heap.size w w' := by
  have hV : ∀ wx, Calls Tryz.prog 185 #[.int .i32 807] wx fun e w' => e = .returned (.bool true) ∧ w' = wx := fun wx => Tryz.utf8_ValidRune 807 wx
  have hix : ∀ wx, (Instr.index 9 (.string orderB) (.int .i64 1)).run Tryz.prog wx = .ok (.int .u8 45) wx := fun wx => by kernel_rfl
  have hsl : ∀ wx, (Instr.slice 9 (.string orderB) (some (.int .i64 2)) none none).run Tryz.prog wx = .ok (.string orderTail) wx := fun wx => by kernel_rfl
  have hsz := orderB_size
  have henc : Utf8.encode 807 = markB807 := by decide +kernel
  have hmsz : markB807.size = 2 := rfl
  have hix2 : ∀ wx, (Instr.index 9 (.string markB807) (.int .i64 1)).run Tryz.prog wx = .ok (.int .u8 167) wx := fun wx => by kernel_rfl
  have hIB : ∀ wx, Calls Tryz.prog 184 #[.string orderTail, .int .u8 167] wx fun e w' => e = .returned (.int .i64 (-1)) ∧ w' = wx := fun wx => Tryz.strings_IndexByte orderTail 167 wx
  go_enter Tryz.func144, Tryz.ntmps144
  go_wp2_with fail
  refine (hV w).mono ?_
  rintro e wx ⟨rfl, hwx⟩
  have hwx := hwx.symm
  subst hwx
  go_wp2_with fail
  go_step3
  go_wp2_with fail
  refine wp_loop_rounds 1 ?_
  rw [rounds_succ]
  go_wp2_with fail
  go_step3
  go_wp2_with fail
  go_quiet (fail)
  have hbq := below_drewN (Below.refl w.heap.size w) nq
  go_wp2_with fail
  generalize w.drewN nq = wq at *
  go_quiet ((go_at_call 184; refine Calls.quiet_of_same (hIB _)))
  go_wp2
  rw [Exit.noGoto_ret]
  go_wp2
  rw [Exit.noGoto_ret]
  go_wp2
  go_ret
  exact ⟨rfl, below_drewN hbq nq⟩
def sigmaB : ByteArray := ⟨#[207, 131]⟩
set_option maxRecDepth 100000 in
theorem index_963 (w : World) :
    Calls Tryz.prog 144 #[.string orderB, .int .i32 963] w fun e w' => e = .returned (.int .i64 41) ∧ Below w.heap.size w w' := by
  have hV : ∀ wx, Calls Tryz.prog 185 #[.int .i32 963] wx fun e w' => e = .returned (.bool true) ∧ w' = wx := fun wx => Tryz.utf8_ValidRune 963 wx
  have hix : ∀ wx, (Instr.index 9 (.string orderB) (.int .i64 1)).run Tryz.prog wx = .ok (.int .u8 45) wx := fun wx => by kernel_rfl
  have hix3 : ∀ wx, (Instr.index 9 (.string orderB) (.int .i64 41)).run Tryz.prog wx = .ok (.int .u8 207) wx := fun wx => by kernel_rfl
  have hsl : ∀ wx, (Instr.slice 9 (.string orderB) (some (.int .i64 2)) none none).run Tryz.prog wx = .ok (.string orderTail) wx := fun wx => by kernel_rfl
  have hsz := orderB_size
  have henc : Utf8.encode 963 = sigmaB := by decide +kernel
  have hmsz : sigmaB.size = 2 := rfl
  have hix2 : ∀ wx, (Instr.index 9 (.string sigmaB) (.int .i64 1)).run Tryz.prog wx = .ok (.int .u8 131) wx := fun wx => by kernel_rfl
  have hix0 : ∀ wx, (Instr.index 9 (.string sigmaB) (.int .i64 0)).run Tryz.prog wx = .ok (.int .u8 207) wx := fun wx => by kernel_rfl
  have hIB : ∀ wx, Calls Tryz.prog 184 #[.string orderTail, .int .u8 131] wx fun e w' => e = .returned (.int .i64 40) ∧ w' = wx := fun wx => Tryz.strings_IndexByte orderTail 131 wx
  go_enter Tryz.func144, Tryz.ntmps144
  go_wp2_with fail
  refine (hV w).mono ?_
  rintro e wx ⟨rfl, hwx⟩
  have hwx := hwx.symm
  subst hwx
  go_wp2_with fail
  go_step3
  go_wp2_with fail
  refine wp_loop_rounds 1 ?_
  rw [rounds_succ]
  go_wp2_with fail
  go_step3
  go_wp2_with fail
  go_quiet (fail)
  have hbq := below_drewN (Below.refl w.heap.size w) nq
  go_wp2_with fail
  generalize w.drewN nq = wq at *
  go_quiet ((go_at_call 184; refine Calls.quiet_of_same (hIB _)))
  have hbq2 := below_drewN hbq nq
  go_wp2_with fail
  generalize wq.drewN nq = wq2 at *
  refine wp_loop_rounds 2 ?_
  rw [rounds_succ]
  go_wp2_with fail
  go_quiet (fail)
  have hbq3 := below_drewN hbq2 nq
  go_wp2_with fail
  generalize wq2.drewN nq = wq3 at *
  rw [rounds_succ]
  go_wp2
  rw [Exit.noGoto_ret]
  go_wp2
  rw [Exit.noGoto_ret]
  go_wp2
  go_ret
  exact ⟨rfl, hbq3⟩
end Go.Proofs.YtjpmomklkkifjaaGreatDoor
namespace Go.Proofs.YtjpmomklkkifjaaGreatDoor
open Go.RowKit
set_option maxRecDepth 100000

/-- Where an element stands among the others; below 0: it is none. -/
def idxE (r : Int) : Int := if r = 963 then 41 else if r < 128 then Lib.indexByte orderB.data.toList r.toNat.toUInt8 else -1
/-- The weight of an element; 0: it is none. -/
def weightE (r : Int) : Int := if idxE r < 0 then 0 else 2 + idxE r
/-- The weight of a mark; 0: it is none. -/
def weightM (r : Int) : Int := if r = 807 then 2 else if r = 768 then 3 else if r = 769 then 4 else if r = 776 then 5 else 0

/-- A sign that stands in a folded text. -/
def Elem (r : Int) : Prop := (0 ≤ r ∧ r < 128) ∨ r = 963 ∨ Mark r

theorem mark_four {r : Int} (h : Mark r) : r = 768 ∨ r = 769 ∨ r = 776 ∨ r = 807 := by
  unfold Mark classZ at h
  by_cases h1 : r = 768 ∨ r = 769 ∨ r = 776
  · omega
  · rw [if_neg h1] at h
    by_cases h2 : r = 807
    · omega
    · rw [if_neg h2] at h
      omega

theorem indexRune_calls (r : Int) (h : Elem r) (w : World) :
    Calls Tryz.prog 144 #[.string orderB, .int .i32 r] w fun e w' => e = .returned (.int .i64 (idxE r)) ∧ Below w.heap.size w w' := by
  rcases h with ⟨h0, h1⟩ | rfl | hm
  · have e : idxE r = Lib.indexByte orderB.data.toList r.toNat.toUInt8 := by
      unfold idxE
      rw [if_neg (by omega), if_pos h1]
    rw [e]
    exact (Tryz.strings_IndexRune_ascii orderB r w h0 h1).mono fun e w' ⟨he, hw⟩ => ⟨he, by rw [hw]; exact Below.refl _ _⟩
  · exact index_963 w
  · rcases mark_four hm with rfl | rfl | rfl | rfl
    · exact index_768 w
    · exact index_769 w
    · exact index_776 w
    · exact index_807 w

theorem indexByte_lt (c : UInt8) : ∀ l : List UInt8, Lib.indexByte l c < l.length
  | [] => by simp [Lib.indexByte]
  | b :: l => by
    have h1 := indexByte_lt c l
    have h2 := Lib.indexByte_ge l c
    unfold Lib.indexByte
    simp only [List.length_cons]
    repeat' split
    all_goals omega
theorem idxE_range (r : Int) : -1 ≤ idxE r ∧ idxE r ≤ 42 := by
  unfold idxE
  split
  · omega
  · split
    · have h1 := indexByte_lt r.toNat.toUInt8 orderB.data.toList
      have h2 := Lib.indexByte_ge orderB.data.toList r.toNat.toUInt8
      have h3 : orderB.data.toList.length = 43 := rfl
      omega
    · omega

set_option maxRecDepth 100000 in
theorem elementWeight_calls (r : Int) (h : Elem r) (w : World) :
    Calls Tryz.prog 99 #[.int .i32 r] w fun e w' => e = .returned (.int .u8 (weightE r)) ∧ Below w.heap.size w w' := by
  have hI := indexRune_calls r h w
  have hr := idxE_range r
  unfold weightE
  generalize idxE r = i at *
  by_cases hi : i < 0
  · rw [if_pos hi]
    go_enter Tryz.func99, Tryz.ntmps99
    go_wp2_with fail
    refine hI.mono ?_
    rintro e w1 ⟨rfl, hb1⟩
    go_wp2
    go_ret
    exact ⟨rfl, hb1⟩
  · rw [if_neg hi]
    have hi0 : 0 ≤ i := by omega
    have hi1 : i ≤ 42 := hr.2
    go_enter Tryz.func99, Tryz.ntmps99
    go_wp2_with fail
    refine hI.mono ?_
    rintro e w1 ⟨rfl, hb1⟩
    go_wp2
    go_ret
    exact ⟨rfl, hb1⟩

theorem markWeight_calls (r : Int) (w : World) : Calls Tryz.prog 100 #[.int .i32 r] w fun e w' => e = .returned (.int .u8 (weightM r)) ∧ w' = w := by
  go_enter Tryz.func100, Tryz.ntmps100
  go_wp2
  all_goals go_ret
  all_goals (refine ⟨?_, rfl⟩; simp_all [weightM])
end Go.Proofs.YtjpmomklkkifjaaGreatDoor
