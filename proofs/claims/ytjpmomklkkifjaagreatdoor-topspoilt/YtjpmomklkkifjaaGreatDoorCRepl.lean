import Derived.Test.YtjpmomklkkifjaaGreatDoorCValid
import Derived.Outline
import Derived.WalkMore
import Derived.BigQuiet
import Derived.Test.YtjpmomklkkifjaaGreatDoorCWrite
import Derived.Lib.Replace
import Derived.Lib.CountLaws
set_option maxRecDepth 100000
set_option linter.unusedVariables false
set_option linter.unusedSimpArgs false
namespace Go.Proofs.YtjpmomklkkifjaaGreatDoor
open Go.RowKit
def onlyFrom (s : ByteArray) : Nat → Nat → Bool
  | 0, _ => true
  | f + 1, pos => if pos < s.size then isZ (Utf8.decode s pos).1 && onlyFrom s f (pos + (Utf8.decode s pos).2) else true
def onlyB (s : ByteArray) : Bool := onlyFrom s s.size 0
theorem onlyFrom_end (s : ByteArray) (f pos : Nat) (h : ¬ pos < s.size) : onlyFrom s f pos = true := by
  cases f <;> simp [onlyFrom, h]
theorem is_small {r : Int} (h : isZ r = true) : SmallR r := by
  unfold isZ at h
  simp only [Bool.or_eq_true, bne_iff_ne] at h
  rcases h with (h | h) | h
  · obtain ⟨hm, hx⟩ := whole_mem r h
    have : ∀ x ∈ tab, 0 ≤ x.1 ∧ x.1 < 2048 := by decide +kernel
    have := this _ hm
    rw [hx] at this
    exact this
  · have := of_decide_eq_true h
    exact ⟨by omega, by omega⟩
  · exact mark_small (mark_of_class h)
theorem only_enc (s : ByteArray) : ∀ (f pos : Nat), s.size ≤ pos + f → pos ≤ s.size → onlyFrom s f pos = true → ∃ rs, s.data.toList.drop pos = encL rs ∧ ∀ r ∈ rs, isZ r = true
  | 0, pos, h, h2, _ => ⟨[], by
      have hl : s.data.toList.length = s.size := Array.length_toList
      rw [List.drop_eq_nil_of_le (by omega)]
      rfl, by simp⟩
  | f + 1, pos, h, h2, ho => by
    have hl : s.data.toList.length = s.size := Array.length_toList
    by_cases hp : pos < s.size
    · simp only [onlyFrom, if_pos hp, Bool.and_eq_true] at ho
      have hd := Lib.decodeL_drop s pos
      have hne : s.data.toList.drop pos ≠ [] := by
        intro e
        have := congrArg List.length e
        rw [List.length_drop, List.length_nil] at this
        omega
      have hw := Lib.decodeL_le _ hne
      have hw1 := Lib.decodeL_width (s.data.toList.drop pos)
      rw [hd, List.length_drop] at hw
      rw [hd] at hw1
      obtain ⟨rs, h3, h4⟩ := only_enc s f (pos + (Utf8.decode s pos).2) (by omega) (by omega) ho.2
      refine ⟨((Utf8.decode s pos).1 : Int) :: rs, ?_, ?_⟩
      · have he := Lib.encode_decode (s.data.toList.drop pos) hne (by
          rintro ⟨h5, _⟩
          have := is_small ho.1
          rw [hd] at h5
          rw [h5] at this
          have := this.2
          omega)
        rw [hd] at he
        rw [encL_cons, he, ← h3, ← List.drop_drop, List.take_append_drop]
      · intro r hr
        rcases List.mem_cons.1 hr with rfl | hr
        · exact ho.1
        · exact h4 r hr
    · exact ⟨[], by rw [List.drop_eq_nil_of_le (by omega)]; rfl, by simp⟩
theorem only_enc0 (s : ByteArray) (h : onlyB s = true) : ∃ rs, s = encS rs ∧ ∀ r ∈ rs, isZ r = true := by
  obtain ⟨rs, h1, h2⟩ := only_enc s s.size 0 (by omega) (by omega) h
  refine ⟨rs, ?_, h2⟩
  rw [List.drop_zero] at h1
  unfold encS
  rw [← h1]
set_option maxRecDepth 100000 in
theorem onlySigns_calls (s : ByteArray) (w : World) (hT : HasTab w) :
    Calls Tryz.prog 48 #[.string s] w fun e w' => e = .returned (.bool (onlyB s)) ∧ Below w.heap.size w w' := by
  have hsz3 := hT.size
  go_enter Tryz.func48, Tryz.ntmps48
  go_wp2_with fail
  go_loopg [] (s.size + 1) (fun k wr => ∃ (pos fuel : Nat), k = fuel + 1 ∧ wr.heap[w.heap.size]? = some (.stringIter s pos) ∧ Below w.heap.size w wr ∧ s.size ≤ pos + fuel ∧ Hid (onlyFrom s fuel pos = onlyB s))
  case atStart =>
    refine ⟨0, s.size, rfl, ?_, (Below.refl _ w).alloc (Nat.le_refl _) _, by omega, rfl⟩
    have := World.iter_heap w s 0
    simpa using this
  case round =>
    obtain ⟨pos, fuel, hk, hit, hbw, hfu, HO⟩ := hrel
    have hsz : w.heap.size < wr.heap.size := (Array.getElem?_eq_some_iff.1 hit).1
    by_cases hp : pos < s.size
    · obtain ⟨f, rfl⟩ : ∃ f, fuel = f + 1 := ⟨fuel - 1, by omega⟩
      have hnx : ∀ ty, (Instr.next (.pointer (some ⟨w.heap.size, 0, none⟩)) true ty).run Tryz.prog wr = _ := fun ty => Lib.run_next_any_at wr w.heap.size s pos ty hit hp
      have hwd : 1 ≤ (Utf8.decode s pos).2 := by
        have := Lib.decodeL_width (s.data.toList.drop pos)
        rw [Lib.decodeL_drop] at this
        exact this
      have hit2 := Lib.iterAt_heap wr w.heap.size s pos (pos + (Utf8.decode s pos).2) hit
      have hbw2 := Lib.below_iterAt hbw (k := w.heap.size) (Nat.le_refl _) s (pos + (Utf8.decode s pos).2)
      have hsz2 : (wr.iterAt w.heap.size s (pos + (Utf8.decode s pos).2)).heap.size = wr.heap.size := Lib.iterAt_size _ _ _ _
      have hI := is_calls ((Utf8.decode s pos).1 : Int) (wr.iterAt w.heap.size s (pos + (Utf8.decode s pos).2)) (hT.later hbw2 hsz3)
      have Hst : Hid (onlyFrom s (f + 1) pos = (isZ (Utf8.decode s pos).1 && onlyFrom s f (pos + (Utf8.decode s pos).2))) := by
        show _ = _
        simp only [onlyFrom, if_pos hp]
      cases hz : isZ ((Utf8.decode s pos).1 : Int) with
      | true =>
        rw [hz] at hI Hst
        have Hz := hide hz
        clear hz
        go_wp2_with fail
        refine hI.mono ?_
        rintro e w1 ⟨rfl, hb1⟩
        go_wp2
        go_roundg (f + 1)
        case measure => omega
        case rel =>
          refine ⟨pos + (Utf8.decode s pos).2, f, rfl, ?_, hbw2.trans (hb1.mono (by omega)), by omega, ?_⟩
          · rw [hb1.block _ (by omega)]
            exact hit2
          · rw [← unhide HO, unhide Hst]
            rfl
      | false =>
        rw [hz] at hI Hst
        have Hz := hide hz
        clear hz
        go_wp2_with fail
        refine hI.mono ?_
        rintro e w1 ⟨rfl, hb1⟩
        go_wp2
        go_ret
        refine ⟨?_, hbw2.trans (hb1.mono (by omega))⟩
        rw [← unhide HO, unhide Hst]
        rfl
    · have hnx : ∀ ty, (Instr.next (.pointer (some ⟨w.heap.size, 0, none⟩)) true ty).run Tryz.prog wr = _ := fun ty => Lib.run_next_end_at wr w.heap.size s pos ty hit hp
      go_wp2
      go_ret
      refine ⟨?_, hbw⟩
      rw [← unhide HO, onlyFrom_end s fuel pos hp]
      rfl
theorem runeCount_from (rs : List Int) (hs : ∀ r ∈ rs, SmallR r) : ∀ (rest done : List Int) (f : Nat), rs = done ++ rest → rest.length ≤ f → Lib.runeCountFrom (encS rs) f (encL done).length = rest.length
  | [], done, f, h, _ => by
    rw [Lib.runeCountFrom_end _ _ _ (by rw [encS_size, h, List.append_nil]; omega)]
    rfl
  | r :: rest, done, 0, h, hf => by simp at hf
  | r :: rest, done, f + 1, h, hf => by
    have hr := hs r (by rw [h]; simp)
    have hp : (encL done).length < (encS rs).size := by
      rw [encS_size, h, encL_append, encL_cons, List.length_append, List.length_append]
      have := enc_pos hr
      omega
    have hd : Utf8.decode (encS rs) (encL done).length = (r.toNat, (Lib.encodeRune r).length) := by
      rw [h]
      exact decode_at done r rest hr
    simp only [Lib.runeCountFrom, if_pos hp, hd]
    have e : (encL done).length + (Lib.encodeRune r).length = (encL (done ++ [r])).length := by rw [encL_append, encL_one, List.length_append]
    rw [e, runeCount_from rs hs rest (done ++ [r]) f (by rw [h]; simp) (by simpa using hf), List.length_cons]
    omega
theorem runeCount_enc (rs : List Int) (hs : ∀ r ∈ rs, SmallR r) : Lib.runeCount (encS rs) = rs.length := by
  unfold Lib.runeCount
  exact runeCount_from rs hs rs [] _ rfl (by rw [encS_size]; exact (encL_len rs hs).1)
theorem dots_calls (s : ByteArray) (w : World) : Calls Tryz.prog 50 #[.string s] w fun e w' => e = .returned (.bool (s.toList == [46] || s.toList == [46, 46])) ∧ w' = w := by
  cases h1 : s.toList == [46]
  · go_enter Tryz.func50, Tryz.ntmps50
    go_wp2
    all_goals go_ret
    all_goals (refine ⟨?_, rfl⟩; simp_all)
  · go_enter Tryz.func50, Tryz.ntmps50
    go_wp2
    all_goals go_ret
    all_goals (refine ⟨?_, rfl⟩; simp_all)
theorem begins_calls (r : Int) (rs : List Int) (w : World) (hU : Lib.Utf8Tabs 0 1 w) (hr : SmallR r) :
    Calls Tryz.prog 49 #[.string (encS (r :: rs))] w fun e w' => e = .returned (.bool (classZ r != 0)) ∧ Below w.heap.size w w' := by
  have h1 := Tryz.utf8_DecodeRuneInString (encS (r :: rs)) w hU
  have hd : Lib.decodeGo (encS (r :: rs)) = (r.toNat, (Lib.encodeRune r).length) := by
    unfold Lib.decodeGo
    have hp : ¬ (encS (r :: rs)).size = 0 := by
      rw [encS_size, encL_cons, List.length_append]
      have := enc_pos hr
      omega
    rw [if_neg hp]
    exact decode_at [] r rs hr
  rw [hd] at h1
  simp only [Int.toNat_of_nonneg hr.1] at h1
  have hC := fun wx => class_calls r wx
  clear hd
  generalize classZ r = c at *
  generalize (Lib.encodeRune r).length = n at *
  go_enter Tryz.func49, Tryz.ntmps49
  go_wp2_with fail
  refine h1.mono ?_
  rintro e w1 ⟨rfl, hb1⟩
  go_wp2_with fail
  refine (hC w1).mono ?_
  rintro e wx ⟨rfl, hwx⟩
  have hwx := hwx.symm
  subst hwx
  go_wp2
  go_ret
  exact ⟨rfl, hb1⟩
structure Name (rs : List Int) : Prop where
  signs : ∀ r ∈ rs, isZ r = true
  ne : rs ≠ []
  first : ∀ r t, rs = r :: t → classZ r = 0
  bytes : (encL rs).length ≤ 24
  few : (splitL rs).length ≤ 12
theorem Name.small {rs : List Int} (h : Name rs) : ∀ r ∈ rs, SmallR r := fun r hr => is_small (h.signs r hr)
theorem marks_split {r : Int} (h : SmallR r) : 2 * marks (splitZ r) ≤ (Lib.encodeRune r).length := by
  have hl := enc_len h
  have two : 128 ≤ r → (Lib.encodeRune r).length = 2 := fun h1 => by rw [enc_two h1 h.2]; rfl
  unfold splitZ
  cases hB : wholeB r with
  | false =>
    by_cases hc : classZ r = 0
    · simp [marks, hc]
    · have := mark_range (mark_of_class hc)
      rw [two (by omega)]
      simp [marks, hc]
  | true =>
    obtain ⟨hm, hx⟩ := whole_mem r hB
    have h1 := base_class _ (tab_facts _ hm).2.2.1
    have h3 : ∀ x ∈ tab, 192 ≤ x.1 := by decide +kernel
    have h2 := h3 _ hm
    rw [two (by omega)]
    simp only [marks, if_true, List.filter_cons, h1]
    simp
    split <;> simp
theorem marks_parts : ∀ rs : List Int, (∀ r ∈ rs, SmallR r) → 2 * marks (partsL rs) ≤ (encL rs).length
  | [], _ => by simp [marks, partsL]
  | r :: rs, h => by
    have h1 := marks_split (h r (by simp))
    have h2 := marks_parts rs (fun x hx => h x (by simp [hx]))
    have e : partsL (r :: rs) = splitZ r ++ partsL rs := rfl
    rw [e, marks_append, encL_cons, List.length_append]
    omega
theorem Name.marks {rs : List Int} (h : Name rs) : marks (partsL rs) < 20 := by
  have := marks_parts rs h.small
  have := h.bytes
  omega
theorem Name.short {rs : List Int} (h : Name rs) : rs.length ≤ 24 := by
  have := (encL_len rs h.small).1
  have := h.bytes
  omega
def Checked (s : ByteArray) (e : Ending) : Prop := (e = .returned .nilIface ∧ ∃ rs, s = encS rs ∧ Name rs) ∨ ∃ k, e = .returned (.iface 86 (.int .i64 k))
end Go.Proofs.YtjpmomklkkifjaaGreatDoor
namespace Go.Proofs.YtjpmomklkkifjaaGreatDoor
open Go.RowKit
def orderB : ByteArray := ⟨#[32, 45, 46, 95, 48, 49, 50, 51, 52, 53, 54, 55, 56, 57, 97, 98, 99, 67, 100, 101, 102, 103, 104, 105, 106, 107, 108, 109, 110, 111, 112, 113, 114, 115, 116, 117, 118, 119, 120, 121, 122, 207, 131]⟩
theorem orderB_size : orderB.size = 43 := rfl
def orderTail : ByteArray := ⟨#[46, 95, 48, 49, 50, 51, 52, 53, 54, 55, 56, 57, 97, 98, 99, 67, 100, 101, 102, 103, 104, 105, 106, 107, 108, 109, 110, 111, 112, 113, 114, 115, 116, 117, 118, 119, 120, 121, 122, 207, 131]⟩
def markB768 : ByteArray := ⟨#[204, 128]⟩
set_option maxRecDepth 100000 in
theorem index_768 (w : World) :
    Calls Tryz.prog 144 #[.string orderB, .int .i32 768] w fun e w' => e = .returned (.int .i64 (-1)) ∧ Below w.heap.size w w' := by
  have hV : ∀ wx, Calls Tryz.prog 185 #[.int .i32 768] wx fun e w' => e = .returned (.bool true) ∧ w' = wx := fun wx => Tryz.utf8_ValidRune 768 wx
  have hix : ∀ wx, (Instr.index 9 (.string orderB) (.int .i64 1)).run Tryz.prog wx = .ok (.int .u8 45) wx := fun wx => by kernel_rfl
  have hsl : ∀ wx, (Instr.slice 9 (.string orderB) (some (.int .i64 2)) none none).run Tryz.prog wx = .ok (.string orderTail) wx := fun wx => by kernel_rfl
  have hsz := orderB_size
  have henc : Utf8.encode 768 = markB768 := by decide +kernel
  have hmsz : markB768.size = 2 := rfl
  have hix2 : ∀ wx, (Instr.index 9 (.string markB768) (.int .i64 1)).run Tryz.prog wx = .ok (.int .u8 128) wx := fun wx => by kernel_rfl
  have hIB : ∀ wx, Calls Tryz.prog 184 #[.string orderTail, .int .u8 128] wx fun e w' => e = .returned (.int .i64 (-1)) ∧ w' = wx := fun wx => Tryz.strings_IndexByte orderTail 128 wx
  go_enter Tryz.func144, Tryz.ntmps144
  go_wp2_with fail
  refine (hV w).mono ?_
  rintro e wx ⟨rfl, hwx⟩
  have hwx := hwx.symm
  subst hwx
  go_wp2_with fail
  go_step3
  go_wp2_with fail
  refine wp_loop_rounds 1 ?_
  rw [rounds_succ]
  go_wp2_with fail
  go_step3
  go_wp2_with fail
  go_quiet (fail)
  have hbq := below_drewN (Below.refl w.heap.size w) nq
  go_wp2_with fail
  generalize w.drewN nq = wq at *
  go_quiet ((go_at_call 184; refine Calls.quiet_of_same (hIB _)))
  go_wp2
  rw [Exit.noGoto_ret]
  go_wp2
  rw [Exit.noGoto_ret]
  go_wp2
  go_ret
  exact ⟨rfl, below_drewN hbq nq⟩
def markB769 : ByteArray := ⟨#[204, 129]⟩
set_option maxRecDepth 100000 in
theorem index_769 (w : World) :
    Calls Tryz.prog 144 #[.string orderB, .int .i32 769] w fun e w' => e = .returned (.int .i64 (-1)) ∧ Below w.heap.size w w' := by
  have hV : ∀ wx, Calls Tryz.prog 185 #[.int .i32 769] wx fun e w' => e = .returned (.bool true) ∧ w' = wx := fun wx => Tryz.utf8_ValidRune 769 wx
  have hix : ∀ wx, (Instr.index 9 (.string orderB) (.int .i64 1)).run Tryz.prog wx = .ok (.int .u8 45) wx := fun wx => by kernel_rfl
  have hsl : ∀ wx, (Instr.slice 9 (.string orderB) (some (.int .i64 2)) none none).run Tryz.prog wx = .ok (.string orderTail) wx := fun wx => by kernel_rfl
  have hsz := orderB_size
  have henc : Utf8.encode 769 = markB769 := by decide +kernel
  have hmsz : markB769.size = 2 := rfl
  have hix2 : ∀ wx, (Instr.index 9 (.string markB769) (.int .i64 1)).run Tryz.prog wx = .ok (.int .u8 129) wx := fun wx => by kernel_rfl
  have hIB : ∀ wx, Calls Tryz.prog 184 #[.string orderTail, .int .u8 129] wx fun e w' => e = .returned (.int .i64 (-1)) ∧ w' = wx := fun wx => Tryz.strings_IndexByte orderTail 129 wx
  go_enter Tryz.func144, Tryz.ntmps144
  go_wp2_with fail
  refine (hV w).mono ?_
  rintro e wx ⟨rfl, hwx⟩
  have hwx := hwx.symm
  subst hwx
  go_wp2_with fail
  go_step3
  go_wp2_with fail
  refine wp_loop_rounds 1 ?_
  rw [rounds_succ]
  go_wp2_with fail
  go_step3
  go_wp2_with fail
  go_quiet (fail)
  have hbq := below_drewN (Below.refl w.heap.size w) nq
  go_wp2_with fail
  generalize w.drewN nq = wq at *
  go_quiet ((go_at_call 184; refine Calls.quiet_of_same (hIB _)))
  go_wp2
  rw [Exit.noGoto_ret]
  go_wp2
  rw [Exit.noGoto_ret]
  go_wp2
  go_ret
  exact ⟨rfl, below_drewN hbq nq⟩
def markB776 : ByteArray := ⟨#[204, 136]⟩
set_option maxRecDepth 100000 in
theorem index_776 (w : World) :
    Calls Tryz.prog 144 #[.string orderB, .int .i32 776] w fun e w' => e = .returned (.int .i64 (-1)) ∧ Below w.heap.size w w' := by
  have hV : ∀ wx, Calls Tryz.prog 185 #[.int .i32 776] wx fun e w' => e = .returned (.bool true) ∧ w' = wx := fun wx => Tryz.utf8_ValidRune 776 wx
  have hix : ∀ wx, (Instr.index 9 (.string orderB) (.int .i64 1)).run Tryz.prog wx = .ok (.int .u8 45) wx := fun wx => by kernel_rfl
  have hsl : ∀ wx, (Instr.slice 9 (.string orderB) (some (.int .i64 2)) none none).run Tryz.prog wx = .ok (.string orderTail) wx := fun wx => by kernel_rfl
  have hsz := orderB_size
  have henc : Utf8.encode 776 = markB776 := by decide +kernel
  have hmsz : markB776.size = 2 := rfl
  have hix2 : ∀ wx, (Instr.index 9 (.string markB776) (.int .i64 1)).run Tryz.prog wx = .ok (.int .u8 136) wx := fun wx => by kernel_rfl
  have hIB : ∀ wx, Calls Tryz.prog 184 #[.string orderTail, .int .u8 136] wx fun e w' => e = .returned (.int .i64 (-1)) ∧ w' = wx := fun wx => Tryz.strings_IndexByte orderTail 136 wx
  go_enter Tryz.func144, Tryz.ntmps144
  go_wp2_with fail
  refine (hV w).mono ?_
  rintro e wx ⟨rfl, hwx⟩
  have hwx := hwx.symm
  subst hwx
  go_wp2_with fail
  go_step3
  go_wp2_with fail
  refine wp_loop_rounds 1 ?_
  rw [rounds_succ]
  go_wp2_with fail
  go_step3
  go_wp2_with fail
  go_quiet (fail)
  have hbq := below_drewN (Below.refl w.heap.size w) nq
  go_wp2_with fail
  generalize w.drewN nq = wq at *
  go_quiet ((go_at_call 184; refine Calls.quiet_of_same (hIB _)))
  go_wp2
  rw [Exit.noGoto_ret]
  go_wp2
  rw [Exit.noGoto_ret]
  go_wp2
  go_ret
  exact ⟨rfl, below_drewN hbq nq⟩
def markB807 : ByteArray := ⟨#[204, 167]⟩
set_option maxRecDepth 100000 in
theorem index_807 (w : World) :
    Calls Tryz.prog 144 #[.string orderB, .int .i32 807] w fun e w' => e = .returned (.int .i64 (-1)) ∧ Below w.heap.size w w' := by
  have hV : ∀ wx, Calls Tryz.prog 185 #[.int .i32 807] wx fun e w' => e = .returned (.bool true) ∧ w' = wx := fun wx => Tryz.utf8_ValidRune 807 wx
  have hix : ∀ wx, (Instr.index 9 (.string orderB) (.int .i64 1)).run Tryz.prog wx = .ok (.int .u8 45) wx := fun wx => by kernel_rfl
  have hsl : ∀ wx, (Instr.slice 9 (.string orderB) (some (.int .i64 2)) none none).run Tryz.prog wx = .ok (.string orderTail) wx := fun wx => by kernel_rfl
  have hsz := orderB_size
  have henc : Utf8.encode 807 = markB807 := by decide +kernel
  have hmsz : markB807.size = 2 := rfl
  have hix2 : ∀ wx, (Instr.index 9 (.string markB807) (.int .i64 1)).run Tryz.prog wx = .ok (.int .u8 167) wx := fun wx => by kernel_rfl
  have hIB : ∀ wx, Calls Tryz.prog 184 #[.string orderTail, .int .u8 167] wx fun e w' => e = .returned (.int .i64 (-1)) ∧ w' = wx := fun wx => Tryz.strings_IndexByte orderTail 167 wx
  go_enter Tryz.func144, Tryz.ntmps144
  go_wp2_with fail
  refine (hV w).mono ?_
  rintro e wx ⟨rfl, hwx⟩
  have hwx := hwx.symm
  subst hwx
  go_wp2_with fail
  go_step3
  go_wp2_with fail
  refine wp_loop_rounds 1 ?_
  rw [rounds_succ]
  go_wp2_with fail
  go_step3
  go_wp2_with fail
  go_quiet (fail)
  have hbq := below_drewN (Below.refl w.heap.size w) nq
  go_wp2_with fail
  generalize w.drewN nq = wq at *
  go_quiet ((go_at_call 184; refine Calls.quiet_of_same (hIB _)))
  go_wp2
  rw [Exit.noGoto_ret]
  go_wp2
  rw [Exit.noGoto_ret]
  go_wp2
  go_ret
  exact ⟨rfl, below_drewN hbq nq⟩
def sigmaB : ByteArray := ⟨#[207, 131]⟩
set_option maxRecDepth 100000 in
theorem index_963 (w : World) :
    Calls Tryz.prog 144 #[.string orderB, .int .i32 963] w fun e w' => e = .returned (.int .i64 41) ∧ Below w.heap.size w w' := by
  have hV : ∀ wx, Calls Tryz.prog 185 #[.int .i32 963] wx fun e w' => e = .returned (.bool true) ∧ w' = wx := fun wx => Tryz.utf8_ValidRune 963 wx
  have hix : ∀ wx, (Instr.index 9 (.string orderB) (.int .i64 1)).run Tryz.prog wx = .ok (.int .u8 45) wx := fun wx => by kernel_rfl
  have hix3 : ∀ wx, (Instr.index 9 (.string orderB) (.int .i64 41)).run Tryz.prog wx = .ok (.int .u8 207) wx := fun wx => by kernel_rfl
  have hsl : ∀ wx, (Instr.slice 9 (.string orderB) (some (.int .i64 2)) none none).run Tryz.prog wx = .ok (.string orderTail) wx := fun wx => by kernel_rfl
  have hsz := orderB_size
  have henc : Utf8.encode 963 = sigmaB := by decide +kernel
  have hmsz : sigmaB.size = 2 := rfl
  have hix2 : ∀ wx, (Instr.index 9 (.string sigmaB) (.int .i64 1)).run Tryz.prog wx = .ok (.int .u8 131) wx := fun wx => by kernel_rfl
  have hix0 : ∀ wx, (Instr.index 9 (.string sigmaB) (.int .i64 0)).run Tryz.prog wx = .ok (.int .u8 207) wx := fun wx => by kernel_rfl
  have hIB : ∀ wx, Calls Tryz.prog 184 #[.string orderTail, .int .u8 131] wx fun e w' => e = .returned (.int .i64 40) ∧ w' = wx := fun wx => Tryz.strings_IndexByte orderTail 131 wx
  go_enter Tryz.func144, Tryz.ntmps144
  go_wp2_with fail
  refine (hV w).mono ?_
  rintro e wx ⟨rfl, hwx⟩
  have hwx := hwx.symm
  subst hwx
  go_wp2_with fail
  go_step3
  go_wp2_with fail
  refine wp_loop_rounds 1 ?_
  rw [rounds_succ]
  go_wp2_with fail
  go_step3
  go_wp2_with fail
  go_quiet (fail)
  have hbq := below_drewN (Below.refl w.heap.size w) nq
  go_wp2_with fail
  generalize w.drewN nq = wq at *
  go_quiet ((go_at_call 184; refine Calls.quiet_of_same (hIB _)))
  have hbq2 := below_drewN hbq nq
  go_wp2_with fail
  generalize wq.drewN nq = wq2 at *
  refine wp_loop_rounds 2 ?_
  rw [rounds_succ]
  go_wp2_with fail
  go_quiet (fail)
  have hbq3 := below_drewN hbq2 nq
  go_wp2_with fail
  generalize wq2.drewN nq = wq3 at *
  rw [rounds_succ]
  go_wp2
  rw [Exit.noGoto_ret]
  go_wp2
  rw [Exit.noGoto_ret]
  go_wp2
  go_ret
  exact ⟨rfl, hbq3⟩
end Go.Proofs.YtjpmomklkkifjaaGreatDoor
namespace Go.Proofs.YtjpmomklkkifjaaGreatDoor
open Go.RowKit
def idxE (r : Int) : Int := if r = 963 then 41 else if r < 128 then Lib.indexByte orderB.data.toList r.toNat.toUInt8 else -1
def weightE (r : Int) : Int := if idxE r < 0 then 0 else 2 + idxE r
def weightM (r : Int) : Int := if r = 807 then 2 else if r = 768 then 3 else if r = 769 then 4 else if r = 776 then 5 else 0
def Elem (r : Int) : Prop := (0 ≤ r ∧ r < 128) ∨ r = 963 ∨ Mark r
theorem mark_four {r : Int} (h : Mark r) : r = 768 ∨ r = 769 ∨ r = 776 ∨ r = 807 := by
  unfold Mark classZ at h
  by_cases h1 : r = 768 ∨ r = 769 ∨ r = 776
  · omega
  · rw [if_neg h1] at h
    by_cases h2 : r = 807
    · omega
    · rw [if_neg h2] at h
      omega
theorem indexRune_calls (r : Int) (h : Elem r) (w : World) :
    Calls Tryz.prog 144 #[.string orderB, .int .i32 r] w fun e w' => e = .returned (.int .i64 (idxE r)) ∧ Below w.heap.size w w' := by
  rcases h with ⟨h0, h1⟩ | rfl | hm
  · have e : idxE r = Lib.indexByte orderB.data.toList r.toNat.toUInt8 := by
      unfold idxE
      rw [if_neg (by omega), if_pos h1]
    rw [e]
    exact (Tryz.strings_IndexRune_ascii orderB r w h0 h1).mono fun e w' ⟨he, hw⟩ => ⟨he, by rw [hw]; exact Below.refl _ _⟩
  · exact index_963 w
  · rcases mark_four hm with rfl | rfl | rfl | rfl
    · exact index_768 w
    · exact index_769 w
    · exact index_776 w
    · exact index_807 w
theorem indexByte_lt (c : UInt8) : ∀ l : List UInt8, Lib.indexByte l c < l.length
  | [] => by simp [Lib.indexByte]
  | b :: l => by
    have h1 := indexByte_lt c l
    have h2 := Lib.indexByte_ge l c
    unfold Lib.indexByte
    simp only [List.length_cons]
    repeat' split
    all_goals omega
theorem idxE_range (r : Int) : -1 ≤ idxE r ∧ idxE r ≤ 42 := by
  unfold idxE
  split
  · omega
  · split
    · have h1 := indexByte_lt r.toNat.toUInt8 orderB.data.toList
      have h2 := Lib.indexByte_ge orderB.data.toList r.toNat.toUInt8
      have h3 : orderB.data.toList.length = 43 := rfl
      omega
    · omega
set_option maxRecDepth 100000 in
theorem elementWeight_calls (r : Int) (h : Elem r) (w : World) :
    Calls Tryz.prog 99 #[.int .i32 r] w fun e w' => e = .returned (.int .u8 (weightE r)) ∧ Below w.heap.size w w' := by
  have hI := indexRune_calls r h w
  have hr := idxE_range r
  unfold weightE
  generalize idxE r = i at *
  by_cases hi : i < 0
  · rw [if_pos hi]
    go_enter Tryz.func99, Tryz.ntmps99
    go_wp2_with fail
    refine hI.mono ?_
    rintro e w1 ⟨rfl, hb1⟩
    go_wp2
    go_ret
    exact ⟨rfl, hb1⟩
  · rw [if_neg hi]
    have hi0 : 0 ≤ i := by omega
    have hi1 : i ≤ 42 := hr.2
    go_enter Tryz.func99, Tryz.ntmps99
    go_wp2_with fail
    refine hI.mono ?_
    rintro e w1 ⟨rfl, hb1⟩
    go_wp2
    go_ret
    exact ⟨rfl, hb1⟩
theorem markWeight_calls (r : Int) (w : World) : Calls Tryz.prog 100 #[.int .i32 r] w fun e w' => e = .returned (.int .u8 (weightM r)) ∧ w' = w := by
  go_enter Tryz.func100, Tryz.ntmps100
  go_wp2
  all_goals go_ret
  all_goals (refine ⟨?_, rfl⟩; simp_all [weightM])
end Go.Proofs.YtjpmomklkkifjaaGreatDoor
namespace Go.Proofs.YtjpmomklkkifjaaGreatDoor
open Go.Lib
def repl : List Int → List Int
  | [] => []
  | [r] => [r]
  | r :: q :: t => if r = 99 ∧ q = 104 then 67 :: repl t else r :: repl (q :: t)
  termination_by l => l.length
def chL : List UInt8 := [99, 104]
def replB (s : List UInt8) : List UInt8 := replaceK chL [67] (count s chL) s
theorem replB_all (s : List UInt8) : replaceAll s [99, 104] [67] = replB s := by
  unfold replaceAll replace replaceNum replB chL
  rw [if_neg (by decide), if_pos (.inl (by decide))]
theorem replB_hit (t : List UInt8) : replB (99 :: 104 :: t) = 67 :: replB t := by
  have h : index (99 :: 104 :: t) chL = ((0 : Nat) : Int) := by
    unfold index chL
    rw [if_pos (by simp)]
    rfl
  unfold replB
  rw [count_hit (by decide) h]
  have e : List.drop (0 + chL.length) (99 :: 104 :: t) = t := rfl
  rw [e, Nat.add_comm, replaceK_hit _ _ _ _ 0 h, e]
  rfl
theorem replB_miss (b : UInt8) (t : List UInt8) (hn : chL.isPrefixOf (b :: t) = false) : replB (b :: t) = b :: replB t := by
  have hi : index (b :: t) chL = if index t chL == -1 then -1 else index t chL + 1 := by
    rw [index.eq_2, hn]
    simp
  unfold replB
  by_cases hm : index t chL = -1
  · have h2 : index (b :: t) chL = -1 := by rw [hi, hm]; rfl
    rw [count_miss hm, count_miss h2]
    rfl
  · obtain ⟨i, h1⟩ : ∃ i : Nat, index t chL = i := ⟨(index t chL).toNat, by have := index_ge t chL; omega⟩
    have h2 : index (b :: t) chL = ((i + 1 : Nat) : Int) := by
      rw [hi, if_neg (by simpa using hm), h1]
      simp
    rw [count_hit (by decide) h1, count_hit (by decide) h2]
    have e : List.drop (i + 1 + chL.length) (b :: t) = List.drop (i + chL.length) t := by
      rw [show i + 1 + chL.length = (i + chL.length) + 1 by omega, List.drop_succ_cons]
    rw [e, Nat.add_comm 1, replaceK_hit _ _ _ _ _ h2, replaceK_hit _ _ _ _ _ h1, e]
    rfl
theorem replB_nil : replB [] = [] := by decide
theorem head_miss (b : UInt8) (t : List UInt8) (h : b.toNat ≠ 99 ∨ ∀ c t', t = c :: t' → c.toNat ≠ 104) : chL.isPrefixOf (b :: t) = false := by
  unfold chL
  cases t with
  | nil => simp [List.isPrefixOf]
  | cons c t =>
    simp only [List.isPrefixOf, Bool.and_eq_false_iff, beq_eq_false_iff_ne]
    rcases h with h | h
    · left
      intro e
      apply h
      rw [← e]
      rfl
    · right
      left
      intro e
      apply h c t rfl
      rw [← e]
      rfl
theorem enc_head {r : Int} (h : SmallR r) (hne : r ≠ 104) (t : List Int) : ∀ c t', encL (r :: t) = c :: t' → c.toNat ≠ 104 := by
  intro c t' e
  have h2 := h.2
  have h0 := h.1
  rw [encL_cons] at e
  rcases Int.lt_or_le r 128 with h1 | h1
  · rw [enc_one h.1 h1] at e
    simp only [List.singleton_append, List.cons.injEq] at e
    rw [← e.1, u8 _ (by omega)]
    omega
  · rw [enc_two h1 h.2] at e
    simp only [List.cons_append, List.nil_append, List.cons.injEq] at e
    rw [← e.1, u8 _ (by omega)]
    omega
theorem repl_keep {r : Int} (h : SmallR r) (t : List Int) (hk : r ≠ 99 ∨ ∀ c t', encL t = c :: t' → c.toNat ≠ 104) : replB (encL (r :: t)) = Lib.encodeRune r ++ replB (encL t) := by
  have h2 := h.2
  have h0 := h.1
  rw [encL_cons]
  rcases Int.lt_or_le r 128 with h1 | h1
  · rw [enc_one h.1 h1]
    simp only [List.singleton_append]
    refine replB_miss _ _ (head_miss _ _ ?_)
    rcases hk with hk | hk
    · left
      rw [u8 _ (by omega)]
      omega
    · exact .inr hk
  · rw [enc_two h1 h.2]
    simp only [List.cons_append, List.nil_append]
    rw [replB_miss _ _ (head_miss _ _ (.inl (by rw [u8 _ (by omega)]; omega))), replB_miss _ _ (head_miss _ _ (.inl (by rw [u8 _ (by omega)]; omega)))]
theorem repl_enc : ∀ (n : Nat) (ts : List Int), ts.length ≤ n → (∀ r ∈ ts, SmallR r) → replB (encL ts) = encL (repl ts)
  | _, [], _, _ => by
    rw [encL_nil, replB_nil, repl, encL_nil]
  | 0, _ :: _, hn, _ => by simp at hn
  | n + 1, [r], _, h => by
    rw [repl_keep (h r (by simp)) [] (.inr (fun c t' e => by cases e)), encL_nil, replB_nil, repl, encL_cons, encL_nil]
  | n + 1, r :: q :: t, hn, h => by
    have hr := h r (by simp)
    have hq := h q (by simp)
    rw [repl]
    by_cases hc : r = 99 ∧ q = 104
    · rw [if_pos hc]
      obtain ⟨rfl, rfl⟩ := hc
      have e : encL (99 :: 104 :: t) = 99 :: 104 :: encL t := by
        rw [encL_cons, encL_cons, enc_one (by decide) (by decide), enc_one (by decide) (by decide)]
        rfl
      have e2 : encL (67 :: repl t) = 67 :: encL (repl t) := by
        rw [encL_cons, enc_one (by decide) (by decide)]
        rfl
      rw [e, replB_hit, repl_enc n t (by simp at hn; omega) (fun x hx => h x (by simp [hx])), e2]
    · rw [if_neg hc, repl_keep hr (q :: t) ?_, repl_enc n (q :: t) (by simpa using hn) (fun x hx => h x (by simp at hx ⊢; exact .inr hx)), encL_cons]
      by_cases h99 : r = 99
      · exact .inr (enc_head hq (fun e => hc ⟨h99, e⟩) t)
      · exact .inl h99
theorem repl_small {ts : List Int} (h : ∀ r ∈ ts, SmallR r) : ∀ r ∈ repl ts, SmallR r := by
  induction ts using repl.induct with
  | case1 => simp [repl]
  | case2 r => simpa [repl] using h
  | case3 r q t hc ih =>
    rw [repl, if_pos hc]
    intro x hx
    rcases List.mem_cons.1 hx with rfl | hx
    · exact ⟨by decide, by decide⟩
    · exact ih (fun y hy => h y (by simp [hy])) x hx
  | case4 r q t hc ih =>
    rw [repl, if_neg hc]
    intro x hx
    rcases List.mem_cons.1 hx with rfl | hx
    · exact h x (by simp)
    · exact ih (fun y hy => h y (by simp at hy ⊢; exact .inr hy)) x hx
theorem repl_length (ts : List Int) : (repl ts).length ≤ ts.length := by
  induction ts using repl.induct with
  | case1 => simp [repl]
  | case2 r => simp [repl]
  | case3 r q t hc ih =>
    rw [repl, if_pos hc]
    simp only [List.length_cons]
    omega
  | case4 r q t hc ih =>
    rw [repl, if_neg hc]
    simp only [List.length_cons] at ih ⊢
    omega
end Go.Proofs.YtjpmomklkkifjaaGreatDoor
