/-
  The walk of TopMarks: it answers true, for all texts and signs, and writes nothing that was there.
-/
import Derived.Test.YtdflokjpgbeniaaDoorFoldW
import Derived.Test.YtdflokjpgbeniaaDoorValid
import Derived.Test.YtdflokjpgbeniaaDoorRunes
namespace Go.Proofs.YtdflokjpgbeniaaDoor
open Go.RowKit

theorem sortM_low {l l' : List Int} (h : sortM l = sortM l') : lowM l = lowM l' ∧ highM l = highM l' := by
  constructor
  · rw [← low_sortM (l := l), h, low_sortM]
  · rw [← high_sortM (l := l), h, high_sortM]
/-- States that answer alike. -/
def LikeS (st st' : List Int × List Int) : Prop := st.1 = st'.1 ∧ sortM st.2 = sortM st'.2
theorem LikeS.step {st st' : List Int × List Int} (h : LikeS st st') (p : Int) : LikeS (stepS st p) (stepS st' p) := by
  unfold stepS
  split
  · exact ⟨by rw [h.1, h.2], rfl⟩
  · refine ⟨h.1, ?_⟩
    obtain ⟨h1, h2⟩ := sortM_low h.2
    simp only [sortM_low_high, lowM_append, highM_append, h1, h2]
theorem LikeS.fold : ∀ (ps : List Int) {st st' : List Int × List Int}, LikeS st st' → LikeS (ps.foldl stepS st) (ps.foldl stepS st')
  | [], _, _, h => h
  | p :: ps, _, _, h => LikeS.fold ps (h.step p)
theorem pair_like {m n : Int} (hm : Mark m) (hn : Mark n) (hne : classZ m ≠ classZ n) (st : List Int × List Int) : LikeS (stepS (stepS st m) n) (stepS (stepS st n) m) := by
  have m0 : classZ m ≠ 0 := by rcases hm with h | h <;> omega
  have n0 : classZ n ≠ 0 := by rcases hn with h | h <;> omega
  unfold stepS
  rw [if_neg m0, if_neg n0]
  simp only [if_neg m0, if_neg n0]
  refine ⟨rfl, ?_⟩
  simp only [sortM_low_high, lowM_append, highM_append]
  rcases hm with hm | hm <;> rcases hn with hn | hn
  · omega
  · simp [(lowM_one hm).1, (lowM_one hm).2, (highM_one hn).1, (highM_one hn).2]
  · simp [(highM_one hm).1, (highM_one hm).2, (lowM_one hn).1, (lowM_one hn).2]
  · omega
theorem splitZ_mark {m : Int} (hm : Mark m) : splitZ m = [m] := splitZ_self (.inr (mark_range hm).1)
theorem parts_pair (ra rb : List Int) {m n : Int} (hm : Mark m) (hn : Mark n) : partsL (ra ++ [m, n] ++ rb) = partsL ra ++ [m, n] ++ partsL rb := by
  simp [partsL, splitZ_mark hm, splitZ_mark hn]
theorem split_pair (ra rb : List Int) {m n : Int} (hm : Mark m) (hn : Mark n) (hne : classZ m ≠ classZ n) : splitL (ra ++ [m, n] ++ rb) = splitL (ra ++ [n, m] ++ rb) := by
  rw [splitL_join, splitL_join, parts_pair _ _ hm hn, parts_pair _ _ hn hm]
  have h : LikeS (runS (partsL ra ++ [m, n] ++ partsL rb)) (runS (partsL ra ++ [n, m] ++ partsL rb)) := by
    unfold runS
    rw [List.foldl_append, List.foldl_append, List.foldl_append, List.foldl_append]
    exact LikeS.fold _ (pair_like hm hn hne _)
  unfold joinS
  rw [h.1, h.2]
theorem marks_pair (ra rb : List Int) {m n : Int} (hm : Mark m) (hn : Mark n) : marks (partsL (ra ++ [m, n] ++ rb)) ≤ marks (partsL ra) + marks (partsL rb) + 2 := by
  rw [parts_pair _ _ hm hn, marks_append, marks_append]
  have := marks_le [m, n]
  simp only [List.length_cons, List.length_nil] at this
  omega

theorem alike_c : foldL [99, 807, 769] = foldL [99, 769, 807] := by decide +kernel
theorem enc_c1 : encS [99, 807, 769] = ⟨#[99, 204, 167, 204, 129]⟩ := by decide +kernel
theorem enc_c2 : encS [99, 769, 807] = ⟨#[99, 204, 129, 204, 167]⟩ := by decide +kernel

theorem join_text (a b : ByteArray) (ra rb : List Int) (m n : Int) (hm : SmallR m) (hn : SmallR n) (ha : a.data.toList = encL ra) (hb : b.data.toList = encL rb) : a ++ Utf8.encode m ++ Utf8.encode n ++ b = encS (ra ++ [m, n] ++ rb) := by
  have e : (a ++ Utf8.encode m ++ Utf8.encode n ++ b).data.toList = encL (ra ++ [m, n] ++ rb) := by
    rw [encode_small hm, encode_small hn]
    simp only [ByteArray.data_append, Array.toList_append, ha, hb, encL_append, encL_cons, encL_nil, List.append_nil]
    simp
  rw [← encS_bytes] at e
  have h1 := Array.toList_inj.1 e
  exact ByteArray.ext h1

set_option maxRecDepth 100000 in
set_option maxHeartbeats 1000000 in
theorem topMarks_walk (a b : ByteArray) (m n : Int) (w : World) (hR : Ready w) (hsa : a.size ≤ 9223372036854775807) (hsb : b.size ≤ 9223372036854775807) :
    Calls Tryd.prog 6 #[.string a, .string b, .int .i32 m, .int .i32 n] w fun e w' => e = .returned (.bool true) ∧ Below w.heap.size w w' := by
  have sc : ∀ r ∈ [(99 : Int), 807, 769], SmallR r := fun r hr => by simp at hr; rcases hr with rfl | rfl | rfl <;> exact ⟨by omega, by omega⟩
  have sd : ∀ r ∈ [(99 : Int), 769, 807], SmallR r := fun r hr => by simp at hr; rcases hr with rfl | rfl | rfl <;> exact ⟨by omega, by omega⟩
  have h1 := alike_calls [99, 807, 769] [99, 769, 807] w hR sc (by decide) (by decide +kernel) sd (by decide) (by decide +kernel)
  rw [alike_c, enc_c1, enc_c2] at h1
  simp only [decide_true] at h1
  have hCm := fun wx => class_calls m wx
  have hCn := fun wx => class_calls n wx
  clear sc sd
  by_cases ha : 30 < a.size
  · have haz : (30 : Int) < (a.size : Int) := by omega
    go_enter Tryd.func6, Tryd.ntmps6
    go_wp2_with fail
    refine h1.mono ?_
    rintro e w1 ⟨rfl, hb1⟩
    go_wp2_with fail
    go_ret
    exact ⟨rfl, hb1⟩
  · have haz : ¬ (30 : Int) < (a.size : Int) := by omega
    by_cases hb : 30 < b.size
    · have hbz : (30 : Int) < (b.size : Int) := by omega
      go_enter Tryd.func6, Tryd.ntmps6
      go_wp2_with fail
      refine h1.mono ?_
      rintro e w1 ⟨rfl, hb1⟩
      go_wp2_with fail
      go_ret
      exact ⟨rfl, hb1⟩
    · have hbz : ¬ (30 : Int) < (b.size : Int) := by omega
      by_cases hm0 : classZ m = 0
      · rw [hm0] at hCm
        go_enter Tryd.func6, Tryd.ntmps6
        go_wp2_with fail
        refine h1.mono ?_
        rintro e w1 ⟨rfl, hb1⟩
        go_wp2_with fail
        refine (hCm w1).mono ?_
        rintro e wx ⟨rfl, hwx⟩
        have hwx := hwx.symm
        subst hwx
        go_wp2_with fail
        go_ret
        exact ⟨rfl, hb1⟩
      · have zm0 : (classZ m == 0) = false := by simpa using hm0
        by_cases hn0 : classZ n = 0
        · rw [hn0] at hCn
          have Hm0 := hide hm0
          clear hm0
          generalize classZ m = cm at *
          go_enter Tryd.func6, Tryd.ntmps6
          go_wp2_with fail
          refine h1.mono ?_
          rintro e w1 ⟨rfl, hb1⟩
          go_wp2_with fail
          refine (hCm w1).mono ?_
          rintro e wx ⟨rfl, hwx⟩
          have hwx := hwx.symm
          subst hwx
          go_wp2_with fail
          refine (hCn w1).mono ?_
          rintro e wx ⟨rfl, hwx⟩
          have hwx := hwx.symm
          subst hwx
          go_wp2_with fail
          go_ret
          exact ⟨rfl, hb1⟩
        · have zn0 : (classZ n == 0) = false := by simpa using hn0
          have mm : Mark m := mark_of_class hm0
          have mn : Mark n := mark_of_class hn0
          by_cases hmn : classZ m = classZ n
          · rw [hmn] at hCm zm0
            clear hm0 hn0 hmn mm mn
            generalize classZ n = cn at *
            go_enter Tryd.func6, Tryd.ntmps6
            go_wp2_with fail
            refine h1.mono ?_
            rintro e w1 ⟨rfl, hb1⟩
            go_wp2_with fail
            refine (hCm w1).mono ?_
            rintro e wx ⟨rfl, hwx⟩
            have hwx := hwx.symm
            subst hwx
            go_wp2_with fail
            refine (hCn w1).mono ?_
            rintro e wx ⟨rfl, hwx⟩
            have hwx := hwx.symm
            subst hwx
            go_wp2_with fail
            refine (hCm w1).mono ?_
            rintro e wx ⟨rfl, hwx⟩
            have hwx := hwx.symm
            subst hwx
            go_wp2_with fail
            refine (hCn w1).mono ?_
            rintro e wx ⟨rfl, hwx⟩
            have hwx := hwx.symm
            subst hwx
            go_wp2_with fail
            go_ret
            exact ⟨rfl, hb1⟩
          · have zmn : (classZ m == classZ n) = false := by simpa using hmn
            have hVa := fun wx (hx : Ready wx) => validString_calls a wx hsa hx.u8
            have hVb := fun wx (hx : Ready wx) => validString_calls b wx hsb hx.u8
            have hla : a.data.toList.length = a.size := Array.length_toList
            have hlb : b.data.toList.length = b.size := Array.length_toList
            have sm := mark_small mm
            have sn := mark_small mn
            have Hfin : Hid (Lib.validD a.data.toList = true → Lib.validD b.data.toList = true → ∃ t, (∀ wx, Ready wx → Calls Tryd.prog 19 #[.string (a ++ Utf8.encode m ++ Utf8.encode n ++ b)] wx fun e w' => e = .returned (.string t) ∧ Below wx.heap.size wx w') ∧ (∀ wx, Ready wx → Calls Tryd.prog 19 #[.string (a ++ Utf8.encode n ++ Utf8.encode m ++ b)] wx fun e w' => e = .returned (.string t) ∧ Below wx.heap.size wx w')) := by
              intro va vb
              obtain ⟨ra, hRa, wa, la, ma⟩ := reads_any a.data.toList.length a.data.toList (Nat.le_refl _)
              obtain ⟨rb, hRb, wb, lb, mb⟩ := reads_any b.data.toList.length b.data.toList (Nat.le_refl _)
              have ea := reads_valid ra _ hRa va
              have eb := reads_valid rb _ hRb vb
              have wide : ∀ {p q : Int}, SmallR p → SmallR q → ∀ r ∈ ra ++ [p, q] ++ rb, WideR r := fun {p q} hp hq r hr => by
                rcases List.mem_append.1 hr with hr | hr
                · rcases List.mem_append.1 hr with hr | hr
                  · exact wa r hr
                  · simp at hr
                    rcases hr with rfl | rfl
                    · exact hp.wide
                    · exact hq.wide
                · exact wb r hr
              refine ⟨encS (splitL (ra ++ [m, n] ++ rb)), fun wx hx => ?_, fun wx hx => ?_⟩
              · rw [join_text a b ra rb m n sm sn ea eb]
                exact plainSplitW_calls _ (ra ++ [m, n] ++ rb) wx (by rw [encS_bytes]; exact reads_enc _ (wide sm sn)) hx.tab (wide sm sn) (by simp only [List.length_append, List.length_cons, List.length_nil]; omega) (by have := marks_pair ra rb mm mn; omega)
              · rw [join_text a b ra rb n m sn sm ea eb, split_pair ra rb mm mn hmn]
                exact plainSplitW_calls _ (ra ++ [n, m] ++ rb) wx (by rw [encS_bytes]; exact reads_enc _ (wide sn sm)) hx.tab (wide sn sm) (by simp only [List.length_append, List.length_cons, List.length_nil]; omega) (by have := marks_pair ra rb mn mm; omega)
            have em : (Utf8.encode m).size ≤ 4 := by
              rw [encode_small sm]
              show (Lib.encodeRune m).toArray.size ≤ 4
              rw [List.size_toArray]
              exact (enc_lenW m).2
            have en : (Utf8.encode n).size ≤ 4 := by
              rw [encode_small sn]
              show (Lib.encodeRune n).toArray.size ≤ 4
              rw [List.size_toArray]
              exact (enc_lenW n).2
            have s1 : ¬ 9223372036854775807 < a.size + (Utf8.encode m).size := by omega
            have s2 : ¬ 9223372036854775807 < a.size + (Utf8.encode m).size + (Utf8.encode n).size := by omega
            have s3 : ¬ 9223372036854775807 < a.size + (Utf8.encode m).size + (Utf8.encode n).size + b.size := by omega
            have s4 : ¬ 9223372036854775807 < a.size + (Utf8.encode n).size := by omega
            have s5 : ¬ 9223372036854775807 < a.size + (Utf8.encode n).size + (Utf8.encode m).size := by omega
            have s6 : ¬ 9223372036854775807 < a.size + (Utf8.encode n).size + (Utf8.encode m).size + b.size := by omega
            clear hm0 hn0 hmn mm mn hla hlb em en sm sn
            generalize classZ m = cm at *
            generalize classZ n = cn at *
            generalize Lib.validD a.data.toList = va at *
            generalize Lib.validD b.data.toList = vb at *
            go_enter Tryd.func6, Tryd.ntmps6
            go_wp2_with fail
            refine h1.mono ?_
            rintro e w1 ⟨rfl, hb1⟩
            have hR1 := hR.later hb1
            go_wp2_with fail
            refine (hCm w1).mono ?_
            rintro e wx ⟨rfl, hwx⟩
            have hwx := hwx.symm
            subst hwx
            go_wp2_with fail
            refine (hCn w1).mono ?_
            rintro e wx ⟨rfl, hwx⟩
            have hwx := hwx.symm
            subst hwx
            go_wp2_with fail
            refine (hCm w1).mono ?_
            rintro e wx ⟨rfl, hwx⟩
            have hwx := hwx.symm
            subst hwx
            go_wp2_with fail
            refine (hCn w1).mono ?_
            rintro e wx ⟨rfl, hwx⟩
            have hwx := hwx.symm
            subst hwx
            go_wp2_with fail
            refine (hVa w1 hR1).mono ?_
            rintro e w2 ⟨rfl, hb2⟩
            have hR2 := hR1.later hb2
            have hb12 := hb1.trans (hb2.mono hb1.size)
            clear hb1 hb2 hR1 h1 hVa hCm hCn
            cases va
            · go_wp2_with fail
              go_ret
              exact ⟨rfl, hb12⟩
            · go_wp2_with fail
              refine (hVb w2 hR2).mono ?_
              rintro e w3 ⟨rfl, hb3⟩
              have hR3 := hR2.later hb3
              have hb13 := hb12.trans (hb3.mono hb12.size)
              clear hb12 hb3 hR2 hVb
              cases vb
              · go_wp2_with fail
                go_ret
                exact ⟨rfl, hb13⟩
              · obtain ⟨t, hX, hY⟩ := unhide Hfin (by first | rfl | trivial) (by first | rfl | trivial)
                clear Hfin
                go_wp2_with fail
                refine (hX w3 hR3).mono ?_
                rintro e w4 ⟨rfl, hb4⟩
                have hR4 := hR3.later hb4
                have hb14 := hb13.trans (hb4.mono hb13.size)
                go_wp2_with fail
                refine (hY w4 hR4).mono ?_
                rintro e w5 ⟨rfl, hb5⟩
                have hb15 := hb14.trans (hb5.mono hb14.size)
                go_wp2_with fail
                go_ret
                exact ⟨rfl, hb15⟩
end Go.Proofs.YtdflokjpgbeniaaDoor
