/-
  The walk of TopSplit: it answers true, for all texts, and writes nothing that was there.
-/
import Derived.Test.YtdflokjpgbeniaaDoorFoldW
import Derived.Test.YtdflokjpgbeniaaDoorOrder
namespace Go.Proofs.YtdflokjpgbeniaaDoor
open Go.RowKit

theorem split_e : splitL [233] = [101, 769] := by decide +kernel
theorem enc_e9 : encS [233] = ⟨#[195, 169]⟩ := by decide +kernel
theorem enc_e1 : encS [101, 769] = ⟨#[101, 204, 129]⟩ := by decide +kernel

/-- The signs that there are split up to bases and marks. -/
theorem split_kind {rs : List Int} (h : rs.all isZ = true) : ∀ p ∈ splitL rs, baseZ p = true ∨ classZ p ≠ 0 := fun p hp => by
  obtain ⟨r, hr, hpr⟩ := List.mem_flatMap.1 (splitL_mem p hp)
  rcases parts_sign (List.all_eq_true.1 h r hr) p hpr with h1 | h1
  · exact .inl h1
  · right
    rcases h1 with h1 | h1 <;> omega

theorem next_read {s : ByteArray} {pos B : Nat} {r : Int} {rest : List Int} {wr : World} (hit : wr.heap[B]? = some (.stringIter s pos)) (hRd : Reads (s.data.toList.drop pos) (r :: rest)) :
    ∃ pos', Reads (s.data.toList.drop pos') rest ∧ ∀ ty, (Instr.next (.pointer (some ⟨B, 0, none⟩)) true ty).run Tryd.prog wr = .ok (.tuple #[.bool true, .int .i64 pos, .int .i32 r]) (wr.iterAt B s pos') := by
  obtain ⟨hne, hd1, hd2, hRd2⟩ := hRd
  obtain ⟨_, hwd1, hwd2, _⟩ := decodeL_wide hne
  have hdec : Utf8.decode s pos = (r.toNat, (Lib.decodeL (s.data.toList.drop pos)).2) := by
    rw [← Lib.decodeL_drop]
    exact Prod.ext hd1 rfl
  have hp : pos < s.size := by
    have h3 : s.data.toList.length = s.size := Array.length_toList
    rw [List.length_drop] at hwd2
    omega
  refine ⟨pos + (Lib.decodeL (s.data.toList.drop pos)).2, by rw [← List.drop_drop]; exact hRd2, fun ty => ?_⟩
  have h1 := Lib.run_next_any_at (P := Tryd.prog) wr B s pos ty hit hp
  rw [hdec] at h1
  rw [h1, Int.toNat_of_nonneg hd2]
theorem next_done {s : ByteArray} {pos : Nat} (hRd : Reads (s.data.toList.drop pos) []) : ¬ pos < s.size := by
  have h2 := List.drop_eq_nil_iff.1 hRd
  have h3 : s.data.toList.length = s.size := Array.length_toList
  omega

set_option maxRecDepth 100000 in
set_option maxHeartbeats 1000000 in
theorem topSplit_walk (s : ByteArray) (w : World) (hR : Ready w) (hsz : s.size ≤ 9223372036854775807) :
    Calls Tryd.prog 5 #[.string s] w fun e w' => e = .returned (.bool true) ∧ Below w.heap.size w w' := by
  have h1 := plainSplitW_calls (encS [233]) [233] w (by rw [encS_bytes]; exact reads_enc _ (fun r hr => by simp at hr; subst hr; exact ⟨by omega, by omega, by omega⟩)) hR.tab (fun r hr => by simp at hr; subst hr; exact ⟨by omega, by omega, by omega⟩) (by decide) (by decide +kernel)
  rw [split_e, enc_e9, enc_e1] at h1
  by_cases ha : 60 < s.size
  · have haz : (60 : Int) < (s.size : Int) := by omega
    go_enter Tryd.func5, Tryd.ntmps5
    go_wp2_with fail
    refine h1.mono ?_
    rintro e w1 ⟨rfl, hb1⟩
    go_wp2
    go_ret
    exact ⟨rfl, hb1⟩
  · have haz : ¬ (60 : Int) < (s.size : Int) := by omega
    have hsl : s.data.toList.length = s.size := Array.length_toList
    obtain ⟨rs, hRd, hs, hl, hm⟩ := reads_any s.data.toList.length s.data.toList (Nat.le_refl _)
    have hm40 : marks (partsL rs) < 40 := by omega
    have hpl := partsL_len rs
    have hsp := splitL_wide hs
    have hspl : (splitL rs).length ≤ 120 := by rw [splitL_length]; omega
    have hfl : (foldL rs).length ≤ 120 := by rw [foldL_length]; omega
    have hRx : Reads (encS (splitL rs)).data.toList (splitL rs) := by rw [encS_bytes]; exact reads_enc _ hsp
    have hRf : Reads (encS (foldL rs)).data.toList (foldL rs) := by rw [encS_bytes]; exact reads_enc _ (foldL_wide hs)
    have hSs := fun wx (hx : Ready wx) => plainSplitW_calls s rs wx hRd hx.tab hs (by omega) hm40
    have hSx := fun wx (hx : Ready wx) => plainSplitW_calls (encS (splitL rs)) (splitL rs) wx hRx hx.tab hsp (by omega) (by rw [marks_splitL]; exact hm40)
    have hFs := fun wx (hx : Ready wx) => plainFoldW_calls s rs wx hRd hx hs (by omega) hm40
    have hFf := fun wx (hx : Ready wx) => plainFoldW_calls (encS (foldL rs)) (foldL rs) wx hRf hx (foldL_wide hs) (by omega) (by rw [marks_foldL]; exact hm40)
    have hFx := fun wx (hx : Ready wx) => plainFoldW_calls (encS (splitL rs)) (splitL rs) wx hRx hx hsp (by omega) (by rw [marks_splitL]; exact hm40)
    have hAl := fun wx (hx : Ready wx) => alikeW_calls s (encS (splitL rs)) rs (splitL rs) wx hRd hRx hx hs (by omega) hm40 hsp (by omega) (by rw [marks_splitL]; exact hm40)
    rw [split_split] at hSx
    rw [fold_fold_all] at hFf
    rw [fold_split_all] at hFx hAl
    simp only [decide_true] at hAl
    have Hk : Hid (rs.all isZ = true → ∀ p ∈ splitL rs, baseZ p = true ∨ classZ p ≠ 0) := fun h => split_kind h
    have HRd := hide hRd
    have HRx := hide hRx
    have Hsz : Hid (s.data.toList.length = s.size) := hsl
    have Hxz : Hid ((encS (splitL rs)).data.toList.length = (encS (splitL rs)).size) := Array.length_toList
    have Hhs := hide hs
    have Hsp := hide hsp
    clear hs hsp hRd hRx hRf hm hl hm40 hpl hsl hspl hfl
    generalize encS (foldL rs) = sf at *
    generalize encS (splitL rs) = sx at *
    generalize splitL rs = xs at *
    go_enter Tryd.func5, Tryd.ntmps5
    go_wp2_with fail
    refine h1.mono ?_
    rintro e w1 ⟨rfl, hb1⟩
    have hR1 := hR.later hb1
    go_wp2_with fail
    refine (hSs w1 hR1).mono ?_
    rintro e w2 ⟨rfl, hb2⟩
    have hR2 := hR1.later hb2
    have hb12 := hb1.trans (hb2.mono hb1.size)
    clear h1 hb1 hb2 hR1
    go_wp2_with fail
    refine (hSx w2 hR2).mono ?_
    rintro e w3 ⟨rfl, hb3⟩
    have hR3 := hR2.later hb3
    have hb13 := hb12.trans (hb3.mono hb12.size)
    clear hb12 hb3 hR2 hSs hSx
    go_wp2_with fail
    refine (hFs w3 hR3).mono ?_
    rintro e w4 ⟨rfl, hb4⟩
    have hR4 := hR3.later hb4
    have hb14 := hb13.trans (hb4.mono hb13.size)
    go_wp2_with fail
    refine (hFf w4 hR4).mono ?_
    rintro e w5 ⟨rfl, hb5⟩
    have hR5 := hR4.later hb5
    have hb15 := hb14.trans (hb5.mono hb14.size)
    go_wp2_with fail
    refine (hFs w5 hR5).mono ?_
    rintro e w6 ⟨rfl, hb6⟩
    have hR6 := hR5.later hb6
    have hb16 := hb15.trans (hb6.mono hb15.size)
    clear hb13 hb14 hb15 hb4 hb5 hb6 hR3 hR4 hR5 hFf
    go_wp2_with fail
    refine (hFx w6 hR6).mono ?_
    rintro e w7 ⟨rfl, hb7⟩
    have hR7 := hR6.later hb7
    have hb17 := hb16.trans (hb7.mono hb16.size)
    go_wp2_with fail
    refine (hFs w7 hR7).mono ?_
    rintro e w8 ⟨rfl, hb8⟩
    have hR8 := hR7.later hb8
    have hb18 := hb17.trans (hb8.mono hb17.size)
    go_wp2_with fail
    refine (hAl w8 hR8).mono ?_
    rintro e w9 ⟨rfl, hb9⟩
    have hR9 := hR8.later hb9
    have hb19 := hb18.trans (hb9.mono hb18.size)
    clear hb16 hb17 hb18 hb7 hb8 hb9 hR6 hR7 hR8 hFs hFx hAl
    go_wp2_with fail
    go_loopg [4] (rs.length + 1) (fun k v wr => ∃ (pos : Nat) (done rest : List Int), k = rest.length + 1 ∧ Hid (rs = done ++ rest) ∧ Hid (Reads (s.data.toList.drop pos) rest) ∧ v = .bool (done.all isZ) ∧ Hid (wr.heap[w9.heap.size]? = some (.stringIter s pos)) ∧ Below w9.heap.size w9 wr)
    case atStart => exact ⟨0, [], rs, rfl, rfl, unhide HRd, rfl, World.iter_heap w9 s 0, (Below.refl _ w9).alloc (Nat.le_refl _) _⟩
    case round =>
      obtain ⟨pos, done, rest, hk, HRs, HRd1, rfl, Hit, hB⟩ := hrel
      have hBs : w9.heap.size < wr.heap.size := (Array.getElem?_eq_some_iff.1 (unhide Hit)).1
      cases rest with
      | cons r rest =>
        obtain ⟨pos', hRd2, hnx⟩ := next_read (unhide Hit) (unhide HRd1)
        have HRd2 := hide hRd2
        have Hit2 : Hid ((wr.iterAt w9.heap.size s pos').heap[w9.heap.size]? = some (.stringIter s pos')) := Lib.iterAt_heap _ _ _ _ _ (unhide Hit)
        have hB2 := Lib.below_iterAt hB (Nat.le_refl _) s pos'
        have hsz2 : w9.heap.size < (wr.iterAt w9.heap.size s pos').heap.size := by rw [Lib.iterAt_size]; exact hBs
        have hI := is_calls r (wr.iterAt w9.heap.size s pos') (hR9.later hB2).tab
        have HR2 : Hid (rs = (done ++ [r]) ++ rest) := by
          show _ = _
          rw [unhide HRs]
          simp
        have Hall : Hid ((done ++ [r]).all isZ = (done.all isZ && isZ r)) := by
          show _ = _
          simp
        clear hRd2 hB
        generalize wr.iterAt w9.heap.size s pos' = w0 at *
        generalize isZ r = ir at *
        generalize hd : done.all isZ = d at *
        cases d
        · go_wp2_with fail
          go_roundg (rest.length + 1)
          case measure => simp only [List.length_cons] at hk; omega
          case rel => exact ⟨pos', done ++ [r], rest, rfl, HR2, HRd2, by rw [unhide Hall]; rfl, Hit2, hB2⟩
        · go_wp2_with fail
          refine hI.mono ?_
          rintro e w10 ⟨rfl, hb10⟩
          go_wp2_with fail
          go_roundg (rest.length + 1)
          case measure => simp only [List.length_cons] at hk; omega
          case rel => exact ⟨pos', done ++ [r], rest, rfl, HR2, HRd2, by rw [unhide Hall]; simp, (hb10.block _ hsz2).trans (unhide Hit2), hB2.trans (hb10.mono (Nat.le_of_lt hsz2))⟩
      | nil =>
        have hrs : rs = done := by have := unhide HRs; simpa using this
        have hnl := next_done (unhide HRd1)
        have hnx : ∀ ty, (Instr.next (.pointer (some ⟨w9.heap.size, 0, none⟩)) true ty).run Tryd.prog wr = _ := fun ty => Lib.run_next_end_at wr w9.heap.size s pos ty (unhide Hit) hnl
        have Hall : Hid (done.all isZ = true → ∀ p ∈ xs, baseZ p = true ∨ classZ p ≠ 0) := by
          intro h
          rw [← hrs] at h
          exact unhide Hk h
        generalize done.all isZ = d at *
        clear hrs hnl
        obtain ⟨wA, rfl⟩ : ∃ wA, wA = wr := ⟨_, rfl⟩
        have hRA := hR9.later hB
        have hbA := hb19.trans (hB.mono hb19.size)
        clear Hit
        go_wp2_with fail
        go_loopg [] (xs.length + 1) (fun k w2 => ∃ (pos : Nat) (done rest : List Int), k = rest.length + 1 ∧ Hid (xs = done ++ rest) ∧ Hid (Reads (sx.data.toList.drop pos) rest) ∧ Hid (w2.heap[wA.heap.size]? = some (.stringIter sx pos)) ∧ Below wA.heap.size wA w2)
        case atStart => exact ⟨0, [], xs, rfl, rfl, unhide HRx, World.iter_heap wA sx 0, (Below.refl _ wA).alloc (Nat.le_refl _) _⟩
        case round =>
          clear hnx HRd1 HRs hk
          obtain ⟨pos2, done2, rest2, hk2, HRs2, HRd2, Hit2, hB2⟩ := hrel
          cases rest2 with
          | cons r rest2 =>
            obtain ⟨pos3, hRd3, hnx⟩ := next_read (unhide Hit2) (unhide HRd2)
            have HRd3 := hide hRd3
            have Hit3 : Hid ((wr.iterAt wA.heap.size sx pos3).heap[wA.heap.size]? = some (.stringIter sx pos3)) := Lib.iterAt_heap _ _ _ _ _ (unhide Hit2)
            have hB3 := Lib.below_iterAt hB2 (Nat.le_refl _) sx pos3
            have hBa := fun wx => base_calls r wx
            have hCl := fun wx => class_calls r wx
            have HR3 : Hid (xs = (done2 ++ [r]) ++ rest2) := by
              show _ = _
              rw [unhide HRs2]
              simp
            have hkind : d = true → baseZ r = true ∨ classZ r ≠ 0 := fun h => unhide Hall h r (by rw [unhide HRs2]; simp)
            clear hRd3 hB2
            generalize wr.iterAt wA.heap.size sx pos3 = w0 at *
            generalize baseZ r = br at *
            generalize classZ r = cr at *
            cases d
            · go_wp2_with fail
              go_roundg (rest2.length + 1)
              case measure => simp only [List.length_cons] at hk2; omega
              case rel => exact ⟨pos3, done2 ++ [r], rest2, rfl, HR3, HRd3, Hit3, hB3⟩
            · have hkd := hkind rfl
              clear hkind
              cases br
              · have hcr : (cr == 0) = false := by
                  rcases hkd with h | h
                  · cases h
                  · simpa using h
                clear hkd
                go_wp2_with fail
                refine (hBa w0).mono ?_
                rintro e wx ⟨rfl, hwx⟩
                have hwx := hwx.symm
                subst hwx
                go_wp2_with fail
                refine (hCl w0).mono ?_
                rintro e wx ⟨rfl, hwx⟩
                have hwx := hwx.symm
                subst hwx
                go_wp2_with fail
                go_roundg (rest2.length + 1)
                case measure => simp only [List.length_cons] at hk2; omega
                case rel => exact ⟨pos3, done2 ++ [r], rest2, rfl, HR3, HRd3, Hit3, hB3⟩
              · clear hkd
                go_wp2_with fail
                refine (hBa w0).mono ?_
                rintro e wx ⟨rfl, hwx⟩
                have hwx := hwx.symm
                subst hwx
                go_wp2_with fail
                go_roundg (rest2.length + 1)
                case measure => simp only [List.length_cons] at hk2; omega
                case rel => exact ⟨pos3, done2 ++ [r], rest2, rfl, HR3, HRd3, Hit3, hB3⟩
          | nil =>
            have hnl := next_done (unhide HRd2)
            have hnx : ∀ ty, (Instr.next (.pointer (some ⟨wA.heap.size, 0, none⟩)) true ty).run Tryd.prog wr = _ := fun ty => Lib.run_next_end_at wr wA.heap.size sx pos2 ty (unhide Hit2) hnl
            clear hnl
            go_wp2_with fail
            go_ret
            exact ⟨rfl, hbA.trans (hB2.mono hbA.size)⟩
end Go.Proofs.YtdflokjpgbeniaaDoor
