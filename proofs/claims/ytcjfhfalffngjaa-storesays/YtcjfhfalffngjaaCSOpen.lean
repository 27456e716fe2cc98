/-
  The contract of store.Open, of a disk that holds a store.
-/
import Derived.Test.YtcjfhfalffngjaaCSReadRows
namespace Go.Proofs.Ytcjfhfalffngjaa
open Go.RowKit Go.Lib
set_option maxRecDepth 100000
set_option linter.unusedVariables false
set_option linter.unusedSimpArgs false

/-- A store in memory. -/
def storeR (sb db half : Nat) (v : Value) (lb : Nat) : Res := .cell sb 133 [.pointer (some ⟨db, 0, none⟩), .int .i64 half, v, .pointer (some ⟨lb, 0, none⟩)]
def foldA (L : List ChD) (D : List (List ChD)) : List ChD := D.foldl applyP L
theorem foldA_snoc (L : List ChD) (D : List (List ChD)) (x : List ChD) : foldA L (D ++ [x]) = applyP (foldA L D) x := by simp [foldA]
theorem foldA_sorted {L : List ChD} (h : Sorted L) : ∀ D : List (List ChD), Sorted (foldA L D)
  | [] => h
  | x :: D => foldA_sorted (applyP_sorted h x) D
theorem rowI_shape {w0 w : World} {rs : List Res} (H : Hold w0 w rs) {v : Value} {L : List ChD} (hm : rowI v L ∈ rs) : Shaped v := by
  rcases (H.rowAt hm).2 with ⟨h, _⟩ | ⟨g, c, _, h, _⟩
  · exact .inl h
  · exact .inr ⟨_, _, _, h⟩
theorem applyL_calls (va vb : Value) (A B : List ChD) (w : World) (ha : ChL w va A) (hb : ChL w vb B) (hsa : Shaped va) (hsb : Shaped vb) (hs : Sorted A) (hna : A.length ≤ 75) (hnb : B.length ≤ 20) :
    Calls Try.prog 36 #[va, vb] w fun e w' => ∃ v', e = .returned v' ∧ Hold w w' [rowI v' (applyP A B)] := by
  have h := apply_calls va A.length _ vb B.length _ w ha hb hsa hsb (by rw [listOf_getD]; exact hs) hna hnb
  rw [listOf_getD, listOf_getD] at h
  exact h

def OpenSEnd (w0 : World) (db : Nat) (d : DK) (l2 : List Res) (half first used : Nat) (L : List ChD) (e : Ending) (w' : World) : Prop :=
  ∃ sb lb v, e = .returned (.tuple #[.pointer (some ⟨sb, 0, none⟩), .nilIface]) ∧ DiskIn w0 w' db d (storeR sb db half v lb :: rowI v L :: logR lb db 90 (d.now.length - 90) first used :: l2)

set_option maxHeartbeats 4000000 in
theorem openS_calls {w0 w : World} {db : Nat} {d : DK} {l2 : List Res} (h : DiskIn w0 w db d l2) (hdn : d.down = false) (hl : 104 ≤ d.now.length) (half f1 : Nat) (hh : half ≤ 1) (hf : f1 ≤ 900000) (L : List ChD) (hn : L.length ≤ 64) (hk : Kpt L) (h0 : d.now.getD 0 [] = padL (headL half (textL L).length f1)) (ht : TextAt d.now half (textL L))
    (D : List (List ChD)) (used : Nat) (hD : (readP d 90 (d.now.length - 90) (f1 + 1)).deeds = D) (hu : (readP d 90 (d.now.length - 90) (f1 + 1)).used = used) (h14 : ∀ x ∈ D, x.length ≤ 14) (h64 : ∀ k, (foldA L (D.take k)).length ≤ 64) :
    Calls Try.prog 46 #[.pointer (some ⟨db, 0, none⟩)] w fun e w' => OpenSEnd w0 db d l2 half (f1 + 1) used (foldA L D) e w' := by
  have htl := textL_length hk.ok
  have e72 := readHead_calls h hdn hl half (textL L).length f1 hh (by omega) (by omega) h0
  have e73 := fun (wx : World) (l3 : List Res) (hx : DiskIn w0 wx db d l3) => readRows_calls hx hdn hl half hh ((f1 : Int) + 1) L hn hk ht
  have e74 := fun (wx : World) (l3 : List Res) (hx : DiskIn w0 wx db d l3) => openLog_calls hx hdn (f1 + 1) (by omega) (by omega) (by omega)
  unfold OpenEnd at e74
  rw [hD, hu] at e74
  rw [show ((f1 + 1 : Nat) : Int) = (f1 : Int) + 1 by omega] at e74
  obtain ⟨tl, htl2⟩ : ∃ tl, (textL L).length = tl := ⟨_, rfl⟩
  rw [htl2] at e72
  simp only [htl2] at e73
  have hpl : D.length ≤ 200 := by
    have hp := pre_of_go (secAt d.now 90) (f1 + 1) (d.now.length - 90)
    have h1 := hp.2.len
    unfold readP at hD
    rw [hD] at h1
    have := h.ok.few
    omega
  have E72 := hide e72
  have E73 := hide e73
  have E74 := hide e74
  have HD0 := hide h
  have HKs := hide hk.sorted
  have H14 := hide h14
  have H64 := hide h64
  have hmm : d.now.length - 90 = d.now.length - 90 := rfl
  obtain ⟨mm, hmm⟩ : ∃ mm, d.now.length - 90 = mm := ⟨_, rfl⟩
  rw [hmm] at E74
  unfold OpenSEnd
  rw [hmm]
  clear e72 e73 e74 h hdn hl hk h0 ht hD hu h14 h64 htl htl2 hmm
  go_enter Try.func46, Try.ntmps46
  go_wp2_with fail
  refine (unhide E72).mono ?_
  rintro e w1 ⟨rfl, hb1⟩
  have hD1 := (unhide HD0).over hb1
  have hDa := hD1.made 126 [.int .i64 half, .int .i64 tl, .int .i64 ((f1 : Int) + 1)]
  have e73 := unhide E73 _ _ hDa
  unfold RowsEnd at e73
  have E73b := hide e73
  have HDa := hide hDa
  clear e73 hb1 hD1 hDa E72 E73
  go_wp2_with fail
  refine (unhide E73b).mono ?_
  rintro e w2 ⟨v, rfl, h2⟩
  have hD2 := (unhide HDa).join h2
  obtain ⟨pv, cv, hv, _⟩ := row_slice (h2.rowAt (.head _))
  subst hv
  have e74 := unhide E74 w2 _ hD2
  have E74b := hide e74
  have c2 : w2.cell? ⟨w1.heap.size, 2, none⟩ = some (.int .i64 ((f1 : Int) + 1)) := hD2.cellAt (.tail _ (.head _)) rfl
  clear e74 E74 E73b HDa h2 hD2
  go_wp2_with fail
  refine (unhide E74b).mono ?_
  rintro e w3 ⟨lb, v8, P8, rfl, hP8, hD3⟩
  obtain ⟨p8, c8, hv8, _⟩ := row_slice (hD3.hold.rowAt (.head _))
  obtain ⟨m8, hm8⟩ : ∃ m, P8.length = m := ⟨_, rfl⟩
  rw [hm8] at hv8
  subst hv8
  have hml : m8 = D.length := by rw [← hm8, ← hP8, List.length_map]
  obtain ⟨R, hR⟩ : ∃ R, deedsR (.slice p8 m8 c8) P8 ++ (logR lb db 90 mm (f1 + 1) used :: .cell w1.heap.size 126 [.int .i64 half, .int .i64 tl, .int .i64 ((f1 : Int) + 1)] :: l2) = R := ⟨_, rfl⟩
  have HD3 : Hid (DiskIn w0 w3 db d (rowI (.slice pv L.length cv) (foldA L (D.take 0)) :: R)) := by
    rw [← hR]
    refine hD3.perm ?_
    show (rowI (.slice pv L.length cv) L :: _).Perm _
    have := (List.perm_middle (a := rowI (.slice pv L.length cv) L) (l₁ := deedsR (.slice p8 m8 c8) P8 ++ [logR lb db 90 mm (f1 + 1) used]) (l₂ := .cell w1.heap.size 126 [.int .i64 half, .int .i64 tl, .int .i64 ((f1 : Int) + 1)] :: l2)).symm
    simpa using this
  have HDs : Hid (∀ wx l, Hold w0 wx (l ++ R) → DsP wx (.slice p8 m8 c8) P8 ∧ (∀ p ∈ P8, Shaped p.1)) := fun wx l hx => by
    have hm : ∀ x ∈ deedsR (.slice p8 m8 c8) P8, x ∈ l ++ R := fun x hx => by rw [← hR]; simp [hx]
    exact ⟨dsp_of_deeds hx hm, fun p hp => rowI_shape hx (hm _ (.tail _ (List.mem_map.2 ⟨p, hp, rfl⟩)))⟩
  have HC0 : Hid (∀ wx l, Hold w0 wx (l ++ R) → wx.cell? ⟨w1.heap.size, 0, none⟩ = some (.int .i64 half)) := fun wx l hx => hx.cellAt (t := 126) (vs := [.int .i64 half, .int .i64 tl, .int .i64 ((f1 : Int) + 1)]) (by rw [← hR]; simp) rfl
  have HP8 := hide hP8
  have Hm8 := hide hm8
  have HR := hide hR
  have hm200 : m8 ≤ 200 := by omega
  have Hml := hide hml
  clear hD3 hP8 hm8 hR E74b c2 hml
  go_wp2_with fail
  go_loopg [6, 10, 41] (m8 + 1) (fun g v6 v10 vi wr => ∃ (i : Nat), m8 - i < g ∧ i ≤ m8 ∧ vi = .int .i64 i ∧ Hid (DiskIn w0 wr db d (rowI v6 (foldA L (D.take i)) :: R)))
  case atStart => exact ⟨0, by omega, by omega, rfl, HD3⟩
  case round =>
    clear HD3
    obtain ⟨i, hg, hi, rfl, HD⟩ := hrel
    by_cases hin : i < m8
    · have hiz : (i : Int) < (m8 : Int) := by omega
      obtain ⟨hds, hshp⟩ := unhide HDs wr [_] (unhide HD).hold
      rcases hds with ⟨h0, _⟩ | ⟨b, off, c, hv1, _, hbW, hcs⟩
      · have := unhide Hm8; rw [h0] at this; simp at this; omega
      injection hv1 with e1 e2 e3
      subst e1 e3
      clear e2
      obtain ⟨x, hx⟩ : ∃ x, P8[i]? = some x := ⟨_, List.getElem?_eq_getElem (by rw [unhide Hm8]; exact hin)⟩
      obtain ⟨q0, hch⟩ := hcs i x hx
      have hxD : D[i]? = some x.2 := by rw [← unhide HP8, List.getElem?_map, hx]; rfl
      have hx14 := unhide H14 x.2 (List.mem_of_getElem? hxD)
      have hl64 := unhide H64 i
      have hsx := hshp x (List.mem_of_getElem? hx)
      have hs6 := rowI_shape (unhide HD).hold (v := u6) (L := foldA L (D.take i)) (.head _)
      have hc6 := chl_of_row (unhide HD).hold (v := u6) (L := foldA L (D.take i)) (.head _)
      have ea := applyL_calls u6 x.1 (foldA L (D.take i)) x.2 wr hc6 hch hs6 hsx (foldA_sorted (unhide HKs) _) (by omega) (by omega)
      have hnx : foldA L (D.take (i + 1)) = applyP (foldA L (D.take i)) x.2 := by rw [List.take_add_one, hxD, ← foldA_snoc]; rfl
      rw [← hnx] at ea
      obtain ⟨xv, hxv⟩ : ∃ xv, x.1 = xv := ⟨_, rfl⟩
      rw [hxv] at q0 ea
      obtain ⟨p6, c6, hv6, _⟩ := row_slice ((unhide HD).hold.rowAt (.head _))
      have EA := hide ea
      clear ea hcs hch hx hxD hx14 hl64 hsx hs6 hc6 hnx hxv hshp hv6
      go_wp2_with fail
      refine (unhide EA).mono ?_
      rintro e w5 ⟨v5, rfl, h5⟩
      have HD5 := hide ((((unhide HD).join h5).perm (List.Perm.swap _ _ _)).lose [_])
      clear h5 EA
      go_wp2_with fail
      go_roundg (m8 - i)
      case measure => omega
      case rel => exact ⟨i + 1, by omega, by omega, by simp, HD5⟩
    · have hiz : ¬ (i : Int) < (m8 : Int) := by omega
      have hD9 := unhide HD
      have hl64 := unhide H64 i
      rw [List.take_of_length_le (by rw [← unhide Hml]; omega)] at hD9 hl64
      obtain ⟨p6, c6, hv6, _⟩ := row_slice (hD9.hold.rowAt (.head _))
      obtain ⟨Lf, hLf⟩ : ∃ Lf, foldA L D = Lf := ⟨_, rfl⟩
      rw [hLf] at hD9 hl64 hv6
      subst hv6
      have hz : ¬ (64 : Int) < (Lf.length : Int) := by omega
      have c0 := unhide HC0 wr [_] hD9.hold
      have hD10 := hD9.made 133 [.pointer (some ⟨db, 0, none⟩), .int .i64 half, .slice p6 Lf.length c6, .pointer (some ⟨lb, 0, none⟩)]
      have HDf : Hid (DiskIn w0 (wr.alloc (.cells #[.pointer (some ⟨db, 0, none⟩), .int .i64 half, .slice p6 Lf.length c6, .pointer (some ⟨lb, 0, none⟩)] 133)) db d (storeR wr.heap.size db half (.slice p6 Lf.length c6) lb :: rowI (.slice p6 Lf.length c6) Lf :: logR lb db 90 mm (f1 + 1) used :: l2)) := by
        have h11 := hD10.perm (l3 := (deedsR (.slice p8 m8 c8) P8 ++ [Res.cell w1.heap.size 126 [.int .i64 half, .int .i64 tl, .int .i64 ((f1 : Int) + 1)]]) ++ (storeR wr.heap.size db half (.slice p6 Lf.length c6) lb :: rowI (.slice p6 Lf.length c6) Lf :: logR lb db 90 mm (f1 + 1) used :: l2)) (by
          rw [← unhide HR]
          show List.Perm _ (storeR wr.heap.size db half (.slice p6 Lf.length c6) lb :: rowI (.slice p6 Lf.length c6) Lf :: _)
          have hp1 : ((deedsR (.slice p8 m8 c8) P8 ++ [Res.cell w1.heap.size 126 [.int .i64 half, .int .i64 tl, .int .i64 ((f1 : Int) + 1)]]) ++ (storeR wr.heap.size db half (.slice p6 Lf.length c6) lb :: rowI (.slice p6 Lf.length c6) Lf :: logR lb db 90 mm (f1 + 1) used :: l2)).Perm (storeR wr.heap.size db half (.slice p6 Lf.length c6) lb :: rowI (.slice p6 Lf.length c6) Lf :: ((deedsR (.slice p8 m8 c8) P8 ++ [Res.cell w1.heap.size 126 [.int .i64 half, .int .i64 tl, .int .i64 ((f1 : Int) + 1)]]) ++ (logR lb db 90 mm (f1 + 1) used :: l2))) :=
            List.perm_middle.trans (List.Perm.cons _ List.perm_middle)
          refine hp1.trans (List.Perm.cons _ (List.Perm.cons _ ?_))
          rw [List.append_assoc]
          exact List.Perm.append_left _ (List.Perm.swap _ _ _))
        exact h11.lose _
      have HLf := hide hLf
      clear hD9 hD10 hl64 HD hLf
      go_wp2_with fail
      go_ret2
      rw [unhide HLf]
      exact ⟨_, rfl, lb, _, unhide HDf⟩
#print axioms openS_calls
end Go.Proofs.Ytcjfhfalffngjaa
