/-
  The contracts of the law's own functions 'bare' and 'digraph', over the seat's program.
-/
import Derived.Test.YtdflokjpgbeniaaDoorRunes
namespace Go.Proofs.YtdflokjpgbeniaaDoor
open Go.RowKit

/-- What has no marks. -/
def noMarks (ps : List Int) : List Int := ps.filter (fun r => classZ r == 0)
/-- A text without its marks. -/
def bareL (rs : List Int) : List Int := noMarks (splitL rs)

theorem noMarks_snoc (ps : List Int) (r : Int) : noMarks (ps ++ [r]) = if classZ r = 0 then noMarks ps ++ [r] else noMarks ps := by
  unfold noMarks
  rw [List.filter_append]
  by_cases h : classZ r = 0
  · simp [h]
  · simp [h]

/-- Where bare stands. -/
structure BareSt (w : World) (s : ByteArray) (B : Nat) (wr : World) (pos : Nat) (v : Value) (st : List Int) : Prop where
  it : wr.heap[B]? = some (.stringIter s pos)
  bel : Below B w wr
  own : wr.ownsRow B 21 1 v st.length (st.map (Value.int .i32))

theorem BareSt.next {w wr : World} {s : ByteArray} {B pos : Nat} {v : Value} {st : List Int} (h : BareSt w s B wr pos v st) (pos' : Nat) : BareSt w s B (wr.iterAt B s pos') pos' v st where
  it := Lib.iterAt_heap _ _ _ _ _ h.it
  bel := Lib.below_iterAt h.bel (Nat.le_refl _) _ _
  own := owns_iterAt h.own h.it pos'

theorem BareSt.later {w wr w1 : World} {s : ByteArray} {B pos : Nat} {v : Value} {st : List Int} (h : BareSt w s B wr pos v st) (hb : Below wr.heap.size wr w1) : BareSt w s B w1 pos v st where
  it := (hb.block _ (Array.getElem?_eq_some_iff.1 h.it).1).trans h.it
  bel := h.bel.trans (hb.mono (by have := (Array.getElem?_eq_some_iff.1 h.it).1; omega))
  own := h.own.kept (grown_of_below hb none) (by cases hv : v.ownBlock <;> simp)

theorem BareSt.app {w wr w3 : World} {s : ByteArray} {B pos : Nat} {v v' : Value} {a a' : List Int} (h : BareSt w s B wr pos v a) (hg : wr.grownBy w3 v.ownBlock) (ho : w3.ownsRow B 21 1 v' a'.length (a'.map (Value.int .i32))) : BareSt w s B w3 pos v' a' where
  it := by
    have hne : some B ≠ v.ownBlock := by
      intro e
      obtain ⟨c, hc⟩ := owns_kind h.own B e.symm
      rw [h.it] at hc
      cases hc
    rw [hg.block B (Array.getElem?_eq_some_iff.1 h.it).1 hne]
    exact h.it
  bel := h.bel.trans (below_grown hg (by have := (Array.getElem?_eq_some_iff.1 h.it).1; omega) (fun g hgg => (h.own.lt g hgg).1))
  own := ho

set_option maxRecDepth 100000 in
set_option maxHeartbeats 1000000 in
theorem bare_calls (rs : List Int) (w : World) (hR : Ready w) (hs : ∀ r ∈ rs, SmallR r) (hl : rs.length ≤ 400) (hm : marks (partsL rs) < 20) (hne : bareL rs ≠ []) :
    Calls Tryd.prog 27 #[.string (encS rs)] w fun e w' => e = .returned (.string (encS (bareL rs))) ∧ Below w.heap.size w w' := by
  obtain ⟨i0, hi, hz0, hz1, hz2⟩ := info_parts info21
  have hS := plainSplit_calls rs w hR.tab hs (by omega) hm
  have hts := splitL_small hs
  have htl : (splitL rs).length ≤ 800 := by rw [splitL_length]; have := partsL_len rs; omega
  unfold bareL at *
  generalize splitL rs = ts at *
  clear hs hl hm
  have HN := hide hne
  have HT := hide hts
  clear hne hts
  go_enter Tryd.func27, Tryd.ntmps27
  go_wp2_with fail
  refine hS.mono ?_
  rintro e w2 ⟨rfl, hb12⟩
  clear hS
  go_wp2_with fail
  go_loopg [3] (ts.length + 1) (fun k v wr => ∃ (done rest : List Int), k = rest.length + 1 ∧ Hid (ts = done ++ rest) ∧ BareSt w2 (encS ts) w2.heap.size wr (encL done).length v (noMarks done))
  case atStart =>
    refine ⟨[], ts, rfl, rfl, ⟨?_, (Below.refl _ w2).alloc (Nat.le_refl _) _, World.ownsRow_nil _ _ _ _⟩⟩
    have := World.iter_heap w2 (encS ts) 0
    simpa [encL] using this
  case round =>
    obtain ⟨done, rest, hk, HRs, hst⟩ := hrel
    have hBs : w2.heap.size < wr.heap.size := (Array.getElem?_eq_some_iff.1 hst.it).1
    have hdl : (noMarks done).length ≤ 800 := by
      have h1 : done.length ≤ ts.length := by rw [unhide HRs]; simp
      have h2 : (noMarks done).length ≤ done.length := List.length_filter_le _ _
      omega
    cases rest with
    | nil =>
      have hrs : ts = done := by have := unhide HRs; simpa using this
      have hnl : ¬ (encL done).length < (encS ts).size := by rw [encS_size, hrs]; omega
      have hnx : ∀ ty, (Instr.next (.pointer (some ⟨w2.heap.size, 0, none⟩)) true ty).run Tryd.prog wr = _ := fun ty => Lib.run_next_end_at wr w2.heap.size (encS ts) (encL done).length ty hst.it hnl
      have hn0 : noMarks done ≠ [] := by have := unhide HN; rw [hrs] at this; exact this
      obtain ⟨g, c, hu3⟩ := row_shape hst.own (List.length_pos_iff.2 hn0)
      rw [hu3] at hst ⊢
      have hcv := convert_back (noMarks done) wr g c (fun r hr => by have h1 := (List.mem_filter.1 hr).1; rw [← hrs] at h1; exact unhide HT r h1) (fun j hj => by
        have h := hst.own.cells (g := g) rfl j (.int .i32 ((noMarks done).getD j 0)) (by rw [List.getElem?_map, List.getElem?_eq_getElem hj]; simp [hj])
        rw [add_addr] at h
        exact h)
      have hbel := hst.bel
      have Hrs := hide hrs
      clear hst hnl hn0 hu3 hrs hdl
      go_wp2_with fail
      go_ret
      rw [unhide Hrs]
      exact ⟨rfl, hb12.trans (hbel.mono hb12.size)⟩
    | cons r rest =>
      simp only [List.length_cons] at hk
      have hsm : SmallR r := unhide HT r (by rw [unhide HRs]; simp)
      have hdec : Utf8.decode (encS ts) (encL done).length = (r.toNat, (Lib.encodeRune r).length) := by
        rw [unhide HRs]
        exact decode_at done r rest hsm
      have hp : (encL done).length < (encS ts).size := by
        rw [encS_size, unhide HRs, encL_append, encL_cons, List.length_append, List.length_append]
        have := enc_pos hsm
        omega
      have hnx : ∀ ty, (Instr.next (.pointer (some ⟨w2.heap.size, 0, none⟩)) true ty).run Tryd.prog wr = .ok (.tuple #[.bool true, .int .i64 (encL done).length, .int .i32 r]) (wr.iterAt w2.heap.size (encS ts) (encL (done ++ [r])).length) := fun ty => by
        have h1 := Lib.run_next_any_at (P := Tryd.prog) wr w2.heap.size (encS ts) (encL done).length ty hst.it hp
        rw [hdec] at h1
        rw [h1, encL_append, encL_one, List.length_append, Int.toNat_of_nonneg hsm.1]
      have hst0 := hst.next (encL (done ++ [r])).length
      have hsz0 : w2.heap.size < (wr.iterAt w2.heap.size (encS ts) (encL (done ++ [r])).length).heap.size := by rw [Lib.iterAt_size]; exact hBs
      have HR2 : Hid (ts = (done ++ [r]) ++ rest) := by
        show _ = _
        rw [unhide HRs]
        simp
      have Hnext : Hid (noMarks (done ++ [r]) = if classZ r = 0 then noMarks done ++ [r] else noMarks done) := noMarks_snoc done r
      have hC := class_calls r (wr.iterAt w2.heap.size (encS ts) (encL (done ++ [r])).length)
      clear hst hdec hp
      generalize wr.iterAt w2.heap.size (encS ts) (encL (done ++ [r])).length = w0 at *
      obtain ⟨pos', Hpos⟩ : ∃ pos', Hid ((encL (done ++ [r])).length = pos') := ⟨_, rfl⟩
      rw [unhide Hpos] at hst0
      have h800 : (noMarks done).length + 1 ≤ 801 := by omega
      by_cases hc : classZ r = 0
      · rw [hc] at hC
        have Hc := hide hc
        have Hst0 := hide hst0
        have Hown := hide hst0.own
        have Hnm := hide hdl
        generalize noMarks done = nm at *
        clear hc hst0
        go_wp2_with fail
        refine hC.mono ?_
        rintro e wx ⟨rfl, hwx⟩
        have hwx := hwx.symm
        subst hwx
        go_wp2_with (at_builtin; refine wpList_append_own_at _ rfl _ _ 33 rfl w2.heap.size 21 i0 (.int .i32 0) 1 4 Tryd.underlying33 hi hz0 hz1 hz2 rfl (by decide) _ _ _ rfl ((unhide Hown).alloc _) ⟨w0.heap.size, 0, none⟩ 1 1 [.int .i32 r] rfl rfl (cell_one_new _ _ _) (fun y hy => by simp at hy; subst hy; rfl) (by unfold maxLen; omega) (by omega) (by simp; omega) ?_; intro v4 w4 hown4 hgrow4 hnil4 hat4)
        go_roundg (rest.length + 1)
        case measure => omega
        case rel =>
          refine ⟨done ++ [r], rest, rfl, HR2, ?_⟩
          rw [unhide Hnext, if_pos (unhide Hc), unhide Hpos]
          exact BareSt.app (BareSt.later (unhide Hst0) ((Below.refl _ w0).alloc (Nat.le_refl _) (.cells #[Value.int .i32 r] 21))) hgrow4 (by simpa using hown4)
      · have hC0 : (classZ r == 0) = false := by simpa using hc
        have Hst0 := hide hst0
        have Hc := hide hc
        clear hc hst0
        generalize classZ r = cl at *
        go_wp2_with fail
        refine hC.mono ?_
        rintro e wx ⟨rfl, hwx⟩
        have hwx := hwx.symm
        subst hwx
        go_wp2_with fail
        go_roundg (rest.length + 1)
        case measure => omega
        case rel =>
          refine ⟨done ++ [r], rest, rfl, HR2, ?_⟩
          rw [unhide Hnext, if_neg (unhide Hc), unhide Hpos]
          exact unhide Hst0

/-- How often 99 stands just ahead of 104. -/
def dig : List Int → Nat
  | [] => 0
  | [_] => 0
  | a :: b :: t => (if a = 99 ∧ b = 104 then 1 else 0) + dig (b :: t)

theorem dig_snoc : ∀ (l : List Int) (a b : Int), dig (l ++ [a, b]) = dig (l ++ [a]) + if a = 99 ∧ b = 104 then 1 else 0
  | [], a, b => by simp [dig]
  | [x], a, b => by simp [dig]
  | x :: y :: t, a, b => by
    have h := dig_snoc (y :: t) a b
    simp only [List.cons_append, dig] at h ⊢
    omega
theorem dig_next {ts : List Int} {j : Nat} {a b : Int} (hj : 1 ≤ j) (ha : ts[j - 1]? = some a) (hb : ts[j]? = some b) : dig (ts.take (j + 1)) = dig (ts.take j) + if a = 99 ∧ b = 104 then 1 else 0 := by
  obtain ⟨i, rfl⟩ : ∃ i, j = i + 1 := ⟨j - 1, by omega⟩
  rw [Nat.add_sub_cancel] at ha
  rw [List.take_add_one, hb, List.take_add_one, ha]
  simp only [Option.toList_some, List.append_assoc]
  exact dig_snoc _ a b
theorem dig_le : ∀ l : List Int, dig l ≤ l.length
  | [] => by simp [dig]
  | [_] => by simp [dig]
  | a :: b :: t => by
    have h := dig_le (b :: t)
    simp only [dig, List.length_cons] at h ⊢
    split <;> omega

set_option maxRecDepth 100000 in
set_option maxHeartbeats 1000000 in
theorem digraph_calls (rs : List Int) (w : World) (hR : Ready w) (hs : ∀ r ∈ rs, SmallR r) (hl : rs.length ≤ 400) (hm : marks (partsL rs) < 20) :
    Calls Tryd.prog 28 #[.string (encS rs)] w fun e w' => e = .returned (.int .i64 (dig (foldL rs))) ∧ Below w.heap.size w w' := by
  have hS := plainFold_calls rs w hR hs (by omega) hm
  have hts := foldL_small hs
  have htl : (foldL rs).length ≤ 800 := by rw [foldL_length]; have := partsL_len rs; omega
  generalize foldL rs = ts at *
  clear hs hl hm
  have hcv := fun wx => convert_runes ts wx hts (by omega)
  clear hts
  go_enter Tryd.func28, Tryd.ntmps28
  go_wp2_with fail
  refine hS.mono ?_
  rintro e w2 ⟨rfl, hb12⟩
  clear hS
  obtain ⟨cap, hcap, hcv⟩ := hcv w2
  go_wp2_with fail
  clear hcv
  go_loopg [3, 5] (ts.length + 1) (fun k n i wr => ∃ j : Nat, 1 ≤ j ∧ (j ≤ ts.length ∨ j = 1) ∧ k = ts.length + 2 - j ∧ n = .int .i64 (dig (ts.take j)) ∧ i = .int .i64 j ∧ Below w2.heap.size w2 wr ∧ Hid (SwapAt w2.heap.size ts wr))
  case atStart =>
    have hg : (w2.alloc (.cells ((ts.map (Value.int .i32)).toArray ++ Array.replicate (cap - ts.length) (.int .i32 0)) 21)).drew.heap[w2.heap.size]? = some (.cells ((ts.map (Value.int .i32)).toArray ++ Array.replicate (cap - ts.length) (.int .i32 0)) 21) := heap_alloc_new _ _
    refine ⟨1, by omega, .inr rfl, by omega, ?_, rfl, below_drewN (Below.alloc (Below.refl _ _) (Nat.le_refl _) _) 1, ?_, fun k => frozen_of_row _ _ _ _ _ hg⟩
    · cases ts <;> simp [dig]
    · intro k hk
      rw [cell_of_row _ _ _ _ _ _ hg, Array.getElem?_append_left (by simpa using hk)]
      simp [hk]
  case round =>
    obtain ⟨j, hj1, hj2, hk, rfl, rfl, hB, H⟩ := hrel
    by_cases hjn : j < ts.length
    · obtain ⟨a, ha⟩ : ∃ a, ts[j - 1]? = some a := ⟨_, List.getElem?_eq_getElem (by omega)⟩
      obtain ⟨b, hb⟩ : ∃ b, ts[j]? = some b := ⟨_, List.getElem?_eq_getElem hjn⟩
      have ca : wr.cell? ⟨w2.heap.size, j - 1, none⟩ = some (.int .i32 a) := by
        rw [H.out.1 (j - 1) (by omega), List.getD_eq_getElem?_getD, ha]
        rfl
      have cb : wr.cell? ⟨w2.heap.size, j, none⟩ = some (.int .i32 b) := by
        rw [H.out.1 j hjn, List.getD_eq_getElem?_getD, hb]
        rfl
      have Hnext : Hid (dig (ts.take (j + 1)) = dig (ts.take j) + if a = 99 ∧ b = 104 then 1 else 0) := dig_next hj1 ha hb
      have hdl : dig (ts.take j) ≤ 800 := by
        have h1 := dig_le (ts.take j)
        rw [List.length_take] at h1
        omega
      have hjz : ((j : Int) - 1).toNat = j - 1 := by omega
      have hj3 : (1 : Int) ≤ (j : Int) := by omega
      clear ha hb
      generalize dig (ts.take j) = d at *
      by_cases h99 : a = 99
      · subst h99
        by_cases h104 : b = 104
        · subst h104
          go_wp2_with fail
          go_roundg (ts.length + 1 - j)
          case measure => omega
          case rel => exact ⟨j + 1, by omega, by omega, by omega, by rw [Hnext.out]; simp, by simp, hB, H.out⟩
        · have h104' : (b == 104) = false := by simpa using h104
          go_wp2_with fail
          go_roundg (ts.length + 1 - j)
          case measure => omega
          case rel => exact ⟨j + 1, by omega, by omega, by omega, by rw [Hnext.out, if_neg (fun h => h104 h.2)]; simp, by simp, hB, H.out⟩
      · have h99' : (a == 99) = false := by simpa using h99
        go_wp2_with fail
        go_roundg (ts.length + 1 - j)
        case measure => omega
        case rel => exact ⟨j + 1, by omega, by omega, by omega, by rw [Hnext.out, if_neg (fun h => h99 h.1)]; simp, by simp, hB, H.out⟩
    · have hlast : ts.take j = ts := List.take_of_length_le (by omega)
      rw [hlast]
      go_wp2_with fail
      go_ret
      exact ⟨rfl, hb12.trans (hB.mono hb12.size)⟩
end Go.Proofs.YtdflokjpgbeniaaDoor
