/-
  The contract of plain.Split, over the seat's program, of any bytes that have up to nine hundred marks.
-/
import Derived.Test.YtjpmomklkkifjaaGreatDoorCWide
import Derived.Test.YtjpmomklkkifjaaGreatDoorCStableB
namespace Go.Proofs.YtjpmomklkkifjaaGreatDoor
open Go.RowKit
set_option maxRecDepth 100000

set_option maxRecDepth 100000 in
theorem writeMarks2_calls (B b : Nat) (acc : List UInt8) (ms : List Int) (v : Value) (w : World) (hI : Lib.IsBuilderF 145 5 B b (Lib.byteCells acc) w) (hlen : acc.length + 4000 ≤ 140737488355328) (hBw : B ≤ w.heap.size)
    (h : w.ownsRow B 21 1 v ms.length (ms.map (Value.int .i32))) (hm : ∀ a ∈ ms, Mark a) (hn : ms.length ≤ 900) :
    Calls Tryz.prog 93 #[.pointer (some ⟨b, 0, none⟩), v] w fun e w' => e = .returned (.tuple #[]) ∧ Lib.IsBuilderF 145 5 B b (Lib.byteCells (acc ++ encL (sortM ms))) w' ∧
      w'.ownsRow B 21 1 v ms.length ((sortM ms).map (Value.int .i32)) ∧ Below B w w' ∧ Kept b v.ownBlock w w' := by
  have hs := sort_owns3 B ms v w h hm (by omega)
  have hvne := owns_ne_builder h hI (by decide)
  have hkind := owns_kind h
  have hlt := fun g hg => (h.lt g hg).1
  have hm' : ∀ a ∈ sortM ms, Mark a := fun a ha => hm a ((sortM_mem _ _).1 ha)
  have hl' := sortM_length ms
  have hv : ∃ p cap, v = .slice p ms.length cap ∧ (ms.length = 0 ∨ ∃ g, p = some ⟨g, 0, none⟩) := by
    rcases h.2 with ⟨rfl, hz⟩ | ⟨g, cap, cur, rfl, _⟩
    · exact ⟨none, 0, by rw [hz], .inl hz⟩
    · exact ⟨_, cap, rfl, .inr ⟨g, rfl⟩⟩
  obtain ⟨p, cap, hve, hp⟩ := hv
  generalize sortM ms = ss at *
  clear hm h
  generalize hnn : ms.length = n at *
  have hle63 : (n : Int) ≤ 900 := by omega
  subst hve
  have HI := hide hI
  have HK := hide hkind
  have HL := hide hlt
  have Hm := hide hm'
  have Hl := hide hl'
  clear hI hkind hlt hm' hl' hnn
  go_enter Tryz.func93, Tryz.ntmps93
  go_wp2_with fail
  refine hs.mono ?_
  rintro e w1 ⟨rfl, ho1, hg1⟩
  clear hs
  have hb1 := below_grown hg1 hBw (unhide HL)
  have hI1 := builder_grown (unhide HI) hg1 (fun g hg => by
    obtain ⟨c, hc⟩ := unhide HK g hg
    exact ⟨c, 21, (0, 0), hc, by decide, by decide⟩)
  have hk1 : Kept b (Value.slice p n cap).ownBlock w w1 := Kept.grown hg1
  have hs1 := hg1.size
  clear hg1
  go_wp2_with fail
  go_loopg [10] (n + 1) (fun k i wr => ∃ j : Nat, j ≤ n ∧ k = n + 1 - j ∧ i = .int .i64 j ∧ Hid (Lib.IsBuilderF 145 5 B b (Lib.byteCells (acc ++ encL (ss.take j))) wr) ∧ Hid (wr.ownsRow B 21 1 (.slice p n cap) n (ss.map (Value.int .i32))) ∧ Below B w wr ∧ Hid (Kept b (Value.slice p n cap).ownBlock w wr))
  case atStart => exact ⟨0, by omega, rfl, rfl, by rw [List.take_zero, encL_nil, List.append_nil]; exact hI1, ho1, hb1, hk1⟩
  case round =>
    obtain ⟨j, hj, hk, rfl, HIr, HOr, hBr, HKr⟩ := hrel
    have hBs : B ≤ wr.heap.size := Nat.le_trans hBw hBr.size
    by_cases hjn : j < n
    · obtain ⟨g, rfl⟩ : ∃ g, p = some ⟨g, 0, none⟩ := by
        rcases hp with h0 | h0
        · omega
        · exact h0
      have hjs : j < ss.length := by have := unhide Hl; omega
      obtain ⟨x, Hx⟩ : ∃ x, Hid (ss[j]? = some x) := ⟨_, List.getElem?_eq_getElem hjs⟩
      have hxm : Mark x := unhide Hm x (List.mem_of_getElem? (unhide Hx))
      have hxr := mark_range hxm
      have hcell : wr.cell? ⟨g, j, none⟩ = some (.int .i32 x) := by
        have := (unhide HOr).cells (g := g) rfl j (.int .i32 x) (by rw [List.getElem?_map, unhide Hx]; rfl)
        rwa [add_addr] at this
      have hjz : (j : Int) < (n : Int) := by omega
      have htl : (encL (ss.take j)).length ≤ 2 * j := by
        have h1 := (encL_len (ss.take j) (fun r hr => mark_small (unhide Hm r (List.mem_of_mem_take hr)))).2
        have h2 : (ss.take j).length ≤ j := by rw [List.length_take]; omega
        omega
      have hW := writeRune_k B b (Lib.byteCells (acc ++ encL (ss.take j))) x (by omega) (by omega) wr (unhide HIr) (by rw [Lib.byteCells_length, List.length_append]; omega) hBs
      clear hxm hj hI1 ho1 hb1 hk1 hs1 hxr htl hjs
      go_wp2_with fail
      refine hW.mono ?_
      rintro e w2 ⟨rfl, h2, b2, k2⟩
      go_wp2
      go_roundg (n - j)
      case measure => omega
      case rel =>
        refine ⟨j + 1, by omega, by omega, by simp, ?_, ?_, hBr.trans b2, (unhide HKr).trans (Kept.others k2)⟩
        · have e1 : ss.take (j + 1) = ss.take j ++ [x] := by rw [List.take_add_one, unhide Hx]; rfl
          rw [e1, encL_append, encL_one, ← List.append_assoc, Lib.byteCells_append, Lib.byteCells_encodeRune]
          exact Or.inr h2
        · exact owns_others (unhide HOr) k2 hvne (by decide)
    · have hjz : ¬ (j : Int) < (n : Int) := by omega
      have hjl : ss.take j = ss := List.take_of_length_le (by have := unhide Hl; omega)
      have Hjl := hide hjl
      clear hjl
      go_wp2
      go_end0
      refine ⟨rfl, ?_, unhide HOr, hBr, unhide HKr⟩
      have := unhide HIr
      rw [unhide Hjl] at this
      exact this
set_option maxRecDepth 100000 in
set_option maxHeartbeats 1000000 in
theorem plainSplitW_calls (s : ByteArray) (rs : List Int) (w : World) (hRd : Reads s.data.toList rs) (hT : HasTab w) (hs : ∀ r ∈ rs, WideR r) (hl : rs.length ≤ 1000) (hm : marks (partsL rs) ≤ 900) :
    Calls Tryz.prog 52 #[.string s] w fun e w' => e = .returned (.string (encS (splitL rs))) ∧ Below w.heap.size w w' := by
  obtain ⟨i0, hi, hz0, hz1, hz2⟩ := info_parts info21
  have hsz3 := hT.size
  have HS := hide hs
  have HM := hide hm
  clear hs hm
  go_enter Tryz.func52, Tryz.ntmps52
  go_wp2_with fail
  go_loopg [4] (rs.length + 1) (fun k v wr => ∃ (pos : Nat) (done rest : List Int), k = rest.length + 1 ∧ Hid (rs = done ++ rest) ∧ Hid (Reads (s.data.toList.drop pos) rest) ∧ SplitSt w s w.heap.size wr pos v (runS (partsL done)))
  case atStart =>
    refine ⟨0, [], rs, rfl, rfl, hRd, ⟨(Lib.IsBuilderF.of (Lib.fresh_isBuilder 145 5 w)).alloc _, ?_, ((Below.refl _ w).alloc (Nat.le_refl _) _).alloc (by simp) _, World.ownsRow_nil _ _ _ _⟩⟩
    have := World.iter_heap (w.alloc (.cells #[.pointer none, .slice none 0 0] 145)) s 0
    simpa using this
  case round =>
    obtain ⟨pos, done, rest, hk, HR, HRd, hst⟩ := hrel
    have hBs : w.heap.size + 1 < wr.heap.size := (Array.getElem?_eq_some_iff.1 hst.it).1
    have hf := runS_facts (partsL done)
    have hpl := partsL_len done
    have hlen : (encL (runS (partsL done)).1).length ≤ 8000 := by
      have h1 := (encL_lenW (runS (partsL done)).1).2
      have h2 := hf.2.2.1
      have h3 : done.length ≤ rs.length := by rw [unhide HR]; simp
      omega
    cases rest with
    | nil =>
      have hrs : rs = done := by have := unhide HR; simpa using this
      have hnl : ¬ pos < s.size := by
        have h1 : s.data.toList.drop pos = [] := unhide HRd
        have h2 := List.drop_eq_nil_iff.1 h1
        have h3 : s.data.toList.length = s.size := Array.length_toList
        omega
      have hnx : ∀ ty, (Instr.next (.pointer (some ⟨w.heap.size + 1, 0, none⟩)) true ty).run Tryz.prog wr = _ := fun ty => Lib.run_next_end_at wr (w.heap.size + 1) s pos ty hst.it hnl
      have hmk : (runS (partsL done)).2.length ≤ 900 := by have := unhide HM; rw [hrs] at this; omega
      have hW := writeMarks2_calls w.heap.size w.heap.size (encL (runS (partsL done)).1) (runS (partsL done)).2 u4 wr hst.bld (by omega) (by omega) hst.own hf.1 hmk
      have Hfin : Hid (encL (runS (partsL done)).1 ++ encL (sortM (runS (partsL done)).2) = encL (splitL rs)) := by
        show _ = _
        rw [hrs, ← encL_append]
        rfl
      have hbel := hst.bel
      clear hst hf hpl hlen hnl hmk hrs
      generalize encL (runS (partsL done)).1 ++ encL (sortM (runS (partsL done)).2) = out at *
      go_wp2_with fail
      refine hW.mono ?_
      rintro e w1 ⟨rfl, hI1, _, hb1, _⟩
      go_wp2_with fail
      refine (string_k w.heap.size w.heap.size out w1 hI1 (by have := hb1.size; omega)).mono ?_
      rintro e w2 ⟨rfl, _, hb2, _⟩
      go_wp2
      go_ret
      rw [unhide Hfin]
      exact ⟨rfl, (hbel.trans hb1).trans hb2⟩
    | cons r rest =>
      have hsm : WideR r := unhide HS r (by rw [unhide HR]; simp)
      obtain ⟨hne, hd1, hd2, hRd2⟩ := unhide HRd
      obtain ⟨_, hwd1, hwd2, _⟩ := decodeL_wide hne
      have hdec : Utf8.decode s pos = (r.toNat, (Lib.decodeL (s.data.toList.drop pos)).2) := by
        rw [← Lib.decodeL_drop]
        exact Prod.ext hd1 rfl
      have hp : pos < s.size := by
        have h3 : s.data.toList.length = s.size := Array.length_toList
        rw [List.length_drop] at hwd2
        omega
      obtain ⟨pos', Hpos⟩ : ∃ pos', Hid (pos' = pos + (Lib.decodeL (s.data.toList.drop pos)).2) := ⟨_, rfl⟩
      have HRd2 : Hid (Reads (s.data.toList.drop pos') rest) := by
        show Reads _ _
        rw [unhide Hpos, ← List.drop_drop]
        exact hRd2
      have hnx : ∀ ty, (Instr.next (.pointer (some ⟨w.heap.size + 1, 0, none⟩)) true ty).run Tryz.prog wr = .ok (.tuple #[.bool true, .int .i64 pos, .int .i32 r]) (wr.iterAt (w.heap.size + 1) s pos') := fun ty => by
        have h1 := Lib.run_next_any_at (P := Tryz.prog) wr (w.heap.size + 1) s pos ty hst.it hp
        rw [hdec] at h1
        rw [h1, unhide Hpos, Int.toNat_of_nonneg hsm.1]
      have hst0 := hst.next pos'
      have hT0 : HasTab (wr.iterAt (w.heap.size + 1) s pos') := hT.later hst0.bel hsz3
      have hS := split_calls r _ hT0
      have hsz0 : (wr.iterAt (w.heap.size + 1) s pos').heap.size = wr.heap.size := Lib.iterAt_size _ _ _ _
      clear hst hdec hp hT0 hne hd1 hd2 hRd2 hwd1 hwd2 HRd
      generalize wr.iterAt (w.heap.size + 1) s pos' = w0 at *
      go_wp2_with fail
      refine hS.mono ?_
      rintro e w1 ⟨bk, rfl, hb1, hge, hlt, hrow⟩
      have hst1 := hst0.later hb1 (by omega)
      have hlen2 := splitZ_len r
      have hps : Hid (∀ p ∈ splitZ r, WideR p) := splitZ_wide hsm
      have hlast : Hid (∀ j x, (splitZ r)[j]? = some x → classZ x ≠ 0 → j + 1 = (splitZ r).length) := splitZ_last r
      have hmk2 : Hid (∀ j, (runS (partsL done ++ (splitZ r).take j)).2.length ≤ 900) := fun j => by
        have h1 := (runS_facts (partsL done ++ (splitZ r).take j)).2.1
        have h2 := unhide HM
        rw [unhide HR, show done ++ r :: rest = (done ++ [r]) ++ rest by simp] at h2
        simp only [partsL, List.flatMap_append, List.flatMap_cons, List.flatMap_nil, List.append_nil, marks_append] at h2 h1 ⊢
        have h3 : marks ((splitZ r).take j) ≤ marks (splitZ r) := by
          have := marks_append ((splitZ r).take j) ((splitZ r).drop j)
          rw [List.take_append_drop] at this
          omega
        omega
      have Hend : Hid (partsL (done ++ [r]) = partsL done ++ splitZ r) := partsL_snoc done r
      have HR2 : Hid (rs = (done ++ [r]) ++ rest) := by
        show _ = _
        rw [unhide HR]
        simp
      have hvb : u4.ownBlock ≠ some bk := fun e => by
        have := (hst0.own.lt bk e).2
        omega
      have hlen3 : Hid (∀ j, (encL (runS (partsL done ++ (splitZ r).take j)).1).length ≤ 16000) := fun j => by
        have h0 := runS_facts (partsL done ++ (splitZ r).take j)
        have h1 := (encL_lenW (runS (partsL done ++ (splitZ r).take j)).1).2
        have h2 := h0.2.2.1
        have h3 : done.length ≤ rs.length := by rw [unhide HR]; simp
        have h4 : ((splitZ r).take j).length ≤ 2 := by rw [List.length_take]; omega
        rw [List.length_append] at h2
        omega
      have hmks : Hid (∀ j, ∀ a ∈ (runS (partsL done ++ (splitZ r).take j)).2, Mark a) := fun j => (runS_facts _).1
      have hB1 : w.heap.size + 1 < w1.heap.size := by have := hb1.size; omega
      clear hst0 hS hf hpl hlen hnx
      generalize splitZ r = ps at *
      generalize partsL done = pd at *
      go_wp2_with fail
      go_loopg [4, 17] (ps.length + 1) (fun k2 v i wi => ∃ j : Nat, j ≤ ps.length ∧ k2 = ps.length + 1 - j ∧ i = .int .i64 j ∧ SplitSt w s w.heap.size wi pos' v (runS (pd ++ ps.take j)) ∧ Hid (j < ps.length → wi.heap[bk]? = some (.cells (ps.map (Value.int .i32)).toArray 21) ∧ v.ownBlock ≠ some bk))
      case atStart => exact ⟨0, Nat.zero_le _, rfl, rfl, by rw [List.take_zero, List.append_nil]; exact hst1, fun _ => ⟨hrow, hvb⟩⟩
      case round =>
        obtain ⟨j, hj, hk2, rfl, hsj, HRow⟩ := hrel
        by_cases hjn : j < ps.length
        · have hjz : (j : Int) < (ps.length : Int) := by omega
          have hrw := unhide HRow hjn
          obtain ⟨x, Hx⟩ : ∃ x, Hid (ps[j]? = some x) := ⟨_, List.getElem?_eq_getElem hjn⟩
          have hcell : wr.cell? ⟨bk, j, none⟩ = some (.int .i32 x) := by
            rw [cell_of_row _ _ _ _ _ _ hrw.1]
            simp [List.getElem?_map, unhide Hx]
          have hxs := unhide hps x (List.mem_of_getElem? (unhide Hx))
          have hx0 := hxs.1
          have hx1 := hxs.2
          have Hnext : Hid (runS (pd ++ ps.take (j + 1)) = stepS (runS (pd ++ ps.take j)) x) := by
            show _ = _
            rw [List.take_add_one, unhide Hx, ← runS_snoc]
            simp
          have hBw : w.heap.size + 1 < wr.heap.size := (Array.getElem?_eq_some_iff.1 hsj.it).1
          by_cases hc : classZ x = 0
          · have Hst : Hid (stepS (runS (pd ++ ps.take j)) x = ((runS (pd ++ ps.take j)).1 ++ sortM (runS (pd ++ ps.take j)).2 ++ [x], [])) := by
              show _ = _
              unfold stepS
              rw [if_pos hc]
            have hC := class_calls x wr
            rw [hc] at hC
            have hW := writeMarks2_calls w.heap.size w.heap.size (encL (runS (pd ++ ps.take j)).1) (runS (pd ++ ps.take j)).2 u4 wr hsj.bld (by have := unhide hlen3 j; omega) (by omega) hsj.own (unhide hmks j) (unhide hmk2 j)
            have hlenj := unhide hlen3 j
            have hmj := unhide hmk2 j
            have hsh : (∃ g cap, u4 = .slice (some ⟨g, 0, none⟩) (runS (pd ++ ps.take j)).2.length cap) ∨ (u4 = .slice none 0 0 ∧ (runS (pd ++ ps.take j)).2 = []) := by
              rcases hsj.own.2 with ⟨h1, h2⟩ | ⟨g, cap, cur, h1, _⟩
              · exact .inr ⟨h1, List.eq_nil_of_length_eq_zero h2⟩
              · exact .inl ⟨g, cap, h1⟩
            have hit := hsj.it
            have hbj := hsj.bel
            have hmm := unhide hmks j
            have hkind := owns_kind hsj.own
            have hvne2 := owns_ne_builder hsj.own hsj.bld (by decide)
            clear hc hsj
            generalize (runS (pd ++ ps.take j)).1 = a at *
            generalize (runS (pd ++ ps.take j)).2 = m at *
            have hml : (m.length : Int) ≤ 900 := by omega
            have hlen5 : (encL (a ++ sortM m)).length + 4 ≤ 140737488355328 := by
              have h1 := (encL_lenW (sortM m)).2
              rw [sortM_length] at h1
              rw [encL_append, List.length_append]
              omega
            rcases hsh with ⟨g, cap, hu⟩ | ⟨hu, hm0⟩
            · have hgk0 := hkind g (by rw [hu]; rfl)
              rw [hu] at hW hrw hvne2 ⊢
              go_wp2_with fail
              refine hC.mono ?_
              rintro e wx ⟨rfl, hwx⟩
              have hwx := hwx.symm
              subst hwx
              go_wp2_with fail
              refine hW.mono ?_
              rintro e w2 ⟨rfl, hI2, hO2, hb2, hk2'⟩
              have hI2' : Lib.IsBuilderF 145 5 w.heap.size w.heap.size (Lib.byteCells (encL (a ++ sortM m))) w2 := by rw [encL_append]; exact hI2
              have hR := writeRune_k w.heap.size w.heap.size (Lib.byteCells (encL (a ++ sortM m))) x (by omega) (by omega) w2 hI2' (by rw [Lib.byteCells_length]; exact hlen5) (by have := hb2.size; omega)
              go_wp2_with fail
              refine hR.mono ?_
              rintro e w3 ⟨rfl, hI3, hb3, hk3⟩
              go_wp2
              go_roundg (ps.length - j)
              case measure => omega
              case rel =>
                have hbl : ∀ k o, wr.heap[k]? = some o → k ≠ w.heap.size → some k ≠ some g → (∀ c fz, o ≠ .cells c 5 fz) → w3.heap[k]? = some o := fun k o h1 h2 h3 h4 => hk3 k o (hk2' k o h1 h2 h3 h4) (fun e => h2 (Option.some.inj e)) h4
                refine ⟨j + 1, by omega, by omega, by simp, ?_, fun hlt2 => ⟨?_, hrw.2⟩⟩
                · rw [unhide Hnext, unhide Hst]
                  refine ⟨?_, ?_, (hbj.trans hb2).trans hb3, ?_⟩
                  · show Lib.IsBuilderF 145 5 w.heap.size w.heap.size (Lib.byteCells (encL (a ++ sortM m ++ [x]))) w3
                    rw [encL_append (a ++ sortM m) [x], encL_one, Lib.byteCells_append, Lib.byteCells_encodeRune]
                    exact Or.inr hI3
                  · refine hbl _ _ hit (by omega) ?_ (fun _ _ e => by cases e)
                    intro e
                    have e1 : w.heap.size + 1 = g := Option.some.inj e
                    rw [e1] at hit
                    obtain ⟨c, hc⟩ := hgk0
                    rw [hit] at hc
                    cases hc
                  · have h5 := owns_others hO2 hk3 (by exact hvne2) (by decide)
                    obtain ⟨_, h6⟩ := h5
                    refine ⟨rfl, ?_⟩
                    rcases h6 with ⟨h7, _⟩ | ⟨g', cap', cur', h7, h8, h9, h10, h11, h12, _⟩
                    · cases h7
                    · simp only [Value.slice.injEq, Option.some.injEq, Addr.mk.injEq, true_and, and_true] at h7
                      obtain ⟨rfl, rfl⟩ := h7
                      exact .inr ⟨g, cap, cur', rfl, h8, h9, Nat.zero_le _, h11, h12, by simp⟩
                · exact hbl _ _ hrw.1 (by omega) (fun e => hrw.2 e.symm) (fun c fz e => by simp only [Obj.cells.injEq] at e; exact absurd e.2.1 (by decide))
            · rw [hu] at hW hrw hvne2 ⊢
              go_wp2_with fail
              refine hC.mono ?_
              rintro e wx ⟨rfl, hwx⟩
              have hwx := hwx.symm
              subst hwx
              go_wp2_with fail
              refine hW.mono ?_
              rintro e w2 ⟨rfl, hI2, hO2, hb2, hk2'⟩
              have hI2' : Lib.IsBuilderF 145 5 w.heap.size w.heap.size (Lib.byteCells (encL (a ++ sortM m))) w2 := by rw [encL_append]; exact hI2
              have hR := writeRune_k w.heap.size w.heap.size (Lib.byteCells (encL (a ++ sortM m))) x (by omega) (by omega) w2 hI2' (by rw [Lib.byteCells_length]; exact hlen5) (by have := hb2.size; omega)
              go_wp2_with fail
              refine hR.mono ?_
              rintro e w3 ⟨rfl, hI3, hb3, hk3⟩
              go_wp2
              go_roundg (ps.length - j)
              case measure => omega
              case rel =>
                have hbl : ∀ k o, wr.heap[k]? = some o → k ≠ w.heap.size → (∀ c fz, o ≠ .cells c 5 fz) → w3.heap[k]? = some o := fun k o h1 h2 h4 => hk3 k o (hk2' k o h1 h2 (fun e => by cases e) h4) (fun e => h2 (Option.some.inj e)) h4
                refine ⟨j + 1, by omega, by omega, by simp, ?_, fun hlt2 => ⟨?_, hrw.2⟩⟩
                · rw [unhide Hnext, unhide Hst]
                  refine ⟨?_, ?_, (hbj.trans hb2).trans hb3, ?_⟩
                  · show Lib.IsBuilderF 145 5 w.heap.size w.heap.size (Lib.byteCells (encL (a ++ sortM m ++ [x]))) w3
                    rw [encL_append (a ++ sortM m) [x], encL_one, Lib.byteCells_append, Lib.byteCells_encodeRune]
                    exact Or.inr hI3
                  · exact hbl _ _ hit (by omega) (fun _ _ e => by cases e)
                  · exact World.ownsRow_nil _ _ _ _
                · exact hbl _ _ hrw.1 (by omega) (fun c fz e => by simp only [Obj.cells.injEq] at e; exact absurd e.2.1 (by decide))
          · have Hst : Hid (stepS (runS (pd ++ ps.take j)) x = ((runS (pd ++ ps.take j)).1, (runS (pd ++ ps.take j)).2 ++ [x])) := by
              show _ = _
              unfold stepS
              rw [if_neg hc]
            have Hlast := hide (unhide hlast j x (unhide Hx) hc)
            have hC := class_calls x wr
            have hcne : (classZ x == 0) = false := by simpa using hc
            have hcne2 : (classZ x != 0) = true := by simpa using hc
            have hmj := unhide hmk2 j
            have Hown := hide hsj.own
            have Hst0 := hide hsj
            have hbj := hsj.bel
            clear hc hsj hrow hst1
            generalize classZ x = cx at *
            generalize hmlen : (runS (pd ++ ps.take j)).2.length = nm at *
            have HML := hide hmlen
            clear hmlen
            go_wp2_with fail
            refine hC.mono ?_
            rintro e wx ⟨rfl, hwx⟩
            have hwx := hwx.symm
            subst hwx
            go_wp2_with (at_builtin; refine wpList_append_own _ rfl _ _ 93 rfl w.heap.size 21 i0 (.int .i32 0) 1 4 Tryz.underlying93 hi hz0 hz1 hz2 rfl (by decide) _ _ _ rfl ((unhide Hown).alloc _) ⟨wr.heap.size, 0, none⟩ 1 1 [.int .i32 x] rfl rfl (cell_one_new _ _ _) (fun y hy => by simp at hy; subst hy; rfl) (by unfold maxLen; omega) (by omega) (by simp; omega) ?_; intro v' w3 hown' hgrow3 hnil3)
            go_roundg (ps.length - j)
            case measure => omega
            case rel =>
              have hlast' := unhide Hlast
              refine ⟨j + 1, by omega, by omega, by simp, ?_, fun hlt2 => by omega⟩
              rw [unhide Hnext, unhide Hst]
              have hst2 := (unhide Hst0).later ((Below.refl _ wr).alloc (Nat.le_refl _) (.cells #[Value.int .i32 x] 21)) (by omega)
              have hkd := owns_kind hst2.own
              refine ⟨builder_grown hst2.bld hgrow3 (fun g hg => ?_), ?_, hst2.bel.trans (below_grown hgrow3 (by simp; omega) (fun g hg => (hst2.own.lt g hg).1)), ?_⟩
              · obtain ⟨c, hc⟩ := hkd g hg
                exact ⟨c, 21, (0, 0), hc, by decide, by decide⟩
              · rw [hgrow3.block _ (by simp; omega) ?_]
                · exact hst2.it
                · intro e
                  obtain ⟨c, hc⟩ := hkd _ e.symm
                  rw [hst2.it] at hc
                  cases hc
              · rw [← unhide HML] at hown'
                simpa using hown'
        · have hjz : ¬ (j : Int) < (ps.length : Int) := by omega
          have hje : ps.take j = ps := List.take_of_length_le (by omega)
          have hsj' := hsj
          rw [hje] at hsj'
          clear hsj hje
          go_wp2
          go_roundg (rest.length + 1)
          case measure => omega
          case rel => exact ⟨pos', done ++ [r], rest, rfl, HR2, HRd2, by rw [unhide Hend]; exact hsj'⟩
end Go.Proofs.YtjpmomklkkifjaaGreatDoor
