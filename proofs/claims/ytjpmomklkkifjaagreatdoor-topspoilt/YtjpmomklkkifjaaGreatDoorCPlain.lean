import Derived.Test.YtjpmomklkkifjaaGreatDoorCWrite
import Derived.Test.YtjpmomklkkifjaaGreatDoorCSignsWalk
import Derived.Shelf.Strings.BuilderK
import Derived.Outline
set_option maxRecDepth 100000
set_option linter.unusedVariables false
set_option linter.unusedSimpArgs false
namespace Go.Proofs.YtjpmomklkkifjaaGreatDoor
open Go.RowKit
def stepS (st : List Int × List Int) (p : Int) : List Int × List Int := if classZ p = 0 then (st.1 ++ sortM st.2 ++ [p], []) else (st.1, st.2 ++ [p])
def runS (ps : List Int) : List Int × List Int := ps.foldl stepS ([], [])
def partsL (rs : List Int) : List Int := rs.flatMap splitZ
def splitL (rs : List Int) : List Int := (runS (partsL rs)).1 ++ sortM (runS (partsL rs)).2
def marks (ps : List Int) : Nat := (ps.filter (fun p => classZ p != 0)).length
theorem runS_snoc (ps : List Int) (p : Int) : runS (ps ++ [p]) = stepS (runS ps) p := by simp [runS]
theorem partsL_snoc (rs : List Int) (r : Int) : partsL (rs ++ [r]) = partsL rs ++ splitZ r := by simp [partsL]
theorem marks_append (a b : List Int) : marks (a ++ b) = marks a + marks b := by simp [marks]
theorem mark_of_class {p : Int} (h : classZ p ≠ 0) : Mark p := by
  rcases class_vals p with h1 | h1 | h1
  · exact absurd h1 h
  · exact .inl h1
  · exact .inr h1
theorem runS_facts (ps : List Int) : (∀ a ∈ (runS ps).2, Mark a) ∧ (runS ps).2.length ≤ marks ps ∧ (runS ps).1.length + (runS ps).2.length = ps.length ∧ (∀ a, a ∈ (runS ps).1 ++ (runS ps).2 → a ∈ ps) := by
  suffices h : ∀ (l : List Int), l.reverse = ps → _ from h ps.reverse (by simp)
  intro l
  induction l generalizing ps with
  | nil =>
    intro h
    simp at h
    subst h
    simp [runS]
  | cons p l ih =>
    intro h
    have hp : ps = l.reverse ++ [p] := by rw [← h]; simp
    obtain ⟨h1, h2, h3, h4⟩ := ih l.reverse rfl
    rw [hp, runS_snoc, marks_append]
    unfold stepS
    by_cases hc : classZ p = 0
    · rw [if_pos hc]
      refine ⟨by simp, by simp, ?_, ?_⟩
      · simp only [List.length_append, List.length_cons, List.length_nil, sortM_length]
        omega
      · intro a ha
        simp only [List.append_nil, List.mem_append, List.mem_singleton, sortM_mem] at ha h4 ⊢
        rcases ha with (ha | ha) | ha
        · exact .inl (h4 a (.inl ha))
        · exact .inl (h4 a (.inr ha))
        · exact .inr ha
    · rw [if_neg hc]
      have hm : marks [p] = 1 := by simp [marks, hc]
      refine ⟨?_, ?_, ?_, ?_⟩
      · intro a ha
        rcases List.mem_append.1 ha with ha | ha
        · exact h1 a ha
        · simp at ha; subst ha; exact mark_of_class hc
      · simp only [List.length_append, List.length_cons, List.length_nil]
        omega
      · simp only [List.length_append, List.length_cons, List.length_nil]
        omega
      · intro a ha
        simp only [List.mem_append, List.mem_singleton] at ha h4 ⊢
        rcases ha with ha | ha | ha
        · exact .inl (h4 a (.inl ha))
        · exact .inl (h4 a (.inr ha))
        · exact .inr ha
theorem tab_small : ∀ x ∈ tab, (0 ≤ x.2.1 ∧ x.2.1 < 128) ∧ (768 ≤ x.2.2 ∧ x.2.2 < 2048) := by decide +kernel
theorem splitZ_small {r : Int} (h : SmallR r) : ∀ p ∈ splitZ r, SmallR p := by
  intro p hp
  unfold splitZ at hp
  cases hB : wholeB r with
  | false => rw [hB] at hp; simp at hp; subst hp; exact h
  | true =>
    rw [hB] at hp
    obtain ⟨hm, _⟩ := whole_mem r hB
    have := tab_small _ hm
    simp at hp
    rcases hp with rfl | rfl
    · exact ⟨by omega, by omega⟩
    · exact ⟨by omega, by omega⟩
theorem splitZ_last (r : Int) : ∀ j x, (splitZ r)[j]? = some x → classZ x ≠ 0 → j + 1 = (splitZ r).length := by
  intro j x hx hc
  unfold splitZ at hx ⊢
  cases hB : wholeB r with
  | false =>
    rw [hB] at hx
    cases j with
    | zero => rfl
    | succ j => simp at hx
  | true =>
    rw [hB] at hx
    obtain ⟨hm, _⟩ := whole_mem r hB
    have := base_class _ (tab_facts _ hm).2.2.1
    match j with
    | 0 =>
      simp at hx
      subst hx
      exact absurd this hc
    | 1 => rfl
    | j + 2 => simp at hx
theorem partsL_small {rs : List Int} (h : ∀ r ∈ rs, SmallR r) : ∀ p ∈ partsL rs, SmallR p := by
  intro p hp
  obtain ⟨r, hr, hp⟩ := List.mem_flatMap.1 hp
  exact splitZ_small (h r hr) p hp
theorem splitZ_len (r : Int) : 1 ≤ (splitZ r).length ∧ (splitZ r).length ≤ 2 := by
  unfold splitZ
  split <;> simp
theorem partsL_len (rs : List Int) : (partsL rs).length ≤ 2 * rs.length := by
  induction rs with
  | nil => simp [partsL]
  | cons r rs ih =>
    have := splitZ_len r
    simp only [partsL, List.flatMap_cons, List.length_append, List.length_cons] at ih ⊢
    omega
structure SplitSt (w : World) (s : ByteArray) (B : Nat) (wr : World) (pos : Nat) (v : Value) (st : List Int × List Int) : Prop where
  bld : Lib.IsBuilderF 145 5 B B (Lib.byteCells (encL st.1)) wr
  it : wr.heap[B + 1]? = some (.stringIter s pos)
  bel : Below B w wr
  own : wr.ownsRow B 21 1 v st.2.length (st.2.map (Value.int .i32))
theorem grown_of_below {w w' : World} (h : Below w.heap.size w w') (row : Option Nat) : w.grownBy w' row :=
  ⟨h.os, h.tape, h.output, h.size, fun k hk _ => h.block k hk⟩
theorem SplitSt.later {w wr w1 : World} {s : ByteArray} {B pos : Nat} {v : Value} {st : List Int × List Int} (h : SplitSt w s B wr pos v st) (hb : Below wr.heap.size wr w1) (hB : B ≤ wr.heap.size) : SplitSt w s B w1 pos v st where
  bld := builder_grown h.bld (grown_of_below hb none) (fun g hg => by cases hg)
  it := (hb.block _ (Array.getElem?_eq_some_iff.1 h.it).1).trans h.it
  bel := h.bel.trans (hb.mono hB)
  own := h.own.kept (grown_of_below hb none) (by cases hv : v.ownBlock <;> simp)
theorem owns_iterAt {w : World} {base : Nat} {v : Value} {n : Nat} {xs : List Value} (h : w.ownsRow base 21 1 v n xs) {k : Nat} {s : ByteArray} {pos : Nat} (hk : w.heap[k]? = some (.stringIter s pos)) (p : Nat) : (w.iterAt k s p).ownsRow base 21 1 v n xs := by
  obtain ⟨h1, h2⟩ := h
  refine ⟨h1, ?_⟩
  rcases h2 with h2 | ⟨g, cap, cur, a, b, c, d⟩
  · exact .inl h2
  · refine .inr ⟨g, cap, cur, a, b, ?_, d⟩
    have hne : g ≠ k := by
      intro e
      rw [e, hk] at c
      cases c
    rw [Lib.iterAt_other _ _ _ _ _ hne]
    exact c
theorem SplitSt.next {w wr : World} {s : ByteArray} {B pos : Nat} {v : Value} {st : List Int × List Int} (h : SplitSt w s B wr pos v st) (pos' : Nat) : SplitSt w s B (wr.iterAt (B + 1) s pos') pos' v st where
  bld := h.bld.iterAt h.it pos'
  it := Lib.iterAt_heap _ _ _ _ _ h.it
  bel := Lib.below_iterAt h.bel (by omega) _ _
  own := owns_iterAt h.own h.it pos'
theorem info21 : (Tryz.prog.info? 21).map (fun i => (i.zero, i.size, i.bytes)) = some (some (.int .i32 0), 1, 4) := by kernel_rfl
set_option maxRecDepth 100000 in
set_option maxHeartbeats 1000000 in
theorem plainSplit_calls (rs : List Int) (w : World) (hT : HasTab w) (hs : ∀ r ∈ rs, SmallR r) (hl : rs.length ≤ 1000) (hm : marks (partsL rs) < 20) :
    Calls Tryz.prog 52 #[.string (encS rs)] w fun e w' => e = .returned (.string (encS (splitL rs))) ∧ Below w.heap.size w w' := by
  obtain ⟨i0, hi, hz0, hz1, hz2⟩ := info_parts info21
  have hsz3 := hT.size
  have HS := hide hs
  have HM := hide hm
  clear hs hm
  go_enter Tryz.func52, Tryz.ntmps52
  go_wp2_with fail
  go_loopg [4] (rs.length + 1) (fun k v wr => ∃ (done rest : List Int), k = rest.length + 1 ∧ Hid (rs = done ++ rest) ∧ SplitSt w (encS rs) w.heap.size wr (encL done).length v (runS (partsL done)))
  case atStart =>
    refine ⟨[], rs, rfl, rfl, ⟨(Lib.IsBuilderF.of (Lib.fresh_isBuilder 145 5 w)).alloc _, ?_, ((Below.refl _ w).alloc (Nat.le_refl _) _).alloc (by simp) _, World.ownsRow_nil _ _ _ _⟩⟩
    have := World.iter_heap (w.alloc (.cells #[.pointer none, .slice none 0 0] 145)) (encS rs) 0
    simpa [encL] using this
  case round =>
    obtain ⟨done, rest, hk, HR, hst⟩ := hrel
    have hBs : w.heap.size + 1 < wr.heap.size := (Array.getElem?_eq_some_iff.1 hst.it).1
    have hf := runS_facts (partsL done)
    have hpl := partsL_len done
    have hlen : (encL (runS (partsL done)).1).length ≤ 4000 := by
      have hsm : ∀ r ∈ done, SmallR r := fun x hx => unhide HS x (by rw [unhide HR]; simp [hx])
      have h1 := (encL_len (runS (partsL done)).1 (fun p hp => partsL_small hsm p (hf.2.2.2 p (by simp [hp])))).2
      have h2 := hf.2.2.1
      have h3 : done.length ≤ rs.length := by rw [unhide HR]; simp
      omega
    cases rest with
    | nil =>
      have hrs : rs = done := by have := unhide HR; simpa using this
      have hnl : ¬ (encL done).length < (encS rs).size := by rw [encS_size, hrs]; omega
      have hnx : ∀ ty, (Instr.next (.pointer (some ⟨w.heap.size + 1, 0, none⟩)) true ty).run Tryz.prog wr = _ := fun ty => Lib.run_next_end_at wr (w.heap.size + 1) (encS rs) (encL done).length ty hst.it hnl
      have hmk : (runS (partsL done)).2.length < 20 := by have := unhide HM; rw [hrs] at this; omega
      have hW := writeMarks_calls w.heap.size w.heap.size (encL (runS (partsL done)).1) (runS (partsL done)).2 u4 wr hst.bld (by omega) (by omega) hst.own hf.1 hmk
      have Hfin : Hid (encL (runS (partsL done)).1 ++ encL (sortM (runS (partsL done)).2) = encL (splitL rs)) := by
        show _ = _
        rw [hrs, ← encL_append]
        rfl
      have hbel := hst.bel
      clear hst hf hpl hlen hnl hmk hrs
      generalize encL (runS (partsL done)).1 ++ encL (sortM (runS (partsL done)).2) = out at *
      go_wp2_with fail
      refine hW.mono ?_
      rintro e w1 ⟨rfl, hI1, _, hb1, _⟩
      go_wp2_with fail
      refine (string_k w.heap.size w.heap.size out w1 hI1 (by have := hb1.size; omega)).mono ?_
      rintro e w2 ⟨rfl, _, hb2, _⟩
      go_wp2
      go_ret
      rw [unhide Hfin]
      exact ⟨rfl, (hbel.trans hb1).trans hb2⟩
    | cons r rest =>
      have hsm : SmallR r := unhide HS r (by rw [unhide HR]; simp)
      have hdec : Utf8.decode (encS rs) (encL done).length = (r.toNat, (Lib.encodeRune r).length) := by
        rw [unhide HR]
        exact decode_at done r rest hsm
      have hp : (encL done).length < (encS rs).size := by
        rw [encS_size, unhide HR, encL_append, encL_cons, List.length_append, List.length_append]
        have := enc_pos hsm
        omega
      have hnx : ∀ ty, (Instr.next (.pointer (some ⟨w.heap.size + 1, 0, none⟩)) true ty).run Tryz.prog wr = .ok (.tuple #[.bool true, .int .i64 (encL done).length, .int .i32 r]) (wr.iterAt (w.heap.size + 1) (encS rs) (encL (done ++ [r])).length) := fun ty => by
        have h1 := Lib.run_next_any_at (P := Tryz.prog) wr (w.heap.size + 1) (encS rs) (encL done).length ty hst.it hp
        rw [hdec] at h1
        rw [h1, encL_append, encL_one, List.length_append, Int.toNat_of_nonneg hsm.1]
      have hst0 := hst.next (encL (done ++ [r])).length
      have hT0 : HasTab (wr.iterAt (w.heap.size + 1) (encS rs) (encL (done ++ [r])).length) := hT.later hst0.bel hsz3
      have hS := split_calls r _ hT0
      have hsz0 : (wr.iterAt (w.heap.size + 1) (encS rs) (encL (done ++ [r])).length).heap.size = wr.heap.size := Lib.iterAt_size _ _ _ _
      clear hst hdec hp hT0
      generalize wr.iterAt (w.heap.size + 1) (encS rs) (encL (done ++ [r])).length = w0 at *
      go_wp2_with fail
      refine hS.mono ?_
      rintro e w1 ⟨bk, rfl, hb1, hge, hlt, hrow⟩
      have hst1 := hst0.later hb1 (by omega)
      have hlen2 := splitZ_len r
      have hps : Hid (∀ p ∈ splitZ r, SmallR p) := splitZ_small hsm
      have hlast : Hid (∀ j x, (splitZ r)[j]? = some x → classZ x ≠ 0 → j + 1 = (splitZ r).length) := splitZ_last r
      have hmk2 : Hid (∀ j, (runS (partsL done ++ (splitZ r).take j)).2.length < 20) := fun j => by
        have h1 := (runS_facts (partsL done ++ (splitZ r).take j)).2.1
        have h2 := unhide HM
        rw [unhide HR, show done ++ r :: rest = (done ++ [r]) ++ rest by simp] at h2
        simp only [partsL, List.flatMap_append, List.flatMap_cons, List.flatMap_nil, List.append_nil, marks_append] at h2 h1 ⊢
        have h3 : marks ((splitZ r).take j) ≤ marks (splitZ r) := by
          have := marks_append ((splitZ r).take j) ((splitZ r).drop j)
          rw [List.take_append_drop] at this
          omega
        omega
      have Hend : Hid (partsL (done ++ [r]) = partsL done ++ splitZ r) := partsL_snoc done r
      have HR2 : Hid (rs = (done ++ [r]) ++ rest) := by
        show _ = _
        rw [unhide HR]
        simp
      have hvb : u4.ownBlock ≠ some bk := fun e => by
        have := (hst0.own.lt bk e).2
        omega
      have hlen3 : Hid (∀ j, (encL (runS (partsL done ++ (splitZ r).take j)).1).length ≤ 8000) := fun j => by
        have hsm2 : ∀ p ∈ partsL done ++ (splitZ r).take j, SmallR p := fun p hp => by
          rcases List.mem_append.1 hp with h | h
          · exact partsL_small (fun x hx => unhide HS x (by rw [unhide HR]; simp [hx])) p h
          · exact unhide hps p (List.mem_of_mem_take h)
        have h0 := runS_facts (partsL done ++ (splitZ r).take j)
        have h1 := (encL_len (runS (partsL done ++ (splitZ r).take j)).1 (fun p hp => hsm2 p (h0.2.2.2 p (by simp [hp])))).2
        have h2 := h0.2.2.1
        have h3 : done.length ≤ rs.length := by rw [unhide HR]; simp
        have h4 : ((splitZ r).take j).length ≤ 2 := by rw [List.length_take]; omega
        rw [List.length_append] at h2
        omega
      have hmks : Hid (∀ j, ∀ a ∈ (runS (partsL done ++ (splitZ r).take j)).2, Mark a) := fun j => (runS_facts _).1
      have hB1 : w.heap.size + 1 < w1.heap.size := by have := hb1.size; omega
      clear hst0 hS hf hpl hlen hnx
      obtain ⟨pos', Hpos⟩ : ∃ pos', Hid ((encL (done ++ [r])).length = pos') := ⟨_, rfl⟩
      rw [unhide Hpos] at hst1
      generalize splitZ r = ps at *
      generalize partsL done = pd at *
      go_wp2_with fail
      go_loopg [4, 17] (ps.length + 1) (fun k2 v i wi => ∃ j : Nat, j ≤ ps.length ∧ k2 = ps.length + 1 - j ∧ i = .int .i64 j ∧ SplitSt w (encS rs) w.heap.size wi pos' v (runS (pd ++ ps.take j)) ∧ Hid (j < ps.length → wi.heap[bk]? = some (.cells (ps.map (Value.int .i32)).toArray 21) ∧ v.ownBlock ≠ some bk))
      case atStart => exact ⟨0, Nat.zero_le _, rfl, rfl, by rw [List.take_zero, List.append_nil]; exact hst1, fun _ => ⟨hrow, hvb⟩⟩
      case round =>
        obtain ⟨j, hj, hk2, rfl, hsj, HRow⟩ := hrel
        by_cases hjn : j < ps.length
        · have hjz : (j : Int) < (ps.length : Int) := by omega
          have hrw := unhide HRow hjn
          obtain ⟨x, Hx⟩ : ∃ x, Hid (ps[j]? = some x) := ⟨_, List.getElem?_eq_getElem hjn⟩
          have hcell : wr.cell? ⟨bk, j, none⟩ = some (.int .i32 x) := by
            rw [cell_of_row _ _ _ _ _ _ hrw.1]
            simp [List.getElem?_map, unhide Hx]
          have hxs := unhide hps x (List.mem_of_getElem? (unhide Hx))
          have hx0 := hxs.1
          have hx1 := hxs.2
          have Hnext : Hid (runS (pd ++ ps.take (j + 1)) = stepS (runS (pd ++ ps.take j)) x) := by
            show _ = _
            rw [List.take_add_one, unhide Hx, ← runS_snoc]
            simp
          have hBw : w.heap.size + 1 < wr.heap.size := (Array.getElem?_eq_some_iff.1 hsj.it).1
          by_cases hc : classZ x = 0
          · have Hst : Hid (stepS (runS (pd ++ ps.take j)) x = ((runS (pd ++ ps.take j)).1 ++ sortM (runS (pd ++ ps.take j)).2 ++ [x], [])) := by
              show _ = _
              unfold stepS
              rw [if_pos hc]
            have hC := class_calls x wr
            rw [hc] at hC
            have hW := writeMarks_calls w.heap.size w.heap.size (encL (runS (pd ++ ps.take j)).1) (runS (pd ++ ps.take j)).2 u4 wr hsj.bld (by have := unhide hlen3 j; omega) (by omega) hsj.own (unhide hmks j) (unhide hmk2 j)
            have hlenj := unhide hlen3 j
            have hmj := unhide hmk2 j
            have hsh : (∃ g cap, u4 = .slice (some ⟨g, 0, none⟩) (runS (pd ++ ps.take j)).2.length cap) ∨ (u4 = .slice none 0 0 ∧ (runS (pd ++ ps.take j)).2 = []) := by
              rcases hsj.own.2 with ⟨h1, h2⟩ | ⟨g, cap, cur, h1, _⟩
              · exact .inr ⟨h1, List.eq_nil_of_length_eq_zero h2⟩
              · exact .inl ⟨g, cap, h1⟩
            have hit := hsj.it
            have hbj := hsj.bel
            have hmm := unhide hmks j
            have hkind := owns_kind hsj.own
            have hvne2 := owns_ne_builder hsj.own hsj.bld (by decide)
            clear hc hsj
            generalize (runS (pd ++ ps.take j)).1 = a at *
            generalize (runS (pd ++ ps.take j)).2 = m at *
            have hml : (m.length : Int) < 20 := by omega
            have hlen5 : (encL (a ++ sortM m)).length + 4 ≤ 140737488355328 := by
              have h1 := (encL_len (sortM m) (fun y hy => mark_small (hmm y ((sortM_mem _ _).1 hy)))).2
              rw [sortM_length] at h1
              rw [encL_append, List.length_append]
              omega
            rcases hsh with ⟨g, cap, hu⟩ | ⟨hu, hm0⟩
            · have hgk0 := hkind g (by rw [hu]; rfl)
              rw [hu] at hW hrw hvne2 ⊢
              go_wp2_with fail
              refine hC.mono ?_
              rintro e wx ⟨rfl, hwx⟩
              have hwx := hwx.symm
              subst hwx
              go_wp2_with fail
              refine hW.mono ?_
              rintro e w2 ⟨rfl, hI2, hO2, hb2, hk2'⟩
              have hI2' : Lib.IsBuilderF 145 5 w.heap.size w.heap.size (Lib.byteCells (encL (a ++ sortM m))) w2 := by rw [encL_append]; exact hI2
              have hR := writeRune_k w.heap.size w.heap.size (Lib.byteCells (encL (a ++ sortM m))) x (by omega) (by omega) w2 hI2' (by rw [Lib.byteCells_length]; exact hlen5) (by have := hb2.size; omega)
              go_wp2_with fail
              refine hR.mono ?_
              rintro e w3 ⟨rfl, hI3, hb3, hk3⟩
              go_wp2
              go_roundg (ps.length - j)
              case measure => omega
              case rel =>
                have hbl : ∀ k o, wr.heap[k]? = some o → k ≠ w.heap.size → some k ≠ some g → (∀ c fz, o ≠ .cells c 5 fz) → w3.heap[k]? = some o := fun k o h1 h2 h3 h4 => hk3 k o (hk2' k o h1 h2 h3 h4) (fun e => h2 (Option.some.inj e)) h4
                refine ⟨j + 1, by omega, by omega, by simp, ?_, fun hlt2 => ⟨?_, hrw.2⟩⟩
                · rw [unhide Hnext, unhide Hst]
                  refine ⟨?_, ?_, (hbj.trans hb2).trans hb3, ?_⟩
                  · show Lib.IsBuilderF 145 5 w.heap.size w.heap.size (Lib.byteCells (encL (a ++ sortM m ++ [x]))) w3
                    rw [encL_append (a ++ sortM m) [x], encL_one, Lib.byteCells_append, Lib.byteCells_encodeRune]
                    exact Or.inr hI3
                  · refine hbl _ _ hit (by omega) ?_ (fun _ _ e => by cases e)
                    intro e
                    have e1 : w.heap.size + 1 = g := Option.some.inj e
                    rw [e1] at hit
                    obtain ⟨c, hc⟩ := hgk0
                    rw [hit] at hc
                    cases hc
                  · have h5 := owns_others hO2 hk3 (by exact hvne2) (by decide)
                    obtain ⟨_, h6⟩ := h5
                    refine ⟨rfl, ?_⟩
                    rcases h6 with ⟨h7, _⟩ | ⟨g', cap', cur', h7, h8, h9, h10, h11, h12, _⟩
                    · cases h7
                    · simp only [Value.slice.injEq, Option.some.injEq, Addr.mk.injEq, true_and, and_true] at h7
                      obtain ⟨rfl, rfl⟩ := h7
                      exact .inr ⟨g, cap, cur', rfl, h8, h9, Nat.zero_le _, h11, h12, by simp⟩
                · exact hbl _ _ hrw.1 (by omega) (fun e => hrw.2 e.symm) (fun c fz e => by simp only [Obj.cells.injEq] at e; exact absurd e.2.1 (by decide))
            · rw [hu] at hW hrw hvne2 ⊢
              go_wp2_with fail
              refine hC.mono ?_
              rintro e wx ⟨rfl, hwx⟩
              have hwx := hwx.symm
              subst hwx
              go_wp2_with fail
              refine hW.mono ?_
              rintro e w2 ⟨rfl, hI2, hO2, hb2, hk2'⟩
              have hI2' : Lib.IsBuilderF 145 5 w.heap.size w.heap.size (Lib.byteCells (encL (a ++ sortM m))) w2 := by rw [encL_append]; exact hI2
              have hR := writeRune_k w.heap.size w.heap.size (Lib.byteCells (encL (a ++ sortM m))) x (by omega) (by omega) w2 hI2' (by rw [Lib.byteCells_length]; exact hlen5) (by have := hb2.size; omega)
              go_wp2_with fail
              refine hR.mono ?_
              rintro e w3 ⟨rfl, hI3, hb3, hk3⟩
              go_wp2
              go_roundg (ps.length - j)
              case measure => omega
              case rel =>
                have hbl : ∀ k o, wr.heap[k]? = some o → k ≠ w.heap.size → (∀ c fz, o ≠ .cells c 5 fz) → w3.heap[k]? = some o := fun k o h1 h2 h4 => hk3 k o (hk2' k o h1 h2 (fun e => by cases e) h4) (fun e => h2 (Option.some.inj e)) h4
                refine ⟨j + 1, by omega, by omega, by simp, ?_, fun hlt2 => ⟨?_, hrw.2⟩⟩
                · rw [unhide Hnext, unhide Hst]
                  refine ⟨?_, ?_, (hbj.trans hb2).trans hb3, ?_⟩
                  · show Lib.IsBuilderF 145 5 w.heap.size w.heap.size (Lib.byteCells (encL (a ++ sortM m ++ [x]))) w3
                    rw [encL_append (a ++ sortM m) [x], encL_one, Lib.byteCells_append, Lib.byteCells_encodeRune]
                    exact Or.inr hI3
                  · exact hbl _ _ hit (by omega) (fun _ _ e => by cases e)
                  · exact World.ownsRow_nil _ _ _ _
                · exact hbl _ _ hrw.1 (by omega) (fun c fz e => by simp only [Obj.cells.injEq] at e; exact absurd e.2.1 (by decide))
          · have Hst : Hid (stepS (runS (pd ++ ps.take j)) x = ((runS (pd ++ ps.take j)).1, (runS (pd ++ ps.take j)).2 ++ [x])) := by
              show _ = _
              unfold stepS
              rw [if_neg hc]
            have Hlast := hide (unhide hlast j x (unhide Hx) hc)
            have hC := class_calls x wr
            have hcne : (classZ x == 0) = false := by simpa using hc
            have hcne2 : (classZ x != 0) = true := by simpa using hc
            have hmj := unhide hmk2 j
            have Hown := hide hsj.own
            have Hst0 := hide hsj
            have hbj := hsj.bel
            clear hc hsj hrow hst1
            generalize classZ x = cx at *
            generalize hmlen : (runS (pd ++ ps.take j)).2.length = nm at *
            have HML := hide hmlen
            clear hmlen
            go_wp2_with fail
            refine hC.mono ?_
            rintro e wx ⟨rfl, hwx⟩
            have hwx := hwx.symm
            subst hwx
            go_wp2_with (at_builtin; refine wpList_append_own _ rfl _ _ 93 rfl w.heap.size 21 i0 (.int .i32 0) 1 4 Tryz.underlying93 hi hz0 hz1 hz2 rfl (by decide) _ _ _ rfl ((unhide Hown).alloc _) ⟨wr.heap.size, 0, none⟩ 1 1 [.int .i32 x] rfl rfl (cell_one_new _ _ _) (fun y hy => by simp at hy; subst hy; rfl) (by unfold maxLen; omega) (by omega) (by simp; omega) ?_; intro v' w3 hown' hgrow3 hnil3)
            go_roundg (ps.length - j)
            case measure => omega
            case rel =>
              have hlast' := unhide Hlast
              refine ⟨j + 1, by omega, by omega, by simp, ?_, fun hlt2 => by omega⟩
              rw [unhide Hnext, unhide Hst]
              have hst2 := (unhide Hst0).later ((Below.refl _ wr).alloc (Nat.le_refl _) (.cells #[Value.int .i32 x] 21)) (by omega)
              have hkd := owns_kind hst2.own
              refine ⟨builder_grown hst2.bld hgrow3 (fun g hg => ?_), ?_, hst2.bel.trans (below_grown hgrow3 (by simp; omega) (fun g hg => (hst2.own.lt g hg).1)), ?_⟩
              · obtain ⟨c, hc⟩ := hkd g hg
                exact ⟨c, 21, (0, 0), hc, by decide, by decide⟩
              · rw [hgrow3.block _ (by simp; omega) ?_]
                · exact hst2.it
                · intro e
                  obtain ⟨c, hc⟩ := hkd _ e.symm
                  rw [hst2.it] at hc
                  cases hc
              · rw [← unhide HML] at hown'
                simpa using hown'
        · have hjz : ¬ (j : Int) < (ps.length : Int) := by omega
          have hje : ps.take j = ps := List.take_of_length_le (by omega)
          have hsj' := hsj
          rw [hje] at hsj'
          clear hsj hje
          go_wp2
          go_roundg (rest.length + 1)
          case measure => omega
          case rel => exact ⟨done ++ [r], rest, rfl, HR2, by rw [unhide Hend, unhide Hpos]; exact hsj'⟩
end Go.Proofs.YtjpmomklkkifjaaGreatDoor
