import Derived.Test.YtjpmomklkkifjaaGreatDoorCRepl
import Derived.Maps.AppendAt
import Derived.Laws.IdiomStrings
import Derived.Outline
set_option maxRecDepth 100000
set_option linter.unusedVariables false
set_option linter.unusedSimpArgs false
namespace Go.Proofs.YtjpmomklkkifjaaGreatDoor
open Go.RowKit
def stepK (st : List Int × List Int) (r : Int) : List Int × List Int :=
  if weightE r ≠ 0 then (st.1 ++ [weightE r], if st.1 = [] then st.2 else st.2 ++ [1]) else if weightM r ≠ 0 then (st.1, st.2 ++ [weightM r]) else st
def runK (ts : List Int) : List Int × List Int := ts.foldl stepK ([], [])
def keyZ (ts : List Int) : List Int := ((runK ts).1 ++ [1]) ++ ((runK ts).2 ++ [1])
def toB (l : List Int) : ByteArray := ⟨(l.map fun z => z.toNat.toUInt8).toArray⟩
def keyB (ts : List Int) : ByteArray := toB (keyZ ts)
theorem runK_snoc (ts : List Int) (r : Int) : runK (ts ++ [r]) = stepK (runK ts) r := by simp [runK]
theorem weightE_range (r : Int) : 0 ≤ weightE r ∧ weightE r ≤ 44 ∧ weightE r ≠ 1 := by
  have := idxE_range r
  unfold weightE
  split <;> omega
theorem weightM_range (r : Int) : 0 ≤ weightM r ∧ weightM r ≤ 5 ∧ weightM r ≠ 1 := by
  unfold weightM
  repeat' split
  all_goals omega
theorem runK_facts (ts : List Int) : (runK ts).1.length ≤ ts.length ∧ (runK ts).2.length ≤ ts.length ∧ (∀ x ∈ (runK ts).1, 2 ≤ x ∧ x ≤ 44) ∧ (∀ x ∈ (runK ts).2, 1 ≤ x ∧ x ≤ 44) := by
  suffices h : ∀ (l : List Int), l.reverse = ts → _ from h ts.reverse (by simp)
  intro l
  induction l generalizing ts with
  | nil =>
    intro h
    simp at h
    subst h
    simp [runK]
  | cons p l ih =>
    intro h
    have hp : ts = l.reverse ++ [p] := by rw [← h]; simp
    obtain ⟨h1, h2, h3, h4⟩ := ih l.reverse rfl
    have hw := weightE_range p
    have hm := weightM_range p
    rw [hp, runK_snoc]
    generalize runK l.reverse = st at *
    unfold stepK
    by_cases hc : weightE p ≠ 0
    · rw [if_pos hc]
      refine ⟨?_, ?_, ?_, ?_⟩
      · simp only [List.length_append, List.length_cons, List.length_nil]; omega
      · simp only [List.length_append, List.length_cons, List.length_nil]
        split
        · omega
        · simp only [List.length_append, List.length_cons, List.length_nil]; omega
      · intro x hx
        rcases List.mem_append.1 hx with hx | hx
        · exact h3 x hx
        · simp at hx; subst hx; omega
      · intro x hx
        split at hx
        · exact h4 x hx
        · rcases List.mem_append.1 hx with hx | hx
          · exact h4 x hx
          · simp at hx; subst hx; omega
    · rw [if_neg hc]
      by_cases hd : weightM p ≠ 0
      · rw [if_pos hd]
        refine ⟨?_, ?_, h3, ?_⟩
        · simp only [List.length_append, List.length_cons, List.length_nil]; omega
        · simp only [List.length_append, List.length_cons, List.length_nil]; omega
        · intro x hx
          rcases List.mem_append.1 hx with hx | hx
          · exact h4 x hx
          · simp at hx; subst hx; omega
      · rw [if_neg hd]
        simp only [List.length_append, List.length_cons, List.length_nil]
        exact ⟨by omega, by omega, h3, h4⟩
structure KeySt (w : World) (s : ByteArray) (B : Nat) (wr : World) (pos : Nat) (v u : Value) (st : List Int × List Int) : Prop where
  it : wr.heap[B]? = some (.stringIter s pos)
  bel : Below B w wr
  own1 : wr.ownsRow B 5 1 v st.1.length (st.1.map (Value.int .u8))
  own2 : wr.ownsRow B 5 1 u st.2.length (st.2.map (Value.int .u8))
  apart : ∀ g, v.ownBlock = some g → u.ownBlock ≠ some g
theorem KeySt.later {w wr w1 : World} {s : ByteArray} {B pos : Nat} {v u : Value} {st : List Int × List Int} (h : KeySt w s B wr pos v u st) (hb : Below wr.heap.size wr w1) : KeySt w s B w1 pos v u st where
  it := (hb.block _ (Array.getElem?_eq_some_iff.1 h.it).1).trans h.it
  bel := h.bel.trans (hb.mono (by have := (Array.getElem?_eq_some_iff.1 h.it).1; omega))
  own1 := h.own1.kept (grown_of_below hb none) (by cases hv : v.ownBlock <;> simp)
  own2 := h.own2.kept (grown_of_below hb none) (by cases hv : u.ownBlock <;> simp)
  apart := h.apart
theorem owns_iter {w : World} {base : Nat} {e : TypeId} {v : Value} {n : Nat} {xs : List Value} (h : w.ownsRow base e 1 v n xs) {k : Nat} {s : ByteArray} {pos : Nat} (hk : w.heap[k]? = some (.stringIter s pos)) (p : Nat) : (w.iterAt k s p).ownsRow base e 1 v n xs := by
  obtain ⟨h1, h2⟩ := h
  refine ⟨h1, ?_⟩
  rcases h2 with h2 | ⟨g, cap, cur, a, b, c, d⟩
  · exact .inl h2
  · refine .inr ⟨g, cap, cur, a, b, ?_, d⟩
    have hne : g ≠ k := by
      intro e
      rw [e, hk] at c
      cases c
    rw [Lib.iterAt_other _ _ _ _ _ hne]
    exact c
theorem KeySt.next {w wr : World} {s : ByteArray} {B pos : Nat} {v u : Value} {st : List Int × List Int} (h : KeySt w s B wr pos v u st) (pos' : Nat) : KeySt w s B (wr.iterAt B s pos') pos' v u st where
  it := Lib.iterAt_heap _ _ _ _ _ h.it
  bel := Lib.below_iterAt h.bel (Nat.le_refl _) _ _
  own1 := owns_iter h.own1 h.it pos'
  own2 := owns_iter h.own2 h.it pos'
  apart := h.apart
theorem iter_no_row {wr : World} {B pos : Nat} {s : ByteArray} {base : Nat} {v : Value} {n : Nat} {xs : List Value} (h : wr.ownsRow base 5 1 v n xs) (hit : wr.heap[B]? = some (.stringIter s pos)) : some B ≠ v.ownBlock := by
  intro e
  obtain ⟨c, hc⟩ := owns_kind h B e.symm
  rw [hit] at hc
  cases hc
theorem KeySt.own1_kept {w wr w3 : World} {s : ByteArray} {B pos : Nat} {v u : Value} {st : List Int × List Int} (h : KeySt w s B wr pos v u st) (hg : wr.grownBy w3 u.ownBlock) : w3.ownsRow B 5 1 v st.1.length (st.1.map (Value.int .u8)) :=
  h.own1.kept hg (by
    cases hv : v.ownBlock with
    | none => exact .inl rfl
    | some g => exact .inr (fun e => h.apart g hv e.symm))
theorem KeySt.own1_pair {w wr : World} {s : ByteArray} {B pos : Nat} {v u : Value} {a b : List Int} (h : KeySt w s B wr pos v u (a, b)) : wr.ownsRow B 5 1 v a.length (a.map (Value.int .u8)) := h.own1
theorem KeySt.cells2 {w wr : World} {s : ByteArray} {B pos : Nat} {v : Value} {g n c : Nat} {a b : List Int} (h : KeySt w s B wr pos v (.slice (some ⟨g, 0, none⟩) n c) (a, b)) : ∀ j u, (b.map (Value.int .u8))[j]? = some u → wr.cell? ((⟨g, 0, none⟩ : Addr).add j) = some u := h.own2.cells (g := g) rfl
theorem row_shape {w : World} {B : Nat} {e : TypeId} {v : Value} {n : Nat} {xs : List Value} (h : w.ownsRow B e 1 v n xs) (hn : 0 < n) : ∃ g c, v = .slice (some ⟨g, 0, none⟩) n c := by
  rcases h.2 with ⟨_, h0⟩ | ⟨g, c, cur, h1, _⟩
  · omega
  · exact ⟨g, c, h1⟩
theorem join_owns {w6 : World} {B : Nat} {v : Value} {a b : List Int} (h : w6.ownsRow B 5 1 v (a.length + 1 + (b.length + 1)) ((a.map (Value.int .u8) ++ [Value.int .u8 1]) ++ (b ++ [1]).map (Value.int .u8))) :
    w6.ownsRow B 5 1 v ((a ++ [1]) ++ (b ++ [1])).length (((a ++ [1]) ++ (b ++ [1])).map (Value.int .u8)) := by
  have e : ((a ++ [1]) ++ (b ++ [1])).length = a.length + 1 + (b.length + 1) := by simp only [List.length_append, List.length_cons, List.length_nil]
  rw [e, List.map_append, List.map_append]
  exact h
theorem KeySt.cells1 {w wr : World} {s : ByteArray} {B pos : Nat} {u : Value} {g n c : Nat} {a b : List Int} (h : KeySt w s B wr pos (.slice (some ⟨g, 0, none⟩) n c) u (a, b)) : ∀ j x, (a.map (Value.int .u8))[j]? = some x → wr.cell? ((⟨g, 0, none⟩ : Addr).add j) = some x := h.own1.cells (g := g) rfl
theorem convert_key (w : World) (g c n : Nat) (ks : List Int) (hn : ks.length = n) (hr : ∀ x ∈ ks, 0 ≤ x ∧ x < 256) (hc : ∀ j u, (ks.map (Value.int .u8))[j]? = some u → w.cell? ((⟨g, 0, none⟩ : Addr).add j) = some u) :
    (convert 143 9 (.slice (some ⟨g, 0, none⟩) n c)).run Tryz.prog w = .ok (.string (toB ks)) w := by
  have h := run_convert_bytes_back (P := Tryz.prog) w 143 9 5 ⟨g, 0, none⟩ c (ks.map fun z => z.toNat.toUInt8) Tryz.underlying143 Tryz.underlying5 Tryz.underlying9 (fun j hj => by
    have hj' : j < ks.length := by simpa using hj
    have h1 := hr ks[j] (List.getElem_mem _)
    have h2 := hc j (.int .u8 ks[j]) (by rw [List.getElem?_map, List.getElem?_eq_getElem hj']; rfl)
    rw [h2, List.getElem_map, u8 _ (by omega), Int.toNat_of_nonneg h1.1])
  rw [List.length_map, hn] at h
  exact h
theorem KeySt.app1 {w wr w3 : World} {s : ByteArray} {B pos : Nat} {v v' u : Value} {a b a' : List Int} (h : KeySt w s B wr pos v u (a, b)) (hg : wr.grownBy w3 v.ownBlock) (ho : w3.ownsRow B 5 1 v' a'.length (a'.map (Value.int .u8)))
    (hat : v'.ownBlock = v.ownBlock ∨ v'.ownBlock = some wr.heap.size) : KeySt w s B w3 pos v' u (a', b) where
  it := by
    rw [hg.block B (Array.getElem?_eq_some_iff.1 h.it).1 (iter_no_row h.own1 h.it)]
    exact h.it
  bel := h.bel.trans (below_grown hg (by have := (Array.getElem?_eq_some_iff.1 h.it).1; omega) (fun g hgg => (h.own1.lt g hgg).1))
  own1 := ho
  own2 := h.own2.kept hg (by
    cases hu : u.ownBlock with
    | none => exact .inl rfl
    | some g => exact .inr (fun e => h.apart g e.symm hu))
  apart := fun g hgg hu => by
    rcases hat with e | e
    · exact h.apart g (by rw [← e]; exact hgg) hu
    · rw [e] at hgg
      have := (h.own2.lt g hu).2
      have := Option.some.inj hgg
      omega
theorem KeySt.app2 {w wr w3 : World} {s : ByteArray} {B pos : Nat} {v u u' : Value} {a b b' : List Int} (h : KeySt w s B wr pos v u (a, b)) (hg : wr.grownBy w3 u.ownBlock) (ho : w3.ownsRow B 5 1 u' b'.length (b'.map (Value.int .u8)))
    (hat : u'.ownBlock = u.ownBlock ∨ u'.ownBlock = some wr.heap.size) : KeySt w s B w3 pos v u' (a, b') where
  it := by
    rw [hg.block B (Array.getElem?_eq_some_iff.1 h.it).1 (iter_no_row h.own2 h.it)]
    exact h.it
  bel := h.bel.trans (below_grown hg (by have := (Array.getElem?_eq_some_iff.1 h.it).1; omega) (fun g hgg => (h.own2.lt g hgg).1))
  own1 := h.own1.kept hg (by
    cases hv : v.ownBlock with
    | none => exact .inl rfl
    | some g => exact .inr (fun e => h.apart g hv e.symm))
  own2 := ho
  apart := fun g hgg hu => by
    rcases hat with e | e
    · exact h.apart g hgg (by rw [← e]; exact hu)
    · rw [e] at hu
      have := (h.own1.lt g hgg).2
      have := Option.some.inj hu
      omega
theorem info5 : (Tryz.prog.info? 5).map (fun i => (i.zero, i.size, i.bytes)) = some (some (.int .u8 0), 1, 1) := by kernel_rfl
def chB : ByteArray := ⟨#[99, 104]⟩
def capC : ByteArray := ⟨#[67]⟩
theorem countFrom_le (sub : List UInt8) : ∀ (f : Nat) (s : List UInt8), Lib.countFrom sub f s ≤ f
  | 0, _ => Nat.le_refl _
  | f + 1, s => by
    unfold Lib.countFrom
    split
    · omega
    · have := countFrom_le sub f (s.drop ((Lib.index s sub).toNat + sub.length))
      omega
theorem replace_calls (ts : List Int) (w : World) (hR : Ready w) (hs : ∀ r ∈ ts, SmallR r) (hl : ts.length ≤ 2000) :
    Calls Tryz.prog 97 #[.string (encS ts), .string ⟨#[99, 104]⟩, .string ⟨#[67]⟩] w fun e w' => e = .returned (.string (encS (repl ts))) ∧ Below w.heap.size w w' := by
  obtain ⟨m, hm⟩ := hR.mx
  have hsz : (encS ts).size ≤ 4000 := by rw [encS_size]; have := (encL_len ts hs).2; omega
  have h1 := Tryz.strings_ReplaceAll (encS ts) chB capC m w (by omega) hm (by decide) (by
    have h2 : Lib.countB (encS ts) chB ≤ (encS ts).data.toList.length + 1 := countFrom_le _ _ _
    have h4 : (encS ts).data.toList.length = (encS ts).size := Array.length_toList
    have h3 : capC.size = 1 := rfl
    rw [h3]
    omega)
  have e : (encS ts).data.toList = encL ts := by simp [encS]
  have e2 : Lib.replaceAll (encL ts) chB.data.toList capC.data.toList = encL (repl ts) := by
    rw [← repl_enc ts.length ts (Nat.le_refl _) hs, ← replB_all]
    rfl
  rw [e, e2] at h1
  exact h1
set_option maxRecDepth 100000 in
set_option maxHeartbeats 1000000 in
theorem of_calls (rs : List Int) (w : World) (hR : Ready w) (hs : ∀ r ∈ rs, SmallR r) (hl : rs.length ≤ 400) (hm : marks (partsL rs) < 20) (hE : ∀ r ∈ repl (foldL rs), Elem r) (hne : (runK (repl (foldL rs))).1 ≠ []) :
    Calls Tryz.prog 54 #[.string (encS rs)] w fun e w' => e = .returned (.string (keyB (repl (foldL rs)))) ∧ Below w.heap.size w w' := by
  obtain ⟨i0, hi, hz0, hz1, hz2⟩ := info_parts info5
  have hF := plainFold_calls rs w hR hs (by omega) hm
  have hfl : (foldL rs).length ≤ 800 := by rw [foldL_length]; have := partsL_len rs; omega
  have hRp := fun wx (hx : Ready wx) => replace_calls (foldL rs) wx hx (foldL_small hs) (by omega)
  have hts := repl_small (foldL_small hs)
  have htl : (repl (foldL rs)).length ≤ 800 := Nat.le_trans (repl_length _) hfl
  generalize repl (foldL rs) = ts at *
  generalize encS (foldL rs) = fl at *
  clear hs hl hm hfl
  have HE := hide hE
  have HN := hide hne
  have HT := hide hts
  clear hE hne hts
  go_enter Tryz.func54, Tryz.ntmps54
  go_wp2_with fail
  refine hF.mono ?_
  rintro e w1 ⟨rfl, hb1⟩
  have hR1 := hR.later hb1
  go_wp2_with fail
  refine (hRp w1 hR1).mono ?_
  rintro e w2 ⟨rfl, hb2⟩
  have hR2 := hR1.later hb2
  have hb12 : Below w.heap.size w w2 := hb1.trans (hb2.mono hb1.size)
  clear hF hRp hb1 hb2 hR1 hR
  go_wp2_with fail
  go_loopg [3, 4] (ts.length + 1) (fun k v u wr => ∃ (done rest : List Int), k = rest.length + 1 ∧ Hid (ts = done ++ rest) ∧ KeySt w2 (encS ts) w2.heap.size wr (encL done).length v u (runK done))
  case atStart =>
    refine ⟨[], ts, rfl, rfl, ⟨?_, (Below.refl _ w2).alloc (Nat.le_refl _) _, World.ownsRow_nil _ _ _ _, World.ownsRow_nil _ _ _ _, fun g hg => by cases hg⟩⟩
    have := World.iter_heap w2 (encS ts) 0
    simpa [encL] using this
  case round =>
    obtain ⟨done, rest, hk, HRs, hst⟩ := hrel
    have hBs : w2.heap.size < wr.heap.size := (Array.getElem?_eq_some_iff.1 hst.it).1
    have hf := runK_facts done
    have hdl : done.length ≤ 800 := by
      have : done.length ≤ ts.length := by rw [unhide HRs]; simp
      omega
    cases rest with
    | nil =>
      have hrs : ts = done := by have := unhide HRs; simpa using this
      have hnl : ¬ (encL done).length < (encS ts).size := by rw [encS_size, hrs]; omega
      have hnx : ∀ ty, (Instr.next (.pointer (some ⟨w2.heap.size, 0, none⟩)) true ty).run Tryz.prog wr = _ := fun ty => Lib.run_next_end_at wr w2.heap.size (encS ts) (encL done).length ty hst.it hnl
      have hn0 : (runK done).1 ≠ [] := by have := unhide HN; rw [hrs] at this; exact this
      have hal : 0 < (runK done).1.length := List.length_pos_iff.2 hn0
      have Hkey : Hid (keyZ ts = ((runK done).1 ++ [1]) ++ ((runK done).2 ++ [1])) := by
        show _ = _
        rw [hrs]
        rfl
      have hul : ∃ p cap, u3 = .slice p (runK done).1.length cap := by
        rcases hst.own1.2 with ⟨h1, h2⟩ | ⟨g, cap, cur, h1, _⟩
        · exact ⟨none, 0, by rw [h1, h2]⟩
        · exact ⟨_, cap, h1⟩
      obtain ⟨p, cap, hu3⟩ := hul
      rw [hu3] at hst ⊢
      have hle1 : (runK done).1.length ≤ 800 := by omega
      have hle2 : (runK done).2.length ≤ 800 := by omega
      have Hst : Hid (KeySt w2 (encS ts) w2.heap.size wr (encL done).length (.slice p (runK done).1.length cap) u4 ((runK done).1, (runK done).2)) := hst
      have Hr := hide hf
      clear hu3 hst hf hn0 hrs hnl hdl hk
      generalize (runK done).1 = a at *
      generalize (runK done).2 = b at *
      have halz : (0 : Int) < (a.length : Int) := by omega
      have Ho2 : Hid (wr.ownsRow w2.heap.size 5 1 u4 b.length (b.map (Value.int .u8))) := (unhide Hst).own2
      have Hbytes : Hid (∀ x ∈ (a ++ [1]) ++ (b ++ [1]), 0 ≤ x ∧ x < 256) := by
        intro x hx
        have h3 := (unhide Hr).2.2.1
        have h4 := (unhide Hr).2.2.2
        simp only [List.mem_append, List.mem_singleton] at hx
        rcases hx with (hx | hx) | (hx | hx)
        · have := h3 x hx; omega
        · omega
        · have := h4 x hx; omega
        · omega
      have tok1 : True := trivial
      have tok2 : True := trivial
      go_wp2_with (first | (at_builtin; have _t := tok1; refine wpList_append_own_at _ rfl _ _ 143 rfl w2.heap.size 5 i0 (.int .u8 0) 1 1 Tryz.underlying143 hi hz0 hz1 hz2 rfl (by decide) _ _ _ rfl ((unhide Ho2).alloc _) ⟨wr.heap.size, 0, none⟩ 1 1 [.int .u8 1] rfl rfl (cell_one_new _ _ _) (fun y hy => by simp at hy; subst hy; rfl) (by unfold maxLen; omega) (by omega) (by simp; omega) ?_; intro v4 w4 hown4 hgrow4 hnil4 hat4; obtain ⟨g4, c4, hv4⟩ := row_shape hown4 (by omega); rw [hv4] at hown4 hat4 ⊢; clear hv4 hnil4; have hs4 := hgrow4.size; simp only [World.size_alloc] at hs4; have Hst4 : Hid (KeySt w2 (encS ts) w2.heap.size w4 (encL done).length (.slice p a.length cap) (.slice (some ⟨g4, 0, none⟩) (b.length + 1) c4) (a, b ++ [1])) := ((unhide Hst).later ((Below.refl _ wr).alloc (Nat.le_refl _) (.cells #[Value.int .u8 1] 5))).app2 hgrow4 (by simpa using hown4) hat4; clear tok1) | (at_builtin; have _t := tok2; refine wpList_append_own_at _ rfl _ _ 143 rfl w2.heap.size 5 i0 (.int .u8 0) 1 1 Tryz.underlying143 hi hz0 hz1 hz2 rfl (by decide) _ _ _ rfl ((KeySt.own1_pair (unhide Hst4)).alloc _) ⟨w4.heap.size, 0, none⟩ 1 1 [.int .u8 1] rfl rfl (cell_one_new _ _ _) (fun y hy => by simp at hy; subst hy; rfl) (by unfold maxLen; omega) (by omega) (by simp; omega) ?_; intro v5 w5 hown5 hgrow5 hnil5 hat5; have hs5 := hgrow5.size; simp only [World.size_alloc] at hs5; have Hst5 : Hid (KeySt w2 (encS ts) w2.heap.size w5 (encL done).length v5 (.slice (some ⟨g4, 0, none⟩) (b.length + 1) c4) (a ++ [1], b ++ [1])) := ((unhide Hst4).later ((Below.refl _ w4).alloc (Nat.le_refl _) (.cells #[Value.int .u8 1] 5))).app1 hgrow5 (by simpa using hown5) hat5; clear tok2) | (at_builtin; refine wpList_append_own_at _ rfl _ _ 143 rfl w2.heap.size 5 i0 (.int .u8 0) 1 1 Tryz.underlying143 hi hz0 hz1 hz2 rfl (by decide) _ _ _ rfl hown5 ⟨g4, 0, none⟩ (b.length + 1) c4 ((b ++ [1]).map (Value.int .u8)) rfl (by simp) (KeySt.cells2 (unhide Hst5)) (fun y hy => by simp at hy; rcases hy with ⟨z, _, rfl⟩ | rfl <;> rfl) (by unfold maxLen; omega) (by omega) (by omega) ?_; intro v6 w6 hown6 hgrow6 hnil6 hat6; obtain ⟨g6, c6, hv6⟩ := row_shape hown6 (by omega); rw [hv6] at hown6 hat6 ⊢; clear hv6 hnil6; have Hst6 : Hid (KeySt w2 (encS ts) w2.heap.size w6 (encL done).length (.slice (some ⟨g6, 0, none⟩) (a.length + 1 + (b.length + 1)) c6) (.slice (some ⟨g4, 0, none⟩) (b.length + 1) c4) ((a ++ [1]) ++ (b ++ [1]), b ++ [1])) := (unhide Hst5).app1 hgrow6 (join_owns hown6) hat6; have hcv := convert_key w6 g6 c6 (a.length + 1 + (b.length + 1)) ((a ++ [1]) ++ (b ++ [1])) (by simp only [List.length_append, List.length_cons, List.length_nil]) (unhide Hbytes) (KeySt.cells1 (unhide Hst6))))
      go_ret
      refine ⟨?_, hb12.trans ((unhide Hst6).bel.mono hb12.size)⟩
      unfold keyB
      rw [unhide Hkey, List.append_assoc, List.singleton_append]
      rfl
    | cons r rest =>
      simp only [List.length_cons] at hk
      have hsm : SmallR r := unhide HT r (by rw [unhide HRs]; simp)
      have hel : Elem r := unhide HE r (by rw [unhide HRs]; simp)
      have hdec : Utf8.decode (encS ts) (encL done).length = (r.toNat, (Lib.encodeRune r).length) := by
        rw [unhide HRs]
        exact decode_at done r rest hsm
      have hp : (encL done).length < (encS ts).size := by
        rw [encS_size, unhide HRs, encL_append, encL_cons, List.length_append, List.length_append]
        have := enc_pos hsm
        omega
      have hnx : ∀ ty, (Instr.next (.pointer (some ⟨w2.heap.size, 0, none⟩)) true ty).run Tryz.prog wr = .ok (.tuple #[.bool true, .int .i64 (encL done).length, .int .i32 r]) (wr.iterAt w2.heap.size (encS ts) (encL (done ++ [r])).length) := fun ty => by
        have h1 := Lib.run_next_any_at (P := Tryz.prog) wr w2.heap.size (encS ts) (encL done).length ty hst.it hp
        rw [hdec] at h1
        rw [h1, encL_append, encL_one, List.length_append, Int.toNat_of_nonneg hsm.1]
      have hst0 := hst.next (encL (done ++ [r])).length
      have hsz0 : (wr.iterAt w2.heap.size (encS ts) (encL (done ++ [r])).length).heap.size = wr.heap.size := Lib.iterAt_size _ _ _ _
      have hEw := elementWeight_calls r hel (wr.iterAt w2.heap.size (encS ts) (encL (done ++ [r])).length)
      have hMw := fun wx => markWeight_calls r wx
      have HR2 : Hid (ts = (done ++ [r]) ++ rest) := by
        show _ = _
        rw [unhide HRs]
        simp
      have Hnext : Hid (runK (done ++ [r]) = stepK (runK done) r) := runK_snoc done r
      have hwr := weightE_range r
      have hmr := weightM_range r
      have Hstep : Hid (stepK (runK done) r = if weightE r ≠ 0 then ((runK done).1 ++ [weightE r], if (runK done).1 = [] then (runK done).2 else (runK done).2 ++ [1]) else if weightM r ≠ 0 then ((runK done).1, (runK done).2 ++ [weightM r]) else runK done) := rfl
      clear hst hdec hp hel
      generalize wr.iterAt w2.heap.size (encS ts) (encL (done ++ [r])).length = w0 at *
      obtain ⟨pos', Hpos⟩ : ∃ pos', Hid ((encL (done ++ [r])).length = pos') := ⟨_, rfl⟩
      rw [unhide Hpos] at hst0
      generalize weightE r = we at *
      generalize weightM r = wm at *
      by_cases hwe : we = 0
      · subst hwe
        by_cases hwm : wm = 0
        · subst hwm
          go_wp2_with fail
          refine hEw.mono ?_
          rintro e w3 ⟨rfl, hb3⟩
          have hst3 := hst0.later hb3
          go_wp2_with fail
          refine (hMw w3).mono ?_
          rintro e wx ⟨rfl, hwx⟩
          have hwx := hwx.symm
          subst hwx
          go_wp2
          go_roundg (rest.length + 1)
          case measure => omega
          case rel =>
            refine ⟨done ++ [r], rest, rfl, HR2, ?_⟩
            rw [unhide Hnext, unhide Hstep, unhide Hpos]
            exact hst3
        · have hwm0 : (wm == 0) = false := by simpa using hwm
          have hwm1 : (wm != 0) = true := by simpa using hwm
          go_wp2_with fail
          refine hEw.mono ?_
          rintro e w3 ⟨rfl, hb3⟩
          have hst3 := hst0.later hb3
          have Hown := hide hst3.own2
          have Hst3 := hide hst3
          have hs3 := hb3.size
          clear hst3 hst0
          go_wp2_with fail
          refine (hMw w3).mono ?_
          rintro e wx ⟨rfl, hwx⟩
          have hwx := hwx.symm
          subst hwx
          go_wp2_with (at_builtin; refine wpList_append_own_at _ rfl _ _ 143 rfl w2.heap.size 5 i0 (.int .u8 0) 1 1 Tryz.underlying143 hi hz0 hz1 hz2 rfl (by decide) _ _ _ rfl ((unhide Hown).alloc _) ⟨w3.heap.size, 0, none⟩ 1 1 [.int .u8 wm] rfl rfl (cell_one_new _ _ _) (fun y hy => by simp at hy; subst hy; rfl) (by unfold maxLen; omega) (by omega) (by simp; omega) ?_; intro v' w4 hown' hgrow4 hnil4 hat4)
          go_roundg (rest.length + 1)
          case measure => omega
          case rel =>
            refine ⟨done ++ [r], rest, rfl, HR2, ?_⟩
            rw [unhide Hnext, unhide Hstep, unhide Hpos]
            have h5 : KeySt w2 (encS ts) w2.heap.size (w3.alloc (.cells #[Value.int .u8 wm] 5)) pos' u3 u4 ((runK done).1, (runK done).2) := (unhide Hst3).later ((Below.refl _ w3).alloc (Nat.le_refl _) _)
            rw [if_neg (by simp), if_pos hwm]
            exact h5.app2 hgrow4 (by simpa using hown') hat4
      · have hwe0 : (we == 0) = false := by simpa using hwe
        have hwe1 : (we != 0) = true := by simpa using hwe
        have hul : ∃ p cap, u3 = .slice p (runK done).1.length cap := by
          rcases hst0.own1.2 with ⟨h1, h2⟩ | ⟨g, cap, cur, h1, _⟩
          · exact ⟨none, 0, by rw [h1, h2]⟩
          · exact ⟨_, cap, h1⟩
        obtain ⟨p, cap, hu3⟩ := hul
        rw [hu3] at hst0 ⊢
        clear hu3
        by_cases ha : (runK done).1 = []
        · have hal : (runK done).1.length = 0 := by rw [ha]; rfl
          have Hal := hide hal
          have Ha := hide ha
          rw [hal] at hst0 ⊢
          clear ha hal
          go_wp2_with fail
          refine hEw.mono ?_
          rintro e w3 ⟨rfl, hb3⟩
          have hst3 := hst0.later hb3
          have hown3 := hst3.own1
          rw [unhide Hal] at hown3
          have Hown := hide hown3
          have Hst3 := hide hst3
          have hs3 := hb3.size
          clear hst3 hst0 hown3
          go_wp2_with (at_builtin; refine wpList_append_own_at _ rfl _ _ 143 rfl w2.heap.size 5 i0 (.int .u8 0) 1 1 Tryz.underlying143 hi hz0 hz1 hz2 rfl (by decide) _ _ _ rfl ((unhide Hown).alloc _) ⟨w3.heap.size, 0, none⟩ 1 1 [.int .u8 we] rfl rfl (cell_one_new _ _ _) (fun y hy => by simp at hy; subst hy; rfl) (by unfold maxLen; omega) (by omega) (by simp; omega) ?_; intro v4 w4 hown4 hgrow4 hnil4 hat4)
          go_roundg (rest.length + 1)
          case measure => omega
          case rel =>
            refine ⟨done ++ [r], rest, rfl, HR2, ?_⟩
            rw [unhide Hnext, unhide Hstep, unhide Hpos, if_pos hwe, if_pos (unhide Ha)]
            have h5 : KeySt w2 (encS ts) w2.heap.size (w3.alloc (.cells #[Value.int .u8 we] 5)) pos' (.slice p 0 cap) u4 ((runK done).1, (runK done).2) := (unhide Hst3).later ((Below.refl _ w3).alloc (Nat.le_refl _) _)
            refine h5.app1 hgrow4 ?_ hat4
            rw [List.length_append, unhide Hal]
            simpa using hown4
        · have hal : 0 < (runK done).1.length := List.length_pos_iff.2 ha
          have Ha := hide ha
          clear ha
          have hle1 : (runK done).1.length ≤ 800 := by omega
          obtain ⟨n1, Hn1⟩ : ∃ n1, Hid ((runK done).1.length = n1) := ⟨_, rfl⟩
          rw [unhide Hn1] at hst0 hal hf ⊢
          have hn1z : (0 : Int) < (n1 : Int) := by omega
          go_wp2_with fail
          refine hEw.mono ?_
          rintro e w3 ⟨rfl, hb3⟩
          have hst3 := hst0.later hb3
          have Hown := hide hst3.own2
          have Hst3 := hide hst3
          have hs3 := hb3.size
          clear hst3 hst0
          have tok1 : True := trivial
          go_wp2_with (first | (at_builtin; have _t := tok1; refine wpList_append_own_at _ rfl _ _ 143 rfl w2.heap.size 5 i0 (.int .u8 0) 1 1 Tryz.underlying143 hi hz0 hz1 hz2 rfl (by decide) _ _ _ rfl ((unhide Hown).alloc _) ⟨w3.heap.size, 0, none⟩ 1 1 [.int .u8 1] rfl rfl (cell_one_new _ _ _) (fun y hy => by simp at hy; subst hy; rfl) (by unfold maxLen; omega) (by omega) (by simp; omega) ?_; intro v4 w4 hown4 hgrow4 hnil4 hat4; have hs4 := hgrow4.size; simp only [World.size_alloc] at hs4; clear tok1) | (at_builtin; refine wpList_append_own_at _ rfl _ _ 143 rfl w2.heap.size 5 i0 (.int .u8 0) 1 1 Tryz.underlying143 hi hz0 hz1 hz2 rfl (by decide) _ _ _ rfl ((KeySt.own1_kept ((unhide Hst3).later ((Below.refl _ w3).alloc (Nat.le_refl _) _)) hgrow4).alloc _) ⟨w4.heap.size, 0, none⟩ 1 1 [.int .u8 we] rfl rfl (cell_one_new _ _ _) (fun y hy => by simp at hy; subst hy; rfl) (by unfold maxLen; omega) (by omega) (by simp; omega) ?_; intro v5 w5 hown5 hgrow5 hnil5 hat5))
          go_roundg (rest.length + 1)
          case measure => omega
          case rel =>
            refine ⟨done ++ [r], rest, rfl, HR2, ?_⟩
            rw [unhide Hnext, unhide Hstep, unhide Hpos, if_pos hwe, if_neg (unhide Ha)]
            have h5 : KeySt w2 (encS ts) w2.heap.size (w3.alloc (.cells #[Value.int .u8 1] 5)) pos' (.slice p n1 cap) u4 ((runK done).1, (runK done).2) := (unhide Hst3).later ((Below.refl _ w3).alloc (Nat.le_refl _) _)
            have h6 : KeySt w2 (encS ts) w2.heap.size w4 pos' (.slice p n1 cap) v4 ((runK done).1, (runK done).2 ++ [1]) := h5.app2 hgrow4 (by simpa using hown4) hat4
            have h7 := h6.later ((Below.refl _ w4).alloc (Nat.le_refl _) (.cells #[Value.int .u8 we] 5))
            exact h7.app1 hgrow5 (by simpa using hown5) hat5
end Go.Proofs.YtjpmomklkkifjaaGreatDoor
