import Derived.Test.YtjpmomklkkifjaaGreatDoorCFShelf
import Derived.Test.YtjpmomklkkifjaaGreatDoorCBOwn
import Derived.Outline
import Derived.Test.YtjpmomklkkifjaaGreatDoorCSort
import Derived.Laws.ResultCell
set_option maxRecDepth 100000
set_option linter.unusedVariables false
set_option linter.unusedSimpArgs false
namespace Go.Proofs.YtjpmomklkkifjaaGreatDoor.T
open Go.RowKit
def splitS (s : ByteArray) : List ByteArray := Lib.splitB ⟨#[47]⟩ 0 (Lib.countB s ⟨#[47]⟩) s
noncomputable def partErr : List ByteArray → Option Int
  | [] => none
  | p :: l => if dotsB p then partErr l else match checkP p with | none => partErr l | some k => some k
noncomputable def partsP (s : ByteArray) : Except Int (List ByteArray) :=
  if 80 < s.size then .error 2
  else if Lib.hasPrefix s.data.toList [47] = false then .error 3
  else if (s.toList == [47]) = true then .ok []
  else if 6 < (splitS (s.extract 1 s.size)).length then .error 2
  else match partErr (splitS (s.extract 1 s.size)) with | some k => .error k | none => .ok (splitS (s.extract 1 s.size))
def StrsAt (w : World) (v : Value) (l : List ByteArray) : Prop :=
  (l = [] ∧ v = .slice none 0 0) ∨ ∃ b c, v = .slice (some ⟨b, 0, none⟩) l.length c ∧ l.length ≤ c ∧ w.heap[b]? = some (.cells (l.map Value.string).toArray 9)
def PartsEnd (s : ByteArray) (w : World) (e : Ending) (w' : World) : Prop :=
  Below w.heap.size w w' ∧ match partsP s with
    | .error k => e = .returned (.tuple #[.slice none 0 0, .iface 86 (.int .i64 k)])
    | .ok [] => e = .returned (.tuple #[.slice none 0 0, .nilIface])
    | .ok (p :: l) => ∃ b, e = .returned (.tuple #[.slice (some ⟨b, 0, none⟩) (l.length + 1) (l.length + 1), .nilIface]) ∧ w.heap.size ≤ b ∧ w'.heap[b]? = some (.cells ((p :: l).map Value.string).toArray 9)
theorem parts_error {s : ByteArray} {w w' : World} {e : Ending} {k : Int} (hk : partsP s = .error k) (hb : Below w.heap.size w w') (he : e = .returned (.tuple #[.slice none 0 0, .iface 86 (.int .i64 k)])) : PartsEnd s w e w' := by
  refine ⟨hb, ?_⟩
  rw [hk]
  exact he
theorem splitB_size (sep : ByteArray) : ∀ (k : Nat) (s : ByteArray), ∀ p ∈ Lib.splitB sep 0 k s, p.size ≤ s.size
  | 0, s, p, hp => by
    rw [Lib.splitB_zero] at hp
    simp at hp
    rw [hp]
    exact Nat.le_refl _
  | k + 1, s, p, hp => by
    unfold Lib.splitB at hp
    split at hp
    · simp at hp; rw [hp]; exact Nat.le_refl _
    · rcases List.mem_cons.1 hp with rfl | hp
      · rw [ByteArray.size_extract]; omega
      · have := splitB_size sep k _ p hp
        rw [ByteArray.size_extract] at this
        omega
theorem splitS_size {s p : ByteArray} (h : p ∈ splitS s) : p.size ≤ s.size := splitB_size _ _ _ _ h
theorem splitS_len (s : ByteArray) : (splitS s).length = Lib.countB s ⟨#[47]⟩ + 1 := Lib.splitB_all ⟨#[47]⟩ (by decide) 0 _ s rfl
set_option maxHeartbeats 1000000 in
theorem parts_calls (s : ByteArray) (w : World) (hR : Ready w) (hs : s.size ≤ 4000000000) :
    Calls Tryz.prog 20 #[.string s] w fun e w' => PartsEnd s w e w' := by
  by_cases h1 : 80 < s.size
  · have h1z : (80 : Int) < (s.size : Int) := by omega
    have Hk : Hid (partsP s = .error 2) := by show _ = _; unfold partsP; rw [if_pos h1]
    go_enter Tryz.func20, Tryz.ntmps20
    go_wp2
    refine bodyPost_ret (results_tmp2 rfl _ _ _) rfl ?_
    exact parts_error (unhide Hk) (Below.refl _ _) rfl
  · have h1z : ¬ (80 : Int) < (s.size : Int) := by omega
    have hP := fun wx => hasPrefix_calls s ⟨#[47]⟩ wx
    cases h2 : Lib.hasPrefix s.data.toList [47] with
    | false =>
      have Hk : Hid (partsP s = .error 3) := by show _ = _; unfold partsP; rw [if_neg h1, if_pos h2]
      simp only [h2] at hP
      clear h2
      go_enter Tryz.func20, Tryz.ntmps20
      go_wp2_with fail
      refine (hP w).mono ?_
      rintro e wx ⟨rfl, hwx⟩
      have hwx := hwx.symm
      subst hwx
      go_wp2
      refine bodyPost_ret (results_tmp2 rfl _ _ _) rfl ?_
      exact parts_error (unhide Hk) (Below.refl _ _) rfl
    | true =>
      have hpos : 1 ≤ s.size := by
        rw [Lib.size_eq]
        unfold Lib.hasPrefix at h2
        cases hd : s.data.toList with
        | nil => rw [hd] at h2; cases h2
        | cons a l => simp
      have H2 : Hid (Lib.hasPrefix s.data.toList [47] = true) := h2
      simp only [h2] at hP
      clear h2
      cases h3 : (s.toList == [47]) with
      | true =>
        have Hk : Hid (partsP s = .ok []) := by show _ = _; unfold partsP; rw [if_neg h1, if_neg (by rw [unhide H2]; simp), if_pos h3]
        go_enter Tryz.func20, Tryz.ntmps20
        go_wp2_with fail
        refine (hP w).mono ?_
        rintro e wx ⟨rfl, hwx⟩
        have hwx := hwx.symm
        subst hwx
        go_wp2
        refine bodyPost_ret (results_tmp2 rfl _ _ _) rfl ?_
        refine ⟨Below.refl _ _, ?_⟩
        rw [unhide Hk]
        exact rfl
      | false =>
        obtain ⟨m, hm⟩ := hR.mx
        have hS := strSplit_calls (s.extract 1 s.size) ⟨#[47]⟩ m w (by rw [ByteArray.size_extract]; omega) hm (by decide)
        rw [← splitS_len, show Lib.splitB ⟨#[47]⟩ 0 (Lib.countB (s.extract 1 s.size) ⟨#[47]⟩) (s.extract 1 s.size) = splitS (s.extract 1 s.size) from rfl] at hS
        have Hk : Hid (∀ l, splitS (s.extract 1 s.size) = l → partsP s = if 6 < l.length then .error 2 else match partErr l with | some k => .error k | none => .ok l) := fun l hl => by
          subst hl; unfold partsP; rw [if_neg h1, if_neg (by rw [unhide H2]; simp), if_neg (by rw [h3]; simp)]
        have hne : 1 ≤ (splitS (s.extract 1 s.size)).length := by rw [splitS_len]; omega
        have hlen : (splitS (s.extract 1 s.size)).length ≤ 100 := by
          rw [splitS_len]
          have h4 := Lib.countB_le ⟨#[47]⟩ (by decide) (s.extract 1 s.size).size (s.extract 1 s.size) (Nat.le_refl _)
          rw [ByteArray.size_extract] at h4
          omega
        have hsz : ∀ p ∈ splitS (s.extract 1 s.size), p.size ≤ 9223372036854775807 := fun p hp => by
          have := splitS_size hp
          rw [ByteArray.size_extract] at this
          omega
        obtain ⟨l, hl⟩ : ∃ l, splitS (s.extract 1 s.size) = l := ⟨_, rfl⟩
        have Hk2 := hide (unhide Hk l hl)
        rw [hl] at hS hne hlen hsz
        clear Hk H2 hl hs
        obtain ⟨w1, hw1⟩ : ∃ w1, w.alloc (.cells (l.map Value.string).toArray 9) = w1 := ⟨_, rfl⟩
        have hb1 : Below w.heap.size w w1 := by rw [← hw1]; exact (Below.refl _ _).alloc (Nat.le_refl _) _
        have hrow : w1.heap[w.heap.size]? = some (.cells (l.map Value.string).toArray 9) := by rw [← hw1]; exact heap_alloc_new w _
        have hz1 : w1.heap.size = w.heap.size + 1 := by rw [← hw1]; simp
        rw [hw1] at hS
        obtain ⟨B, hB⟩ : ∃ B, w.heap.size = B := ⟨_, rfl⟩
        rw [hB] at hS hrow hz1
        obtain ⟨n, hn⟩ : ∃ n, l.length = n := ⟨_, rfl⟩
        rw [hn] at hS hne hlen
        have Hsz := hide hsz
        have HR := hide hR
        have HB1 := hide hb1
        have HS := hide hS
        have Hrow := hide hrow
        clear hsz hR hb1 hS hrow hw1
        by_cases h6 : 6 < n
        · have h6z : (6 : Int) < (n : Int) := by omega
          go_enter Tryz.func20, Tryz.ntmps20
          go_wp2_with fail
          refine (hP w).mono ?_
          rintro e wx ⟨rfl, hwx⟩
          have hwx := hwx.symm
          subst hwx
          go_wp2_with fail
          refine (unhide HS).mono ?_
          rintro e wx ⟨rfl, hwx⟩
          have hwx := hwx.symm
          subst hwx
          go_wp2
          refine bodyPost_ret (results_tmp2 rfl _ _ _) rfl ?_
          exact parts_error ((unhide Hk2).trans (by rw [hn, if_pos h6])) (unhide HB1) rfl
        · have h6z : ¬ (6 : Int) < (n : Int) := by omega
          have Hk3 : Hid (partsP s = match partErr l with | some k => .error k | none => .ok l) := (unhide Hk2).trans (by rw [hn, if_neg h6])
          clear Hk2
          go_enter Tryz.func20, Tryz.ntmps20
          go_wp2_with fail
          refine (hP w).mono ?_
          rintro e wx ⟨rfl, hwx⟩
          have hwx := hwx.symm
          subst hwx
          go_wp2_with fail
          refine (unhide HS).mono ?_
          rintro e wx ⟨rfl, hwx⟩
          have hwx := hwx.symm
          subst hwx
          go_wp2_with fail
          clear hP HS
          go_loopg [30] (n + 1) (fun k i wr => ∃ j : Nat, j ≤ n ∧ k = n + 1 - j ∧ i = .int .i64 j ∧ Hid (Below w1.heap.size w1 wr) ∧ Hid (partErr l = partErr (l.drop j)))
          case atStart => exact ⟨0, by omega, rfl, rfl, Below.refl _ _, rfl⟩
          case round =>
            obtain ⟨j, hj, hk, rfl, Hbw, He⟩ := hrel
            by_cases hjn : j < n
            · have hjz : (j : Int) < (n : Int) := by omega
              have hjl : j < l.length := by omega
              obtain ⟨p, hp⟩ : ∃ p, l[j]? = some p := ⟨l[j], by simp [hjl]⟩
              have c0 : wr.cell? ⟨B, j, none⟩ = some (.string p) := by
                have h7 : wr.heap[B]? = some (.cells (l.map Value.string).toArray 9) := ((unhide Hbw).block B (by omega)).trans (unhide Hrow)
                rw [cell_of_row _ _ _ _ _ _ h7]
                simp [hp]
              have hRr : Ready wr := ((unhide HR).later (unhide HB1)).later (unhide Hbw)
              have hD := dots_calls p wr
              have hC := check_spec p wr hRr (unhide Hsz p (List.mem_of_getElem? hp))
              have hdrop : l.drop j = p :: l.drop (j + 1) := by
                rw [List.drop_eq_getElem_cons hjl]
                have : l[j] = p := by have := List.getElem?_eq_some_iff.1 hp; exact this.2
                rw [this]
              have Hd : Hid (partErr (l.drop j) = if dotsB p = true then partErr (l.drop (j + 1)) else match checkP p with | none => partErr (l.drop (j + 1)) | some k => some k) := by
                show _ = _
                rw [hdrop]
                rfl
              change Calls Tryz.prog 50 #[.string p] wr fun e w' => e = .returned (.bool (dotsB p)) ∧ w' = wr at hD
              have HC := hide hC
              clear hC hdrop hp hRr
              cases hd : dotsB p with
              | true =>
                rw [hd] at hD Hd
                clear hd
                go_wp2_with fail
                refine hD.mono ?_
                rintro e wx ⟨rfl, hwx⟩
                have hwx := hwx.symm
                subst hwx
                go_wp2
                go_roundg (n - j)
                case measure => omega
                case rel => exact ⟨j + 1, by omega, by omega, by simp, Hbw, (unhide He).trans (unhide Hd)⟩
              | false =>
                rw [hd] at hD Hd
                clear hd
                cases hc : checkP p with
                | none =>
                  rw [hc] at HC Hd
                  clear hc
                  go_wp2_with fail
                  refine hD.mono ?_
                  rintro e wx ⟨rfl, hwx⟩
                  have hwx := hwx.symm
                  subst hwx
                  go_wp2_with fail
                  refine (unhide HC).mono ?_
                  rintro e w3 ⟨rfl, hb3⟩
                  have Hb3 : Hid (Below w1.heap.size w1 w3) := (unhide Hbw).trans (hb3.mono (unhide Hbw).size)
                  clear hb3
                  simp only [errV]
                  go_wp2
                  go_roundg (n - j)
                  case measure => omega
                  case rel => exact ⟨j + 1, by omega, by omega, by simp, Hb3, (unhide He).trans (unhide Hd)⟩
                | some k =>
                  rw [hc] at HC Hd
                  clear hc
                  go_wp2_with fail
                  refine hD.mono ?_
                  rintro e wx ⟨rfl, hwx⟩
                  have hwx := hwx.symm
                  subst hwx
                  go_wp2_with fail
                  refine (unhide HC).mono ?_
                  rintro e w3 ⟨rfl, hb3⟩
                  have Hb3 : Hid (Below w1.heap.size w1 w3) := (unhide Hbw).trans (hb3.mono (unhide Hbw).size)
                  clear hb3
                  simp only [errV]
                  go_wp2
                  refine bodyPost_ret (results_tmp2 rfl _ _ _) rfl ?_
                  refine parts_error ((unhide Hk3).trans (by rw [unhide He, unhide Hd]; rfl)) ((unhide HB1).trans ((unhide Hb3).mono (by omega))) rfl
            · have hjz : ¬ (j : Int) < (n : Int) := by omega
              go_wp2
              refine bodyPost_ret (results_tmp2 rfl _ _ _) rfl ?_
              refine ⟨(unhide HB1).trans ((unhide Hbw).mono (by omega)), ?_⟩
              have hno : partErr l = none := by rw [unhide He, List.drop_eq_nil_of_le (by omega)]; rfl
              rw [unhide Hk3, hno]
              cases l with
              | nil => simp at hn; omega
              | cons p l =>
                simp at hn
                subst hn
                exact ⟨B, rfl, by omega, ((unhide Hbw).block B (by omega)).trans (unhide Hrow)⟩
end Go.Proofs.YtjpmomklkkifjaaGreatDoor.T
namespace Go.Proofs.YtjpmomklkkifjaaGreatDoor.T
open Go.RowKit
variable {w0 w w' : World} {fb mb : Nat} {N : List NV} {F : Forest} {next : Int} {l2 : List Res}
theorem FSIn.size (h : FSIn w0 w fb mb N F next l2) : w0.heap.size ≤ w.heap.size := by
  obtain ⟨rs, _, H⟩ := h
  exact H.size
theorem FSIn.step (h : FSIn w0 w fb mb N F next l2) (hb : Below w.heap.size w w') : FSIn w0 w' fb mb N F next l2 := by
  obtain ⟨rs, hr, H⟩ := h
  exact ⟨rs, hr, Hold.below H hb⟩
theorem FSIn.drew (h : FSIn w0 w fb mb N F next l2) : FSIn w0 w.drew fb mb N F next l2 := by
  obtain ⟨rs, hr, H⟩ := h
  exact ⟨rs, hr, H.drew⟩
theorem FSIn.drewN (h : FSIn w0 w fb mb N F next l2) (n : Nat) : FSIn w0 (w.drewN n) fb mb N F next l2 := by
  obtain ⟨rs, hr, H⟩ := h
  exact ⟨rs, hr, H.drewN n⟩
theorem FSIn.alloc (h : FSIn w0 w fb mb N F next l2) (o : Obj) : FSIn w0 (w.alloc o) fb mb N F next l2 := by
  obtain ⟨rs, hr, H⟩ := h
  exact ⟨rs, hr, H.alloc o⟩
theorem FSIn.conv {l3 : List Res} (h : FSIn w0 w fb mb N F next l2) (ht : ∀ x, total l3 x ≤ total l2 x) (hs : (∀ r ∈ l2, r.Sat w0.heap.size w) → ∀ r ∈ l3, r.Sat w0.heap.size w) : FSIn w0 w fb mb N F next l3 := by
  obtain ⟨rs, hr, H⟩ := h
  refine ⟨rs, hr, H.conv (fun x => ?_) fun r hr => ?_⟩
  · have := ht x
    simp only [total_cons, total_append]; omega
  · simp only [List.mem_cons, List.mem_append] at hr
    rcases hr with h | h | h | h
    · exact H.sat r (by simp [h])
    · exact H.sat r (by simp [h])
    · exact H.sat r (by simp [h])
    · exact hs (fun q hq => H.sat q (by simp [hq])) r h
theorem FSIn.made (h : FSIn w0 w fb mb N F next l2) (t : TypeId) (vs : List Value) : FSIn w0 (w.alloc (.cells vs.toArray t)) fb mb N F next (.cell w.heap.size t vs :: l2) := by
  obtain ⟨rs, hr, H⟩ := h
  have H1 := H.made (H.size) t vs
  refine ⟨rs, hr, H1.conv (fun x => ?_) fun r hr => H1.sat r ?_⟩
  · simp only [total_cons, total_append]; omega
  · simp only [List.mem_cons, List.mem_append] at hr ⊢
    rcases hr with h | h | h | h | h <;> simp [h]
theorem FSIn.madeD (h : FSIn w0 w fb mb N F next l2) (t : TypeId) (vs : List Value) : FSIn w0 (w.drew.alloc (.cells vs.toArray t)) fb mb N F next (.cell w.heap.size t vs :: l2) := h.drew.made t vs
theorem FSIn.found (h : FSIn w0 w fb mb N F next l2) (hb : Below w.heap.size w w') {b : Nat} {t : TypeId} {vs : List Value} (h1 : w.heap.size ≤ b) (h2 : w'.heap[b]? = some (.cells vs.toArray t)) : FSIn w0 w' fb mb N F next (.cell b t vs :: l2) := by
  obtain ⟨rs, hr, H⟩ := h
  have hs := H.size
  have H1 := H.new (r := .cell b t vs) (Kept.of_below hb) ⟨by omega, h2⟩ (fun x hx => by obtain rfl := one_pos.1 hx; exact h1) (one_le b)
  refine ⟨rs, hr, H1.conv (fun x => ?_) fun r hr => H1.sat r ?_⟩
  · simp only [total_cons, total_append]; omega
  · simp only [List.mem_cons, List.mem_append] at hr ⊢
    rcases hr with h | h | h | h | h <;> simp [h]
theorem FSIn.store (l1 : List Res) {b : Nat} {t : TypeId} {vs : List Value} (h : FSIn w0 w fb mb N F next (l1 ++ .cell b t vs :: l2)) (j : Nat) (u : Value) (vs' : List Value) (he : vs.set j u = vs') : FSIn w0 (w.setCell ⟨b, j, none⟩ u) fb mb N F next (l1 ++ .cell b t vs' :: l2) := by
  obtain ⟨rs, hr, H⟩ := h
  have e : ∀ vs, (.cell fb 77 [.map (some mb), .int .i64 next] :: .obj mb (IsMapN N) :: (rs ++ (l1 ++ .cell b t vs :: l2)) : List Res) = (.cell fb 77 [.map (some mb), .int .i64 next] :: .obj mb (IsMapN N) :: (rs ++ l1)) ++ .cell b t vs :: l2 := fun vs => by simp
  rw [e] at H
  refine ⟨rs, hr, ?_⟩
  rw [e]
  exact H.store _ j u vs' he
theorem FSIn.forget (l1 : List Res) {r : Res} (h : FSIn w0 w fb mb N F next (l1 ++ r :: l2)) : FSIn w0 w fb mb N F next (l1 ++ l2) :=
  h.conv (fun x => by simp only [total_append, total_cons]; omega) fun hs q hq => hs q (by simp only [List.mem_append, List.mem_cons] at hq ⊢; rcases hq with h | h <;> simp [h])
theorem FSIn.cellAt (h : FSIn w0 w fb mb N F next l2) {b : Nat} {t : TypeId} {vs : List Value} (hm : Res.cell b t vs ∈ l2) {j : Nat} {v : Value} (hv : vs[j]? = some v) : w.cell? ⟨b, j, none⟩ = some v := by
  obtain ⟨rs, _, H⟩ := h
  exact H.cellAt (t := t) (vs := vs) (by simp [hm]) hv
theorem FSIn.frozenAt (h : FSIn w0 w fb mb N F next l2) {b : Nat} {t : TypeId} {vs : List Value} (hm : Res.cell b t vs ∈ l2) (j : Nat) : w.frozen? ⟨b, j, none⟩ = false := by
  obtain ⟨rs, _, H⟩ := h
  exact H.frozenAt (t := t) (vs := vs) (by simp [hm]) j
theorem FSIn.heapAt (h : FSIn w0 w fb mb N F next l2) {b : Nat} {t : TypeId} {vs : List Value} (hm : Res.cell b t vs ∈ l2) : w.heap[b]? = some (.cells vs.toArray t) := by
  obtain ⟨rs, _, H⟩ := h
  exact (H.sat (.cell b t vs) (by simp [hm])).2
theorem FSIn.map0 (h : FSIn w0 w fb mb N F next l2) : w.cell? ⟨fb, 0, none⟩ = some (.map (some mb)) := by
  obtain ⟨rs, _, H⟩ := h
  exact H.cellAt (t := 77) (vs := [.map (some mb), .int .i64 next]) (by simp) rfl
theorem FSIn.next1 (h : FSIn w0 w fb mb N F next l2) : w.cell? ⟨fb, 1, none⟩ = some (.int .i64 next) := by
  obtain ⟨rs, _, H⟩ := h
  exact H.cellAt (t := 77) (vs := [.map (some mb), .int .i64 next]) (by simp) rfl
theorem FSIn.mapSat (h : FSIn w0 w fb mb N F next l2) : Res.Sat w0.heap.size w (.obj mb (IsMapN N)) := by
  obtain ⟨rs, _, H⟩ := h
  exact H.sat _ (by simp)
theorem FSIn.look (h : FSIn w0 w fb mb N F next l2) {i : Int} (hi : WfI i) (W : World) (hW : W.heap = w.heap) : (Instr.lookup 75 (.map (some mb)) (.int .i64 i) false).run Tryz.prog W = .ok (atN N i).val W := by
  refine look_run (base := w0.heap.size) (N := N) ?_ hi
  obtain ⟨h1, o, h2, h3⟩ := h.mapSat
  exact ⟨h1, o, by rw [hW]; exact h2, h3⟩
theorem FSIn.below (h : FSIn w0 w fb mb N F next l2) : Below w0.heap.size w0 w := by
  obtain ⟨rs, _, H⟩ := h
  exact H0.below H
theorem FSIn.ready (h : FSIn w0 w fb mb N F next l2) (hR : Ready w0) : Ready w := hR.later h.below
theorem FSIn.six (h : FSIn w0 w fb mb N F next l2) {b : Nat} {a0 a1 a2 a3 a4 a5 : Value} (hm : Res.cell b 80 [a0, a1, a2, a3, a4, a5] ∈ l2) : w.cell? ⟨b, 0, none⟩ = some a0 ∧ w.cell? ⟨b, 1, none⟩ = some a1 ∧ w.cell? ⟨b, 2, none⟩ = some a2 ∧ w.cell? ⟨b, 3, none⟩ = some a3 ∧ w.cell? ⟨b, 4, none⟩ = some a4 ∧ w.cell? ⟨b, 5, none⟩ = some a5 ∧ w.frozen? ⟨b, 0, none⟩ = false ∧ w.frozen? ⟨b, 1, none⟩ = false ∧ w.frozen? ⟨b, 2, none⟩ = false ∧ w.frozen? ⟨b, 3, none⟩ = false ∧ w.frozen? ⟨b, 4, none⟩ = false ∧ w.frozen? ⟨b, 5, none⟩ = false :=
  ⟨h.cellAt hm (j := 0) rfl, h.cellAt hm (j := 1) rfl, h.cellAt hm (j := 2) rfl, h.cellAt hm (j := 3) rfl, h.cellAt hm (j := 4) rfl, h.cellAt hm (j := 5) rfl, h.frozenAt hm 0, h.frozenAt hm 1, h.frozenAt hm 2, h.frozenAt hm 3, h.frozenAt hm 4, h.frozenAt hm 5⟩
theorem FSIn.putsix (l1 : List Res) {b : Nat} {a0 a1 a2 a3 a4 a5 : Value} (h : FSIn w0 w fb mb N F next (l1 ++ .cell b 80 [a0, a1, a2, a3, a4, a5] :: l2)) (x0 x1 x2 x3 x4 x5 : Value) : FSIn w0 ((((((w.setCell ⟨b, 0, none⟩ x0).setCell ⟨b, 1, none⟩ x1).setCell ⟨b, 2, none⟩ x2).setCell ⟨b, 3, none⟩ x3).setCell ⟨b, 4, none⟩ x4).setCell ⟨b, 5, none⟩ x5) fb mb N F next (l1 ++ .cell b 80 [x0, x1, x2, x3, x4, x5] :: l2) :=
  ((((((h.store l1 0 x0 [x0, a1, a2, a3, a4, a5] rfl).store l1 1 x1 [x0, x1, a2, a3, a4, a5] rfl).store l1 2 x2 [x0, x1, x2, a3, a4, a5] rfl).store l1 3 x3 [x0, x1, x2, x3, a4, a5] rfl).store l1 4 x4 [x0, x1, x2, x3, x4, a5] rfl).store l1 5 x5 [x0, x1, x2, x3, x4, x5] rfl)
theorem FSIn.eight (h : FSIn w0 w fb mb N F next l2) {b : Nat} {a0 a1 a2 a3 a4 a5 a6 a7 : Value} (hm : Res.cell b 96 [a0, a1, a2, a3, a4, a5, a6, a7] ∈ l2) : w.cell? ⟨b, 0, none⟩ = some a0 ∧ w.cell? ⟨b, 1, none⟩ = some a1 ∧ w.cell? ⟨b, 2, none⟩ = some a2 ∧ w.cell? ⟨b, 3, none⟩ = some a3 ∧ w.cell? ⟨b, 4, none⟩ = some a4 ∧ w.cell? ⟨b, 5, none⟩ = some a5 ∧ w.cell? ⟨b, 6, none⟩ = some a6 ∧ w.cell? ⟨b, 7, none⟩ = some a7 ∧ w.frozen? ⟨b, 0, none⟩ = false ∧ w.frozen? ⟨b, 1, none⟩ = false ∧ w.frozen? ⟨b, 2, none⟩ = false ∧ w.frozen? ⟨b, 3, none⟩ = false ∧ w.frozen? ⟨b, 4, none⟩ = false ∧ w.frozen? ⟨b, 5, none⟩ = false ∧ w.frozen? ⟨b, 6, none⟩ = false ∧ w.frozen? ⟨b, 7, none⟩ = false :=
  ⟨h.cellAt hm (j := 0) rfl, h.cellAt hm (j := 1) rfl, h.cellAt hm (j := 2) rfl, h.cellAt hm (j := 3) rfl, h.cellAt hm (j := 4) rfl, h.cellAt hm (j := 5) rfl, h.cellAt hm (j := 6) rfl, h.cellAt hm (j := 7) rfl, h.frozenAt hm 0, h.frozenAt hm 1, h.frozenAt hm 2, h.frozenAt hm 3, h.frozenAt hm 4, h.frozenAt hm 5, h.frozenAt hm 6, h.frozenAt hm 7⟩
theorem FSIn.puteight (l1 : List Res) {b : Nat} {a0 a1 a2 a3 a4 a5 a6 a7 : Value} (h : FSIn w0 w fb mb N F next (l1 ++ .cell b 96 [a0, a1, a2, a3, a4, a5, a6, a7] :: l2)) (x0 x1 x2 x3 x4 x5 x6 x7 : Value) : FSIn w0 ((((((((w.setCell ⟨b, 0, none⟩ x0).setCell ⟨b, 1, none⟩ x1).setCell ⟨b, 2, none⟩ x2).setCell ⟨b, 3, none⟩ x3).setCell ⟨b, 4, none⟩ x4).setCell ⟨b, 5, none⟩ x5).setCell ⟨b, 6, none⟩ x6).setCell ⟨b, 7, none⟩ x7) fb mb N F next (l1 ++ .cell b 96 [x0, x1, x2, x3, x4, x5, x6, x7] :: l2) :=
  ((((((((h.store l1 0 x0 [x0, a1, a2, a3, a4, a5, a6, a7] rfl).store l1 1 x1 [x0, x1, a2, a3, a4, a5, a6, a7] rfl).store l1 2 x2 [x0, x1, x2, a3, a4, a5, a6, a7] rfl).store l1 3 x3 [x0, x1, x2, x3, a4, a5, a6, a7] rfl).store l1 4 x4 [x0, x1, x2, x3, x4, a5, a6, a7] rfl).store l1 5 x5 [x0, x1, x2, x3, x4, x5, a6, a7] rfl).store l1 6 x6 [x0, x1, x2, x3, x4, x5, x6, a7] rfl).store l1 7 x7 [x0, x1, x2, x3, x4, x5, x6, x7] rfl)
theorem FSIn.two (h : FSIn w0 w fb mb N F next l2) {b : Nat} {a0 a1 : Value} (hm : Res.cell b 38 [a0, a1] ∈ l2) : w.cell? ⟨b, 0, none⟩ = some a0 ∧ w.cell? ⟨b, 1, none⟩ = some a1 ∧ w.frozen? ⟨b, 0, none⟩ = false ∧ w.frozen? ⟨b, 1, none⟩ = false :=
  ⟨h.cellAt hm (j := 0) rfl, h.cellAt hm (j := 1) rfl, h.frozenAt hm 0, h.frozenAt hm 1⟩
theorem FSIn.puttwo (l1 : List Res) {b : Nat} {a0 a1 : Value} (h : FSIn w0 w fb mb N F next (l1 ++ .cell b 38 [a0, a1] :: l2)) (x0 x1 : Value) : FSIn w0 ((w.setCell ⟨b, 0, none⟩ x0).setCell ⟨b, 1, none⟩ x1) fb mb N F next (l1 ++ .cell b 38 [x0, x1] :: l2) :=
  ((h.store l1 0 x0 [x0, a1] rfl).store l1 1 x1 [x0, x1] rfl)
theorem results_node {fn : Func} {p u : Tmp} (h : fn.results = #[.cell p 80, .tmp u]) (tmps : Array Value) (w : World) (g : Nat) (a b c d e f : Value) {v : Value}
    (hp : tmps.getD p undef = .pointer (some ⟨g, 0, none⟩)) (hu2 : tmps.getD u undef = v) (hg : w.heap[g]? = some (.cells #[a, b, c, d, e, f] 80 (0, 0))) :
    (results fn tmps).run Tryz.prog w = .ok (.tuple #[.agg #[a, b, c, d, e, f], v]) w := by
  have hr := run_loadVar_row (P := Tryz.prog) w g 80 80 #[a, b, c, d, e, f] (0, 0) _ hg Tryz.underlying80 rfl (by kernel_rfl)
  rw [results_cell_tmp h, hp, hu2]
  simp [asAddr, hr]
theorem results_place {fn : Func} {p u : Tmp} (h : fn.results = #[.cell p 96, .tmp u]) (tmps : Array Value) (w : World) (g : Nat) (a b c d e f x y : Value) {v : Value}
    (hp : tmps.getD p undef = .pointer (some ⟨g, 0, none⟩)) (hu2 : tmps.getD u undef = v) (hg : w.heap[g]? = some (.cells #[a, b, c, d, e, f, x, y] 96 (0, 0))) :
    (results fn tmps).run Tryz.prog w = .ok (.tuple #[.agg #[a, b, c, d, e, f, x, y], v]) w := by
  have hr := run_loadVar_row (P := Tryz.prog) w g 96 96 #[a, b, c, d, e, f, x, y] (0, 0) _ hg Tryz.underlying96 rfl (by kernel_rfl)
  rw [results_cell_tmp h, hp, hu2]
  simp [asAddr, hr]
end Go.Proofs.YtjpmomklkkifjaaGreatDoor.T
