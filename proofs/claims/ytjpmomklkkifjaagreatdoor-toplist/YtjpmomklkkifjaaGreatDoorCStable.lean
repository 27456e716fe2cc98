/-
  The contract of slices.SortStableFunc at fewer than forty marks, over the seat's program: they are sorted by their classes, those of one class as they stood.
-/
import Derived.Test.YtjpmomklkkifjaaGreatDoorCSymAll
namespace Go.Proofs.YtjpmomklkkifjaaGreatDoor
open Go.RowKit Go.Sort Go.Lib
set_option maxRecDepth 100000

theorem get_shift (P l : List Int) (j : Nat) : (P ++ l).toArray[P.length + j]! = l.toArray[j]! := by
  simp [List.getElem?_append_right]
theorem swp_shift (P l : List Int) (i j : Nat) : swp (P ++ l).toArray (P.length + i) (P.length + j) = (P ++ (swp l.toArray i j).toList).toArray := by
  unfold swp
  rw [get_shift, get_shift]
  simp only [List.setIfInBounds_toArray]
  rw [List.set_append_right _ _ (by omega), List.set_append_right _ _ (by omega)]
  simp
theorem inner_shift (P : List Int) : ∀ (j : Nat) (l : List Int), insInner (ltOf cmpZ) P.length (P.length + j) (P ++ l).toArray = (P ++ (insInner (ltOf cmpZ) 0 j l.toArray).toList).toArray
  | 0, l => by
    rw [insInner_stop _ _ _ _ (.inl (by omega)), insInner_stop _ _ _ _ (.inl (by omega))]
  | j + 1, l => by
    cases hl : ltOf cmpZ l.toArray[j + 1]! l.toArray[j]! with
    | true =>
      rw [insInner_go _ _ _ _ (by omega) (by rw [get_shift, show P.length + (j + 1) - 1 = P.length + j by omega, get_shift]; exact hl), insInner_go _ 0 (j + 1) _ (by omega) hl, show P.length + (j + 1) - 1 = P.length + j by omega, swp_shift, Nat.add_sub_cancel]
      have h := inner_shift P j (swp l.toArray (j + 1) j).toList
      simp only [Array.toArray_toList] at h
      exact h
    | false =>
      rw [insInner_stop _ _ _ _ (.inr (by rw [get_shift, show P.length + (j + 1) - 1 = P.length + j by omega, get_shift]; exact hl)), insInner_stop _ 0 (j + 1) _ (.inr hl)]
theorem outer_part (P S : List Int) : ∀ (R pre : List Int), (∀ a ∈ pre, Mark a) → (∀ a ∈ R, Mark a) → insOuter (ltOf cmpZ) P.length (P.length + pre.length + R.length) (P.length + pre.length) (P ++ (sortM pre ++ R ++ S)).toArray = (P ++ (sortM (pre ++ R) ++ S)).toArray
  | [], pre, _, _ => by
    rw [insOuter_stop _ _ _ _ _ (by simp)]
    simp
  | x :: R, pre, hp, hR => by
    have hst := step pre (R ++ S) x hp (hR x (by simp))
    have e : sortM pre ++ x :: R ++ S = sortM pre ++ x :: (R ++ S) := by simp
    rw [insOuter_go _ _ _ _ _ (by simp), inner_shift, e, hst]
    have := outer_part P S R (pre ++ [x]) (fun a ha => by
      rcases List.mem_append.1 ha with h | h
      · exact hp a h
      · simp at h; subst h; exact hR a (by simp)) (fun a ha => hR a (by simp [ha]))
    simp only [List.length_append, List.length_cons, List.length_nil, List.append_assoc] at this ⊢
    rw [show P.length + pre.length + (R.length + 1) = P.length + (pre.length + (0 + 1)) + R.length by omega, show P.length + pre.length + 1 = P.length + (pre.length + (0 + 1)) by omega]
    exact this
theorem sort_part (P M S : List Int) (h : ∀ a ∈ M, Mark a) : insertionSort (ltOf cmpZ) (P ++ M ++ S).toArray P.length (P.length + M.length) = (P ++ sortM M ++ S).toArray := by
  unfold insertionSort
  cases M with
  | nil =>
    rw [insOuter_stop _ _ _ _ _ (by simp)]
    rfl
  | cons x l =>
    have h1 : sortM [x] = [x] := by
      unfold sortM
      cases h : classZ x == 202 <;> simp [h]
    have := outer_part P S l [x] (fun a ha => by simp at ha; subst ha; exact h a (by simp)) (fun a ha => h a (by simp [ha]))
    rw [h1] at this
    simp only [List.length_cons, List.length_nil] at this ⊢
    rw [show P.length + (l.length + 1) = P.length + (0 + 1) + l.length by omega]
    simpa using this

/-- One part of the row is sorted. -/
theorem ins_row (w0 : World) (g cap : Nat) (tail : List Value) (P M S : List Int) (w : World) (hM : ∀ a ∈ M, Mark a) (hlen : (P ++ M ++ S).length ≤ 1000) (h : RowAt w0 g tail (P ++ M ++ S) w) :
    Calls Tryz.prog 207 #[.slice (some ⟨g, 0, none⟩) (P ++ M ++ S).length cap, .int .i64 P.length, .int .i64 (P.length + M.length : Nat), .func (.func 137) #[] #[]] w fun e w' =>
      e = .returned (.tuple #[]) ∧ RowAt w0 g tail (P ++ sortM M ++ S) w' := by
  have hH : Holds (Value.int .i32) w g 0 (P ++ M ++ S).toArray := by
    intro j hj
    have hj' : j < (P ++ M ++ S).length := by simpa using hj
    rw [Nat.zero_add]
    refine ⟨?_, h.frozen j⟩
    have hg : (P ++ M ++ S)[j]? = some (P ++ M ++ S).toArray[j]! := by
      rw [List.getElem?_eq_getElem hj']
      simp only [List.getElem!_toArray]
      rw [getElem!_pos (P ++ M ++ S) j hj']
    exact h.cell hg
  have hc := Any.insertionSortCmpFunc_one insLays (Value.int .i32) (fun _ => rfl) cmpZ 137 #[] g 0 cap P.length (P.length + M.length) (P ++ M ++ S).toArray w enter47
    (fun m os dk _ x y => (cmp_calls x y _).mono fun e w' ⟨he, hw⟩ => ⟨he, 0, hw⟩) hH (by omega) (by simp) (by simp at hlen ⊢; omega)
  rw [sort_part P M S hM] at hc
  have e1 : (P ++ M ++ S).toArray.size = (P ++ M ++ S).length := by simp
  rw [e1] at hc
  refine hc.mono fun e w' ⟨he, n, hw⟩ => ⟨he, ?_⟩
  subst hw
  have hl : (P ++ sortM M ++ S).length = (P ++ M ++ S).length := by simp [sortM_length]
  refine RowAt.drew ⟨?_, ?_⟩ n
  · show (putRow (Value.int .i32) w g 0 (P ++ sortM M ++ S).toArray).heap[g]? = _
    unfold putRow mapBlock
    rw [Array.getElem?_modify, if_pos rfl, h.blk]
    show some (Obj.cells (putCells _ _ _ _) 21 (0, 0)) = _
    congr 2
    unfold putCells
    apply Array.ext_getElem?
    intro k
    rw [Array.getElem?_mapIdx]
    simp only [List.getElem?_toArray]
    by_cases hk : k < (P ++ M ++ S).length
    · have hk2 : k < (P ++ sortM M ++ S).length := by omega
      rw [List.getElem?_append_left (by simpa using hk), List.getElem?_append_left (by simpa using hk2), List.getElem?_map, List.getElem?_map, List.getElem?_eq_getElem hk, List.getElem?_eq_getElem hk2]
      simp only [Option.map_some]
      rw [if_pos ⟨Nat.zero_le _, by simpa using hk2⟩]
      simp only [Nat.sub_zero, List.getElem!_toArray]
      rw [getElem!_pos (P ++ sortM M ++ S) k hk2]
    · have hk2 : ¬ k < (P ++ sortM M ++ S).length := by omega
      rw [List.getElem?_append_right (by simpa using hk), List.getElem?_append_right (by simpa using hk2), List.length_map, List.length_map, hl]
      cases hv : tail[k - (P ++ M ++ S).length]? with
      | none => rfl
      | some v =>
        simp only [Option.map_some]
        rw [if_neg (fun h9 => hk2 (by simpa using h9.2))]
  · have hg := h.grow
    refine ⟨hg.os, hg.tape, hg.output, ?_, fun k hk hne => ?_⟩
    · rw [size_putRow]
      exact hg.size
    · show (putRow (Value.int .i32) w g 0 (P ++ sortM M ++ S).toArray).heap[k]? = _
      unfold putRow mapBlock
      rw [Array.getElem?_modify, if_neg (fun e => hne (by rw [← e]))]
      exact hg.block k hk hne

theorem low_sortM {l : List Int} : lowM (sortM l) = lowM l := by
  rw [sortM_low_high, lowM_append, low_nil (l := highM l) (fun x hx => high_mem hx), List.append_nil]
  unfold lowM
  rw [List.filter_filter]
  simp
theorem high_sortM {l : List Int} : highM (sortM l) = highM l := by
  rw [sortM_low_high, highM_append, high_nil (l := lowM l) (fun x hx => low_mem hx), List.nil_append]
  unfold highM
  rw [List.filter_filter]
  simp
theorem sortM_parts (A B : List Int) : sortM (sortM A ++ sortM B) = sortM (A ++ B) := by
  rw [sortM_low_high (sortM A ++ sortM B), sortM_low_high (A ++ B), lowM_append, highM_append, lowM_append, highM_append, low_sortM, low_sortM, high_sortM, high_sortM]

set_option maxRecDepth 100000 in
theorem stable_row (w0 : World) (g cap : Nat) (tail : List Value) (ms : List Int) (w : World) (hM : ∀ a ∈ ms, Mark a) (h20 : 20 ≤ ms.length) (h40 : ms.length < 40) (h : RowAt w0 g tail ms w) :
    Calls Tryz.prog 178 #[.slice (some ⟨g, 0, none⟩) ms.length cap, .int .i64 ms.length, .func (.func 137) #[] #[]] w fun e w' =>
      e = .returned (.tuple #[]) ∧ RowAt w0 g tail (sortM ms) w' := by
  obtain ⟨A, B, hAB, hA⟩ : ∃ A B, ms = A ++ B ∧ A.length = 20 := ⟨ms.take 20, ms.drop 20, by simp, by rw [List.length_take]; omega⟩
  have hMA : ∀ a ∈ A, Mark a := fun a ha => hM a (by rw [hAB]; simp [ha])
  have hMB : ∀ a ∈ B, Mark a := fun a ha => hM a (by rw [hAB]; simp [ha])
  have hlB : A.length + B.length = ms.length := by rw [hAB]; simp
  obtain ⟨n, hn⟩ : ∃ n, ms.length = n := ⟨_, rfl⟩
  have i1 : ∀ w, RowAt w0 g tail ms w → Calls Tryz.prog 207 #[.slice (some ⟨g, 0, none⟩) n cap, .int .i64 0, .int .i64 20, .func (.func 137) #[] #[]] w fun e w' => e = .returned (.tuple #[]) ∧ RowAt w0 g tail (sortM A ++ B) w' := fun w hw => by
    have h1 := ins_row w0 g cap tail [] A B w hMA (by simp; omega) (by rw [List.nil_append, ← hAB]; exact hw)
    rw [List.nil_append, ← hAB, List.nil_append, hn, hA] at h1
    exact h1
  have i2 : ∀ w, RowAt w0 g tail (sortM A ++ B) w → Calls Tryz.prog 207 #[.slice (some ⟨g, 0, none⟩) n cap, .int .i64 20, .int .i64 n, .func (.func 137) #[] #[]] w fun e w' => e = .returned (.tuple #[]) ∧ RowAt w0 g tail (sortM A ++ sortM B) w' := fun w hw => by
    have h1 := ins_row w0 g cap tail (sortM A) B [] w hMB (by simp [sortM_length]; omega) (by rw [List.append_nil]; exact hw)
    rw [List.append_nil, List.append_nil, List.length_append, sortM_length, hlB, hn, hA] at h1
    exact h1
  have hfin := sortM_parts A B
  rw [← hAB] at hfin
  by_cases hn20 : n = 20
  · have hB0 : B = [] := List.eq_nil_of_length_eq_zero (by omega)
    have e1 : sortM A ++ sortM B = sortM ms := by rw [hAB, hB0]; simp [sortM]
    rw [e1] at i2
    have I1 := hide i1
    have I2 := hide i2
    have H := hide h
    rw [hn]
    clear i1 i2 h hM hMA hMB hfin e1 hAB hlB hA hn h20 h40 hB0
    generalize sortM ms = T at *
    generalize sortM A ++ B = T1 at *
    subst hn20
    go_enter Tryz.func178, Tryz.ntmps178
    go_wp2_with fail
    refine wp_loop_rounds 2 ?_
    rw [rounds_succ]
    go_wp2_with fail
    refine (unhide I1 _ (unhide H)).mono ?_
    rintro e w1 ⟨rfl, hr1⟩
    go_wp2_with fail
    rw [rounds_succ]
    go_wp2_with fail
    refine (unhide I2 _ hr1).mono ?_
    rintro e w2 ⟨rfl, hr2⟩
    go_wp2_with fail
    refine wp_loop_rounds 1 ?_
    rw [rounds_succ]
    go_wp2_with fail
    go_end0
    exact ⟨rfl, hr2⟩
  · have hB0 : B ≠ [] := by intro hb; rw [hb, List.length_nil] at hlB; omega
    have hA0 : A ≠ [] := by intro hb; rw [hb, List.length_nil] at hA; omega
    have i3 : ∀ w, RowAt w0 g tail (sortM A ++ sortM B) w → Calls Tryz.prog 208 #[.slice (some ⟨g, 0, none⟩) n cap, .int .i64 0, .int .i64 20, .int .i64 n, .func (.func 137) #[] #[]] w fun e w' => e = .returned (.tuple #[]) ∧ RowAt w0 g tail (sortM ms) w' := fun w hw => by
      have hlA : (sortM A).length = 20 := by rw [sortM_length]; exact hA
      have hlB2 : (sortM B).length = B.length := sortM_length B
      have hA1 : sortM A ≠ [] := fun hb => by rw [hb, List.length_nil] at hlA; omega
      have hB1 : sortM B ≠ [] := fun hb => by
        rw [hb, List.length_nil] at hlB2
        exact hB0 (List.eq_nil_of_length_eq_zero hlB2.symm)
      exact (symMerge_all 1000).at (w0 := w0) (g := g) (cap := cap) (tail := tail) (P := []) (L := sortM A) (R := sortM B) (S := []) (zs := sortM A ++ sortM B) (ys := sortM ms) (N := n) (a := 0) (m := 20) (b := n) (by omega) hA1 hB1 (srt_sortM hMA) (srt_sortM hMB) (by rw [List.length_append]; omega) (by omega) (by rw [List.nil_append, List.append_nil]) (by rw [List.nil_append, List.append_nil, hfin]) rfl (by omega) (by omega) w hw
    have I1 := hide i1
    have I2 := hide i2
    have I3 := hide i3
    have H := hide h
    have hz1 : (20 : Int) ≤ (n : Int) := by omega
    have hz2 : ¬ (40 : Int) ≤ (n : Int) := by omega
    have hz3 : (20 : Int) < (n : Int) := by omega
    have hz4 : ¬ (40 : Int) < (n : Int) := by omega
    rw [hn]
    clear i1 i2 i3 h hM hMA hMB hfin hAB hlB hA hn h20 h40 hB0 hA0
    generalize sortM ms = T at *
    generalize sortM A ++ B = T1 at *
    generalize sortM A ++ sortM B = T2 at *
    go_enter Tryz.func178, Tryz.ntmps178
    go_wp2_with fail
    refine wp_loop_rounds 2 ?_
    rw [rounds_succ]
    go_wp2_with fail
    refine (unhide I1 _ (unhide H)).mono ?_
    rintro e w1 ⟨rfl, hr1⟩
    go_wp2_with fail
    rw [rounds_succ]
    go_wp2_with fail
    refine (unhide I2 _ hr1).mono ?_
    rintro e w2 ⟨rfl, hr2⟩
    go_wp2_with fail
    refine wp_loop_rounds 2 ?_
    rw [rounds_succ]
    go_wp2_with fail
    refine wp_loop_rounds 1 ?_
    rw [rounds_succ]
    go_wp2_with fail
    refine (unhide I3 _ hr2).mono ?_
    rintro e w3 ⟨rfl, hr3⟩
    go_wp2_with fail
    rw [rounds_succ]
    go_wp2_with fail
    go_end0
    exact ⟨rfl, hr3⟩

set_option maxRecDepth 100000 in
theorem sort_row (w0 : World) (g cap : Nat) (tail : List Value) (ms : List Int) (w : World) (hM : ∀ a ∈ ms, Mark a) (h20 : 20 ≤ ms.length) (h40 : ms.length < 40) (h : RowAt w0 g tail ms w) :
    Calls Tryz.prog 136 #[.slice (some ⟨g, 0, none⟩) ms.length cap, .func (.func 137) #[] #[]] w fun e w' =>
      e = .returned (.tuple #[]) ∧ RowAt w0 g tail (sortM ms) w' := by
  have hi := stable_row w0 g cap tail ms w hM h20 h40 h
  generalize sortM ms = T at *
  generalize ms.length = n at *
  clear h hM
  go_enter Tryz.func136, Tryz.ntmps136
  go_wp2_with fail
  refine hi.mono ?_
  rintro e w1 ⟨rfl, hr1⟩
  go_wp2
  go_end0
  exact ⟨rfl, hr1⟩

/-- THE SORT OF A ROW OF MARKS, fewer than forty. -/
theorem sort_owns2 (B : Nat) (ms : List Int) (v : Value) (w : World) (h : w.ownsRow B 21 1 v ms.length (ms.map (Value.int .i32))) (hm : ∀ a ∈ ms, Mark a) (hn : ms.length < 40) :
    Calls Tryz.prog 136 #[v, .func (.func 137) #[] #[]] w fun e w' => e = .returned (.tuple #[]) ∧ w'.ownsRow B 21 1 v ms.length ((sortM ms).map (Value.int .i32)) ∧ w.grownBy w' v.ownBlock := by
  by_cases h20 : ms.length < 20
  · exact sort_owns B ms v w h hm h20
  · rcases h.2 with ⟨_, hz⟩ | ⟨g, cap, cur, rfl, hbg, hgg, hnc, hcm, hcs, htake⟩
    · omega
    · rw [Nat.mul_one] at htake
      have hcur : cur = (ms.map (Value.int .i32) ++ cur.toList.drop ms.length).toArray := by
        rw [← htake, List.take_append_drop]
      have hR : RowAt w g (cur.toList.drop ms.length) ms w := ⟨by rw [hgg, ← hcur], ⟨rfl, rfl, rfl, Nat.le_refl _, fun _ _ _ => rfl⟩⟩
      refine (sort_row w g cap _ ms w hm (by omega) hn hR).mono fun e w' ⟨he, hr⟩ => ⟨he, ?_, hr.grow⟩
      refine ⟨by rw [List.length_map, sortM_length]; omega, .inr ⟨g, cap, _, rfl, hbg, hr.blk, hnc, hcm, ?_, ?_⟩⟩
      · rw [← hcs]
        have h9 : cur.size = (ms.map (Value.int .i32) ++ cur.toList.drop ms.length).length := by
          rw [← List.size_toArray, ← hcur]
        rw [h9]
        simp [sortM_length]
      · rw [Nat.mul_one]
        simp [sortM_length]
end Go.Proofs.YtjpmomklkkifjaaGreatDoor
