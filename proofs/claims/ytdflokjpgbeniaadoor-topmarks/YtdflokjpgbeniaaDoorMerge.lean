/-
  The contracts of slices.swapRangeCmpFunc, rotateCmpFunc and symMergeCmpFunc at marks, over the seat's program.
-/
import Derived.Test.YtdflokjpgbeniaaDoorWrite
import Derived.Deep.QuietTactic
import Derived.BigQuiet
import Derived.BigRegion
namespace Go.Proofs.YtdflokjpgbeniaaDoor
open Go.RowKit Go.Sort

/-- The row in its block: the signs, then what lies behind them; nothing else was touched since w0. -/
structure RowAt (w0 : World) (g : Nat) (tail : List Value) (zs : List Int) (w : World) : Prop where
  blk : w.heap[g]? = some (.cells (zs.map (Value.int .i32) ++ tail).toArray 21 (0, 0))
  grow : w0.grownBy w (some g)

theorem RowAt.cell {w0 w : World} {g : Nat} {tail : List Value} {zs : List Int} (h : RowAt w0 g tail zs w) {k : Nat} {z : Int} (hz : zs[k]? = some z) : w.cell? ⟨g, k, none⟩ = some (.int .i32 z) := by
  have hk : k < zs.length := (List.getElem?_eq_some_iff.1 hz).1
  rw [cell_of_row _ _ _ _ _ _ h.blk]
  simp only [List.getElem?_toArray]
  rw [List.getElem?_append_left (by simpa using hk), List.getElem?_map, hz]
  rfl
theorem RowAt.frozen {w0 w : World} {g : Nat} {tail : List Value} {zs : List Int} (h : RowAt w0 g tail zs w) (k : Nat) : w.frozen? ⟨g, k, none⟩ = false := frozen_of_row _ _ _ _ _ h.blk
theorem RowAt.set {w0 w : World} {g : Nat} {tail : List Value} {zs : List Int} (h : RowAt w0 g tail zs w) {k : Nat} (hk : k < zs.length) (z : Int) : RowAt w0 g tail (zs.set k z) (w.setCell ⟨g, k, none⟩ (.int .i32 z)) where
  blk := by
    rw [heap_setCell_same w g k _ 21 _ h.blk]
    simp only [List.setIfInBounds_toArray, Option.some.injEq, Obj.cells.injEq, and_true]
    rw [List.set_append_left _ _ (by simpa using hk), List.map_set]
  grow := by
    have h1 := h.grow
    refine ⟨h1.os, h1.tape, h1.output, by rw [World.size_setCell]; exact h1.size, fun j hj hne => ?_⟩
    rw [heap_setCell_other _ _ _ _ (by intro e; exact hne (by rw [e]))]
    exact h1.block j hj hne
theorem RowAt.drew {w0 w : World} {g : Nat} {tail : List Value} {zs : List Int} (h : RowAt w0 g tail zs w) (n : Nat) : RowAt w0 g tail zs (w.drewN n) := ⟨h.blk, ⟨h.grow.os, h.grow.tape, h.grow.output, h.grow.size, h.grow.block⟩⟩

set_option maxRecDepth 100000 in
theorem swapRange_calls (w0 : World) (g cap : Nat) (tail : List Value) (P X Q Y R : List Int) (w : World) (hXY : X.length = Y.length) (hlen : (P ++ X ++ Q ++ Y ++ R).length ≤ 1000) (h : RowAt w0 g tail (P ++ X ++ Q ++ Y ++ R) w) :
    Calls Tryd.prog 92 #[.slice (some ⟨g, 0, none⟩) (P ++ X ++ Q ++ Y ++ R).length cap, .int .i64 P.length, .int .i64 (P ++ X ++ Q).length, .int .i64 X.length, .func (.func 47) #[] #[]] w fun e w' =>
      e = .returned (.tuple #[]) ∧ RowAt w0 g tail (P ++ Y ++ Q ++ X ++ R) w' := by
  obtain ⟨N, hN⟩ : ∃ N, (P ++ X ++ Q ++ Y ++ R).length = N := ⟨_, rfl⟩
  obtain ⟨a, hA⟩ : ∃ a, P.length = a := ⟨_, rfl⟩
  obtain ⟨b, hB⟩ : ∃ b, (P ++ X ++ Q).length = b := ⟨_, rfl⟩
  obtain ⟨n, hX⟩ : ∃ n, X.length = n := ⟨_, rfl⟩
  have hY : Y.length = n := by omega
  rw [hN, hA, hB, hX]
  rw [hN] at hlen
  have hNb : b + n ≤ N := by
    simp only [List.length_append] at hN hB
    omega
  have hab : a + n ≤ b := by
    simp only [List.length_append] at hB
    omega
  have H := hide h
  have HA := hide hA
  have HB := hide hB
  have HN := hide hN
  have HX := hide hX
  have HY := hide hY
  clear h hXY hA hB hN hX hY
  go_enter Tryd.func92, Tryd.ntmps92
  go_wp2_with fail
  go_loopg [10] (n + 1) (fun k i wr => ∃ (j : Nat) (X1 X2 Y1 Y2 : List Int), k = n + 1 - j ∧ j ≤ n ∧ i = .int .i64 j ∧ Hid (X = X1 ++ X2 ∧ Y = Y1 ++ Y2 ∧ X1.length = j ∧ Y1.length = j) ∧ Hid (RowAt w0 g tail (P ++ (Y1 ++ X2) ++ Q ++ (X1 ++ Y2) ++ R) wr))
  case atStart => exact ⟨0, [], X, [], Y, rfl, by omega, rfl, ⟨rfl, rfl, rfl, rfl⟩, by have := unhide H; show RowAt _ _ _ _ _; simpa using this⟩
  case round =>
    obtain ⟨j, X1, X2, Y1, Y2, hk, hjn, rfl, HS, HR⟩ := hrel
    by_cases hj : j < n
    · have hjz : (j : Int) < (n : Int) := by omega
      obtain ⟨hX, hY, h1, h2⟩ := unhide HS
      have hxl := unhide HX
      have hyl := unhide HY
      have hal := unhide HA
      have hbl := unhide HB
      rw [hX, List.length_append] at hxl
      rw [hY, List.length_append] at hyl
      obtain ⟨x, X3, rfl⟩ : ∃ x X3, X2 = x :: X3 := by
        cases X2 with
        | nil => simp at hxl; omega
        | cons x X3 => exact ⟨x, X3, rfl⟩
      obtain ⟨y, Y3, rfl⟩ : ∃ y Y3, Y2 = y :: Y3 := by
        cases Y2 with
        | nil => simp at hyl; omega
        | cons y Y3 => exact ⟨y, Y3, rfl⟩
      have hQl : P.length + (Y1 ++ x :: X3).length + Q.length = b := by
        rw [← hbl, hX]
        simp only [List.length_append]
        omega
      have e1 : P ++ (Y1 ++ x :: X3) ++ Q ++ (X1 ++ y :: Y3) ++ R = (P ++ Y1) ++ x :: (X3 ++ Q ++ (X1 ++ y :: Y3) ++ R) := by simp
      have e2 : P ++ (Y1 ++ x :: X3) ++ Q ++ (X1 ++ y :: Y3) ++ R = (P ++ (Y1 ++ x :: X3) ++ Q ++ X1) ++ y :: (Y3 ++ R) := by simp
      obtain ⟨p1, hp1⟩ : ∃ p1, p1 = a + j := ⟨_, rfl⟩
      obtain ⟨p2, hp2⟩ : ∃ p2, p2 = b + j := ⟨_, rfl⟩
      have g1 : (P ++ (Y1 ++ x :: X3) ++ Q ++ (X1 ++ y :: Y3) ++ R)[p1]? = some x := by
        rw [e1, List.getElem?_append_right (by rw [List.length_append]; omega), List.length_append]
        have : p1 - (P.length + Y1.length) = 0 := by omega
        rw [this]
        rfl
      have l2 : (P ++ (Y1 ++ x :: X3) ++ Q ++ X1).length = p2 := by
        rw [List.length_append, List.length_append, List.length_append]
        omega
      have g2 : (P ++ (Y1 ++ x :: X3) ++ Q ++ (X1 ++ y :: Y3) ++ R)[p2]? = some y := by
        rw [e2, List.getElem?_append_right (by omega), l2, Nat.sub_self]
        rfl
      have c1 := (unhide HR).cell g1
      have c2 := (unhide HR).cell g2
      have f1 := (unhide HR).frozen p1
      have f2 := (unhide HR).frozen p2
      have Hset : Hid (((P ++ (Y1 ++ x :: X3) ++ Q ++ (X1 ++ y :: Y3) ++ R).set p1 y).set p2 x = P ++ ((Y1 ++ [y]) ++ X3) ++ Q ++ ((X1 ++ [x]) ++ Y3) ++ R) := by
        show _ = _
        have l1 : (P ++ Y1).length = p1 := by rw [List.length_append]; omega
        rw [e1, List.set_append_right _ _ (by omega), l1, Nat.sub_self, List.set_cons_zero]
        have e3 : (P ++ Y1) ++ y :: (X3 ++ Q ++ (X1 ++ y :: Y3) ++ R) = (P ++ (Y1 ++ y :: X3) ++ Q ++ X1) ++ y :: (Y3 ++ R) := by simp
        have l3 : (P ++ (Y1 ++ y :: X3) ++ Q ++ X1).length = p2 := by
          rw [← l2]
          simp
        rw [e3, List.set_append_right _ _ (by omega), l3, Nat.sub_self, List.set_cons_zero]
        simp
      have Hlt : Hid (p1 < (P ++ (Y1 ++ x :: X3) ++ Q ++ (X1 ++ y :: Y3) ++ R).length ∧ p2 < (P ++ (Y1 ++ x :: X3) ++ Q ++ (X1 ++ y :: Y3) ++ R).length) := ⟨(List.getElem?_eq_some_iff.1 g1).1, (List.getElem?_eq_some_iff.1 g2).1⟩
      have Hnew : Hid (X = (X1 ++ [x]) ++ X3 ∧ Y = (Y1 ++ [y]) ++ Y3 ∧ (X1 ++ [x]).length = j + 1 ∧ (Y1 ++ [y]).length = j + 1) := ⟨by rw [hX]; simp, by rw [hY]; simp, by simp [h1], by simp [h2]⟩
      have z1 : ((a : Int) + (j : Int)).toNat = p1 := by omega
      have z2 : ((b : Int) + (j : Int)).toNat = p2 := by omega
      have z3 : (a : Int) + (j : Int) < (N : Int) := by omega
      have z4 : (b : Int) + (j : Int) < (N : Int) := by omega
      have z5 : 0 ≤ (a : Int) + (j : Int) := by omega
      have z6 : 0 ≤ (b : Int) + (j : Int) := by omega
      have hne : p1 ≠ p2 := by omega
      have Hp : Hid (p1 = a + j ∧ p2 = b + j) := ⟨hp1, hp2⟩
      clear g1 g2 e1 e2 hQl hX hY h1 h2 hxl hyl hal hbl l2 hp1 hp2
      go_wp2_with fail
      go_big_region
      all_goals go_wp2
      go_roundg (n - j)
      case measure => omega
      case rel =>
        refine ⟨j + 1, X1 ++ [x], X3, Y1 ++ [y], Y3, by omega, by omega, by simp, unhide Hnew, ?_⟩
        have h1 := ((unhide HR).set (unhide Hlt).1 y).set (by rw [List.length_set]; exact (unhide Hlt).2) x
        rw [unhide Hset] at h1
        exact h1.drew 1
    · have hjz : ¬ (j : Int) < (n : Int) := by omega
      obtain ⟨hX, hY, h1, h2⟩ := unhide HS
      have hxl := unhide HX
      have hyl := unhide HY
      rw [hX, List.length_append] at hxl
      rw [hY, List.length_append] at hyl
      have e1 : X2 = [] := List.eq_nil_of_length_eq_zero (by omega)
      have e2 : Y2 = [] := List.eq_nil_of_length_eq_zero (by omega)
      subst e1 e2
      rw [List.append_nil] at hX hY
      have Hfin : Hid (RowAt w0 g tail (P ++ Y ++ Q ++ X ++ R) wr) := by
        show RowAt _ _ _ _ _
        rw [hX, hY]
        simpa using unhide HR
      clear hX hY h1 h2 hxl hyl
      go_wp2_with fail
      go_end0
      exact ⟨rfl, by have := unhide Hfin; simpa using this⟩

set_option maxRecDepth 100000 in
theorem rotate_calls (w0 : World) (g cap : Nat) (tail : List Value) (P X Y R : List Int) (w : World) (hX0 : X ≠ []) (hY0 : Y ≠ []) (hlen : (P ++ X ++ Y ++ R).length ≤ 1000) (h : RowAt w0 g tail (P ++ X ++ Y ++ R) w) :
    Calls Tryd.prog 87 #[.slice (some ⟨g, 0, none⟩) (P ++ X ++ Y ++ R).length cap, .int .i64 P.length, .int .i64 (P ++ X).length, .int .i64 (P ++ X ++ Y).length, .func (.func 47) #[] #[]] w fun e w' =>
      e = .returned (.tuple #[]) ∧ RowAt w0 g tail (P ++ Y ++ X ++ R) w' := by
  obtain ⟨N, hN⟩ : ∃ N, (P ++ X ++ Y ++ R).length = N := ⟨_, rfl⟩
  obtain ⟨a, hA⟩ : ∃ a, P.length = a := ⟨_, rfl⟩
  obtain ⟨m, hM⟩ : ∃ m, (P ++ X).length = m := ⟨_, rfl⟩
  obtain ⟨b, hB⟩ : ∃ b, (P ++ X ++ Y).length = b := ⟨_, rfl⟩
  obtain ⟨T, hT⟩ : ∃ T, P ++ Y ++ X ++ R = T := ⟨_, rfl⟩
  have hx0 := List.length_pos_iff.2 hX0
  have hy0 := List.length_pos_iff.2 hY0
  have hx : X.length = m - a ∧ a ≤ m := by rw [List.length_append] at hM; omega
  have hy : Y.length = b - m ∧ m ≤ b := by rw [List.length_append] at hB; omega
  have hNb : b ≤ N := by rw [List.length_append] at hN; omega
  rw [hN, hA, hM, hB, hT]
  rw [hN] at hlen
  have H0 : Hid (∃ (P' X' Y' R' : List Int), P' ++ X' ++ Y' ++ R' = P ++ X ++ Y ++ R ∧ P' ++ Y' ++ X' ++ R' = T ∧ X'.length = m - a ∧ Y'.length = b - m ∧ P'.length + X'.length = m) := ⟨P, X, Y, R, rfl, hT, hx.1, hy.1, by rw [← hM]; simp⟩
  have H := hide h
  have HN := hide hN
  have hm1 : (a : Int) < (m : Int) := by omega
  have hm2 : (m : Int) < (b : Int) := by omega
  clear h hX0 hY0 hA hM hB hT hx hy hx0 hy0 hN
  go_enter Tryd.func87, Tryd.ntmps87
  go_wp2_with fail
  go_loopg [10, 11] (b + 1) (fun k vi vj wr => ∃ (i j : Nat) (P' X' Y' R' : List Int), i + j ≤ k ∧ vi = .int .i64 i ∧ vj = .int .i64 j ∧ 0 < i ∧ 0 < j ∧ i ≤ m ∧ m + j ≤ N ∧ Hid (P' ++ Y' ++ X' ++ R' = T ∧ X'.length = i ∧ Y'.length = j ∧ P'.length + i = m ∧ (P' ++ X' ++ Y' ++ R').length = N) ∧ Hid (RowAt w0 g tail (P' ++ X' ++ Y' ++ R') wr))
  case atStart =>
    obtain ⟨P', X', Y', R', e1, e2, e3, e4, e5⟩ := unhide H0
    refine ⟨m - a, b - m, P', X', Y', R', by omega, ?_, ?_, by omega, by omega, by omega, by omega, ⟨e2, e3, e4, by omega, by rw [e1]; exact unhide HN⟩, ?_⟩
    · congr 1; omega
    · congr 1; omega
    · show RowAt _ _ _ _ _
      rw [e1]
      exact unhide H
  case round =>
    obtain ⟨i, j, P', X', Y', R', hk, rfl, rfl, hi0, hj0, him, hjN, HS, HR⟩ := hrel
    clear H0 H HN
    have hmi : (m : Int) - (i : Int) = ((m - i : Nat) : Int) := by omega
    obtain ⟨hT, h1, h2, h3, h4⟩ := unhide HS
    by_cases hij : i = j
    · have hij' : ((i : Int) == (j : Int)) = true := by simp [hij]
      have hc := swapRange_calls w0 g cap tail P' X' [] Y' R' wr (by omega) (by simp only [List.append_nil]; omega) (by simpa using unhide HR)
      rw [List.append_nil, h4, h1, show P'.length = m - i by omega, show (P' ++ X').length = m by rw [List.length_append]; omega] at hc
      have Hfin : Hid (P' ++ Y' ++ [] ++ X' ++ R' = T) := by
        show _ = _
        rw [List.append_nil]
        exact hT
      clear hT h1 h2 h3 h4
      generalize P' ++ Y' ++ [] ++ X' ++ R' = T2 at *
      subst hij
      go_wp2_with fail
      refine hc.mono ?_
      rintro e w1 ⟨rfl, hr1⟩
      go_wp2
      go_end0
      rw [← unhide Hfin]
      exact ⟨rfl, hr1⟩
    · have hij' : ((i : Int) == (j : Int)) = false := by simpa using (by omega : ¬ (i : Int) = (j : Int))
      by_cases hlt : j < i
      · have hltz : (j : Int) < (i : Int) := by omega
        obtain ⟨X1, X2, hX, hX1⟩ : ∃ X1 X2, X' = X1 ++ X2 ∧ X1.length = j := ⟨X'.take j, X'.drop j, by simp, by rw [List.length_take]; omega⟩
        subst hX
        rw [List.length_append] at h1
        have e : P' ++ (X1 ++ X2) ++ Y' ++ R' = P' ++ X1 ++ X2 ++ Y' ++ R' := by simp
        have hc := swapRange_calls w0 g cap tail P' X1 X2 Y' R' wr (by omega) (by rw [← e]; omega) (by rw [← e]; exact unhide HR)
        rw [← e, h4, hX1, show P'.length = m - i by omega, show (P' ++ X1 ++ X2).length = m by simp only [List.length_append]; omega] at hc
        have Hnew : Hid ((P' ++ Y') ++ X1 ++ X2 ++ R' = T ∧ X2.length = i - j ∧ X1.length = j ∧ (P' ++ Y').length + (i - j) = m ∧ ((P' ++ Y') ++ X2 ++ X1 ++ R').length = N) := by
          refine ⟨by rw [← hT]; simp, by omega, hX1, by rw [List.length_append]; omega, ?_⟩
          rw [← h4]
          simp only [List.length_append]
          omega
        clear hT h1 h2 h3 h4 e hX1
        obtain ⟨ys, hys⟩ : ∃ ys, P' ++ Y' ++ X2 ++ X1 ++ R' = ys := ⟨_, rfl⟩
        rw [hys] at hc
        have Hys := hide hys
        clear hys
        go_wp2_with fail
        refine hc.mono ?_
        rintro e w1 ⟨rfl, hr1⟩
        go_wp2
        go_roundg (i - j + j)
        case measure => omega
        case rel =>
          refine ⟨i - j, j, P' ++ Y', X2, X1, R', by omega, ?_, rfl, by omega, hj0, by omega, hjN, unhide Hnew, ?_⟩
          · congr 1; omega
          · show RowAt _ _ _ _ _
            rw [unhide Hys]
            exact hr1
      · have hltz : ¬ (j : Int) < (i : Int) := by omega
        obtain ⟨Y1, Y2, hY, hY2⟩ : ∃ Y1 Y2, Y' = Y1 ++ Y2 ∧ Y2.length = i := ⟨Y'.take (j - i), Y'.drop (j - i), by simp, by rw [List.length_drop]; omega⟩
        subst hY
        rw [List.length_append] at h2
        have e : P' ++ X' ++ (Y1 ++ Y2) ++ R' = P' ++ X' ++ Y1 ++ Y2 ++ R' := by simp
        have hc := swapRange_calls w0 g cap tail P' X' Y1 Y2 R' wr (by omega) (by rw [← e]; omega) (by rw [← e]; exact unhide HR)
        rw [← e, h4, h1, show P'.length = m - i by omega, show (P' ++ X' ++ Y1).length = m + j - i by simp only [List.length_append]; omega] at hc
        have Hnew : Hid (P' ++ Y1 ++ Y2 ++ (X' ++ R') = T ∧ Y2.length = i ∧ Y1.length = j - i ∧ P'.length + i = m ∧ (P' ++ Y2 ++ Y1 ++ (X' ++ R')).length = N) := by
          refine ⟨by rw [← hT]; simp, hY2, by omega, h3, ?_⟩
          rw [← h4]
          simp only [List.length_append]
          omega
        clear hT h1 h2 h3 h4 e hY2
        obtain ⟨ys, hys⟩ : ∃ ys, P' ++ Y2 ++ Y1 ++ X' ++ R' = ys := ⟨_, rfl⟩
        rw [hys] at hc
        have Hys := hide hys
        clear hys
        have hmj : (m : Int) + (j : Int) - (i : Int) = ((m + j - i : Nat) : Int) := by omega
        go_wp2_with fail
        refine hc.mono ?_
        rintro e w1 ⟨rfl, hr1⟩
        go_wp2
        go_roundg (i + (j - i))
        case measure => omega
        case rel =>
          refine ⟨i, j - i, P', Y2, Y1, X' ++ R', by omega, rfl, ?_, hi0, by omega, him, by omega, unhide Hnew, ?_⟩
          · congr 1; omega
          · show RowAt _ _ _ _ _
            have h5 := hr1
            rw [← unhide Hys] at h5
            simpa using h5
end Go.Proofs.YtdflokjpgbeniaaDoor
