/-
  The contracts of slices.Insert, Clone and Delete, told of what is owned.
-/
import Derived.Test.YtklnonmmamdecabOwn
import Derived.Test.YtklnonmmamdecabInsertI
import Derived.Test.YtklnonmmamdecabInsertN
import Derived.Test.YtklnonmmamdecabCloneI
import Derived.Test.YtklnonmmamdecabCloneN
import Derived.Test.YtklnonmmamdecabDeleteI
import Derived.Test.YtklnonmmamdecabDeleteN
namespace Go.Proofs.Ytklnonmmamdecab
open Go.RowKit Go.Lib
set_option linter.unusedVariables false
set_option linter.unusedSimpArgs false

theorem row_shape {w : World} {base : Nat} {e : TypeId} {k : Nat} {v : Value} {n : Nat} {xs : List Value} (h : w.ownsRow base e k v n xs) (hn : 0 < n) : ∃ g cap, v = .slice (some ⟨g, 0, none⟩) n cap ∧ n ≤ cap ∧ cap ≤ 9223372036854775807 := by
  rcases h.2 with ⟨_, rfl⟩ | ⟨g, cap, cur, rfl, _, _, hc, hm, _⟩
  · omega
  · exact ⟨g, cap, rfl, hc, by unfold maxLen at hm; omega⟩
theorem ptrs_one (kids : List Kid) : ∀ u ∈ kids.map (fun y => ptrV y.b), u.oneCell' = true := by
  intro u hu
  obtain ⟨x, _, rfl⟩ := List.mem_map.1 hu
  rfl
/-- A pointer in a row of nodes. -/
theorem ptr_cell {w : World} {base g n cap : Nat} {kids : List Kid} (h : w.ownsRow base 49 1 (.slice (some ⟨g, 0, none⟩) n cap) n (kids.map fun y => ptrV y.b)) {j : Nat} {k : Kid} (hk : kids[j]? = some k) : w.cell? ⟨g, j, none⟩ = some (.pointer (some ⟨k.b, 0, none⟩)) := by
  have hl : kids.length = n := by have := h.1; simpa using this
  have hj : j < kids.length := (List.getElem?_eq_some_iff.1 hk).1
  rw [h.cellAt j (by omega), List.getElem?_map, hk]
  rfl
/-- An entry in a row of entries. -/
theorem item_cell {w : World} {base g n cap : Nat} {its : List Item} (h : w.ownsRow base 58 3 (.slice (some ⟨g, 0, none⟩) n cap) n (flat its)) {j : Nat} {x : Item} (hk : its[j]? = some x) : w.cell? ⟨g, j * 3, none⟩ = some (.string x.key) ∧ w.cell? ⟨g, j * 3 + 1, none⟩ = some (.string x.name) ∧ w.cell? ⟨g, j * 3 + 2, none⟩ = some (.int .i64 x.node) := by
  have hl : its.length * 3 = n * 3 := by rw [← h.1, flat_length]
  obtain ⟨hj, rfl⟩ := List.getElem?_eq_some_iff.1 hk
  have h1 := flat_get its j hj
  exact ⟨by rw [h.cellAt _ (by omega)]; exact h1.1, by rw [h.cellAt _ (by omega)]; exact h1.2.1, by rw [h.cellAt _ (by omega)]; exact h1.2.2⟩

section
variable {base : Nat} {w0 w : World} {K0 : Nat → Nat}

theorem Hold.low {rs : List Res} (H : Hold base w0 K0 w rs) {b : Nat} {t : TypeId} {vs : List Value} (hm : Res.cell b t vs ∈ rs) : base ≤ w.heap.size := by
  have := (H.sat _ hm).range b (by show 0 < one b b; rw [one_self]; decide)
  omega

/-- How a call ends that turns one row of entries. -/
def RowEnd (base : Nat) (w0 : World) (K0 : Nat → Nat) (n : Nat) (f : Value → List Res) (e : Ending) (w' : World) : Prop :=
  ∃ g cap, e = .returned (.slice (some ⟨g, 0, none⟩) n cap) ∧ n ≤ cap ∧ cap ≤ 9223372036854775807 ∧ Hold base w0 K0 w' (f (.slice (some ⟨g, 0, none⟩) n cap))

theorem hold_insertI (l1 : List Res) {v : Value} {a c : List Item} {l2 : List Res} {vb vc : Nat} {m : Item} (H : Hold base w0 K0 w (.cell vb 58 (cellsOf m) :: (l1 ++ rowI v (a ++ c) :: l2))) {i n : Nat} (hi : a.length = i) (hn : (a ++ c).length = n) (hl : n ≤ 100) :
    Calls Try.prog 33 #[v, .int .i64 i, .slice (some ⟨vb, 0, none⟩) 1 vc] w fun e w' => RowEnd base w0 K0 (n + 1) (fun v' => l1 ++ rowI v' (a ++ m :: c) :: l2) e w' := by
  have hr : w.ownsRow base 58 3 v n (flat (a ++ c)) := by rw [← hn]; exact H.rowAt (by simp [rowI])
  have hne : v.ownBlock ≠ some vb := fun e => by
    have h1 := H.uniq vb
    simp only [total_cons, total_append, rowI, foot_cell, foot_row, one_self, blkN_self e] at h1
    omega
  have hin : i ≤ n := by rw [← hn, ← hi, List.length_append]; omega
  refine (insertI_calls base v n i (flat (a ++ c)) (cellsOf m) vb vc w hr hin hl (H.low (b := vb) (t := 58) (vs := cellsOf m) (by simp)) (flat_one _) (H.sat (.cell vb 58 (cellsOf m)) (by simp)).2 rfl (fun u hu => flat_one [m] u (by simpa [flat] using hu)) hne).mono ?_
  rintro e w' ⟨v', rfl, hr', hg, ha⟩
  obtain ⟨g, cap, rfl, h1, h2⟩ := row_shape hr' (by omega)
  refine ⟨g, cap, rfl, h1, h2, ?_⟩
  have e1 : (flat (a ++ c)).take (i * 3) ++ cellsOf m ++ (flat (a ++ c)).drop (i * 3) = flat (a ++ m :: c) := by
    rw [flat_take, flat_drop, ← hi, List.take_left, List.drop_left, flat_append, show flat (m :: c) = cellsOf m ++ flat c from rfl, List.append_assoc]
  rw [e1] at hr'
  have h3 := (H.forget []).grow l1 (v := v) hg hr' ha
  have e2 : n + 1 = (a ++ m :: c).length := by rw [← hn]; simp; omega
  show Hold base w0 K0 w' (l1 ++ Res.row _ 58 3 (a ++ m :: c).length (flat (a ++ m :: c)) :: l2)
  rw [← e2]
  exact h3
theorem hold_insertN (l1 : List Res) {v : Value} {a c : List Kid} {l2 : List Res} {vb vc : Nat} {m : Kid} (H : Hold base w0 K0 w (.cell vb 49 [ptrV m.b] :: (l1 ++ rowN v (a ++ c) :: l2))) {i n : Nat} (hi : a.length = i) (hn : (a ++ c).length = n) (hl : n ≤ 100) :
    Calls Try.prog 35 #[v, .int .i64 i, .slice (some ⟨vb, 0, none⟩) 1 vc] w fun e w' => RowEnd base w0 K0 (n + 1) (fun v' => l1 ++ rowN v' (a ++ m :: c) :: l2) e w' := by
  have hr : w.ownsRow base 49 1 v n ((a ++ c).map fun y => ptrV y.b) := by rw [← hn]; exact H.rowAt (by simp [rowN])
  have hne : v.ownBlock ≠ some vb := fun e => by
    have h1 := H.uniq vb
    simp only [total_cons, total_append, rowN, foot_cell, foot_row, one_self, blkN_self e] at h1
    omega
  have hin : i ≤ n := by rw [← hn, ← hi, List.length_append]; omega
  refine (insertN_calls base v n i _ [ptrV m.b] vb vc w hr hin hl (H.low (b := vb) (t := 49) (vs := [ptrV m.b]) (by simp)) (ptrs_one _) (H.sat (.cell vb 49 [ptrV m.b]) (by simp)).2 rfl (fun u hu => by simp at hu; subst hu; rfl) hne).mono ?_
  rintro e w' ⟨v', rfl, hr', hg, ha⟩
  obtain ⟨g, cap, rfl, h1, h2⟩ := row_shape hr' (by omega)
  refine ⟨g, cap, rfl, h1, h2, ?_⟩
  have e1 : ((a ++ c).map fun y => ptrV y.b).take i ++ [ptrV m.b] ++ ((a ++ c).map fun y => ptrV y.b).drop i = (a ++ m :: c).map fun y => ptrV y.b := by
    rw [← List.map_take, ← List.map_drop, ← hi, List.take_left, List.drop_left]
    simp
  rw [e1] at hr'
  have h3 := (H.forget []).grow l1 (v := v) hg hr' ha
  have e2 : n + 1 = (a ++ m :: c).length := by rw [← hn]; simp; omega
  show Hold base w0 K0 w' (l1 ++ Res.row _ 49 1 (a ++ m :: c).length ((a ++ m :: c).map fun y => ptrV y.b) :: l2)
  rw [← e2]
  exact h3

/-- A part of a row, in a new block. -/
theorem hold_cloneI {rs : List Res} (H : Hold base w0 K0 w rs) {g cap n : Nat} {a m c : List Item} (hm : rowI (.slice (some ⟨g, 0, none⟩) n cap) (a ++ m ++ c) ∈ rs) (hb : base ≤ w.heap.size) {o k cc : Nat} (hn : (a ++ m ++ c).length = n) (ho : a.length * 3 = o) (hk : m.length = k) (hk0 : 0 < k) (hl : k ≤ 100) :
    Calls Try.prog 34 #[.slice (some ⟨g, o, none⟩) k cc] w fun e w' => RowEnd base w0 K0 k (fun v' => rowI v' m :: rs) e w' := by
  have hr : w.ownsRow base 58 3 (.slice (some ⟨g, 0, none⟩) n cap) n (flat (a ++ m ++ c)) := by have := H.rowAt hm; rwa [hn] at this
  refine (cloneI_calls base g o k cc (flat m) w (by rw [flat_length, hk]) hl hb (fun j u hu => ?_) (flat_one _)).mono ?_
  · have hj := (List.getElem?_eq_some_iff.1 hu).1
    rw [flat_length] at hj
    rw [hr.cellAt (o + j) (by rw [← hn, ← ho]; simp only [List.length_append]; omega), flat_append, flat_append, List.append_assoc, List.getElem?_append_right (by rw [flat_length]; omega), List.getElem?_append_left (by rw [flat_length, flat_length]; omega), flat_length, ← ho, Nat.add_sub_cancel_left]
    exact hu
  · rintro e w' ⟨v', rfl, hr', ha, hbel⟩
    obtain ⟨g', cap', rfl, h1, h2⟩ := row_shape hr' (by omega)
    refine ⟨g', cap', rfl, h1, h2, ?_⟩
    show Hold base w0 K0 w' (Res.row _ 58 3 m.length (flat m) :: rs)
    rw [hk]
    exact H.newRow hbel hr' ha
theorem hold_cloneN {rs : List Res} (H : Hold base w0 K0 w rs) {g cap n : Nat} {a m c : List Kid} (hm : rowN (.slice (some ⟨g, 0, none⟩) n cap) (a ++ m ++ c) ∈ rs) (hb : base ≤ w.heap.size) {o k cc : Nat} (hn : (a ++ m ++ c).length = n) (ho : a.length = o) (hk : m.length = k) (hk0 : 0 < k) (hl : k ≤ 100) :
    Calls Try.prog 36 #[.slice (some ⟨g, o, none⟩) k cc] w fun e w' => RowEnd base w0 K0 k (fun v' => rowN v' m :: rs) e w' := by
  have hr : w.ownsRow base 49 1 (.slice (some ⟨g, 0, none⟩) n cap) n ((a ++ m ++ c).map fun y => ptrV y.b) := by have := H.rowAt hm; rwa [hn] at this
  refine (cloneN_calls base g o k cc (m.map fun y => ptrV y.b) w (by rw [List.length_map, hk, Nat.mul_one]) hl hb (fun j u hu => ?_) (ptrs_one _)).mono ?_
  · have hj := (List.getElem?_eq_some_iff.1 hu).1
    rw [List.length_map] at hj
    rw [hr.cellAt (o + j) (by rw [← hn, ← ho]; simp only [List.length_append]; omega), List.map_append, List.map_append, List.append_assoc, List.getElem?_append_right (by rw [List.length_map]; omega), List.getElem?_append_left (by rw [List.length_map, List.length_map]; omega), List.length_map, ← ho, Nat.add_sub_cancel_left]
    exact hu
  · rintro e w' ⟨v', rfl, hr', ha, hbel⟩
    obtain ⟨g', cap', rfl, h1, h2⟩ := row_shape hr' (by omega)
    refine ⟨g', cap', rfl, h1, h2, ?_⟩
    show Hold base w0 K0 w' (Res.row _ 49 1 m.length (m.map fun y => ptrV y.b) :: rs)
    rw [hk]
    exact H.newRow hbel hr' ha

theorem hold_deleteI (l1 : List Res) {g cap n : Nat} {a c : List Item} {m : Item} {l2 : List Res} (H : Hold base w0 K0 w (l1 ++ rowI (.slice (some ⟨g, 0, none⟩) n cap) (a ++ m :: c) :: l2)) {i : Nat} (hi : a.length = i) (hn : (a ++ m :: c).length = n) (hl : n ≤ 100) :
    Calls Try.prog 37 #[.slice (some ⟨g, 0, none⟩) n cap, .int .i64 i, .int .i64 ((i : Int) + 1)] w fun e w' => RowEnd base w0 K0 (n - 1) (fun v' => l1 ++ rowI v' (a ++ c) :: l2) e w' := by
  have hr : w.ownsRow base 58 3 (.slice (some ⟨g, 0, none⟩) n cap) n (flat (a ++ m :: c)) := by have := H.rowAt (v := .slice (some ⟨g, 0, none⟩) n cap) (e := 58) (k := 3) (n := (a ++ m :: c).length) (xs := flat (a ++ m :: c)) (by simp [rowI]); rwa [hn] at this
  have hin : i < n := by rw [← hn, ← hi, List.length_append, List.length_cons]; omega
  refine (deleteI_calls base _ n i _ w hr hin hl (flat_one _)).mono ?_
  rintro e w' ⟨v', rfl, hr', hg, ha⟩
  have e1 : (flat (a ++ m :: c)).take (i * 3) ++ (flat (a ++ m :: c)).drop ((i + 1) * 3) = flat (a ++ c) := by
    rw [flat_take, flat_drop, ← hi, List.take_left, flat_append]
    congr 2
    rw [show a ++ m :: c = (a ++ [m]) ++ c by simp, List.drop_append_of_le_length (by simp), List.drop_eq_nil_of_le (by simp), List.nil_append]
  rw [e1] at hr'
  have hblk : ∃ x, v'.ownBlock = some x := by
    rcases ha with ha | ⟨x, ha, _⟩
    · exact ⟨g, ha⟩
    · exact ⟨x, ha⟩
  obtain ⟨g', cap', rfl, h1, h2⟩ : ∃ g' cap', v' = .slice (some ⟨g', 0, none⟩) (n - 1) cap' ∧ n - 1 ≤ cap' ∧ cap' ≤ 9223372036854775807 := by
    rcases hr'.2 with ⟨rfl, _⟩ | ⟨g', cap', cur, rfl, _, _, h1, h2, _⟩
    · obtain ⟨x, hx⟩ := hblk; cases hx
    · exact ⟨g', cap', rfl, h1, by unfold maxLen at h2; omega⟩
  refine ⟨g', cap', rfl, h1, h2, ?_⟩
  have h3 := H.grow l1 hg hr' ha
  have e2 : n - 1 = (a ++ c).length := by rw [← hn]; simp only [List.length_append, List.length_cons]; omega
  show Hold base w0 K0 w' (l1 ++ Res.row _ 58 3 (a ++ c).length (flat (a ++ c)) :: l2)
  rw [← e2]
  exact h3
theorem hold_deleteN (l1 : List Res) {g cap n : Nat} {a c : List Kid} {m : Kid} {l2 : List Res} (H : Hold base w0 K0 w (l1 ++ rowN (.slice (some ⟨g, 0, none⟩) n cap) (a ++ m :: c) :: l2)) {i : Nat} (hi : a.length = i) (hn : (a ++ m :: c).length = n) (hl : n ≤ 100) :
    Calls Try.prog 51 #[.slice (some ⟨g, 0, none⟩) n cap, .int .i64 i, .int .i64 ((i : Int) + 1)] w fun e w' => RowEnd base w0 K0 (n - 1) (fun v' => l1 ++ rowN v' (a ++ c) :: l2) e w' := by
  have hr : w.ownsRow base 49 1 (.slice (some ⟨g, 0, none⟩) n cap) n ((a ++ m :: c).map fun y => ptrV y.b) := by have := H.rowAt (v := .slice (some ⟨g, 0, none⟩) n cap) (e := 49) (k := 1) (n := (a ++ m :: c).length) (xs := (a ++ m :: c).map fun y => ptrV y.b) (by simp [rowN]); rwa [hn] at this
  have hin : i < n := by rw [← hn, ← hi, List.length_append, List.length_cons]; omega
  refine (deleteN_calls base _ n i _ w hr hin hl (ptrs_one _)).mono ?_
  rintro e w' ⟨v', rfl, hr', hg, ha⟩
  have e1 : ((a ++ m :: c).map fun y => ptrV y.b).take i ++ ((a ++ m :: c).map fun y => ptrV y.b).drop (i + 1) = (a ++ c).map fun y => ptrV y.b := by
    rw [← List.map_take, ← List.map_drop, ← hi, List.take_left, List.map_append]
    congr 2
    rw [show a ++ m :: c = (a ++ [m]) ++ c by simp, List.drop_append_of_le_length (by simp), List.drop_eq_nil_of_le (by simp), List.nil_append]
  rw [e1] at hr'
  have hblk : ∃ x, v'.ownBlock = some x := by
    rcases ha with ha | ⟨x, ha, _⟩
    · exact ⟨g, ha⟩
    · exact ⟨x, ha⟩
  obtain ⟨g', cap', rfl, h1, h2⟩ : ∃ g' cap', v' = .slice (some ⟨g', 0, none⟩) (n - 1) cap' ∧ n - 1 ≤ cap' ∧ cap' ≤ 9223372036854775807 := by
    rcases hr'.2 with ⟨rfl, _⟩ | ⟨g', cap', cur, rfl, _, _, h1, h2, _⟩
    · obtain ⟨x, hx⟩ := hblk; cases hx
    · exact ⟨g', cap', rfl, h1, by unfold maxLen at h2; omega⟩
  refine ⟨g', cap', rfl, h1, h2, ?_⟩
  have h3 := H.grow l1 hg hr' ha
  have e2 : n - 1 = (a ++ c).length := by rw [← hn]; simp only [List.length_append, List.length_cons]; omega
  show Hold base w0 K0 w' (l1 ++ Res.row _ 49 1 (a ++ c).length ((a ++ c).map fun y => ptrV y.b) :: l2)
  rw [← e2]
  exact h3
end

#print axioms hold_insertI
#print axioms hold_deleteN
end Go.Proofs.Ytklnonmmamdecab
