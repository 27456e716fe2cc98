/-
  The contract of row.Apply, over the seat's program.
-/
import Derived.Test.YtcjfhfalffngjaaCCInsert
import Derived.Test.YtcjfhfalffngjaaCCDelete
import Derived.Test.YtcjfhfalffngjaaCRowC
import Derived.Deep.CutBlock
import Derived.Deep.CutRange
namespace Go.Proofs.Ytcjfhfalffngjaa
open Go.RowKit Go.Lib
set_option maxRecDepth 100000
set_option linter.unusedVariables false
set_option linter.unusedSimpArgs false

theorem cloneA_calls (base : Nat) (a : Addr) (n c : Nat) (news : List Value) (w : World) (hl : news.length = n * 3) (hn : n ≤ 100) (hb : base ≤ w.heap.size)
    (hc : ∀ j u, news[j]? = some u → w.cell? (a.add j) = some u) (h1 : ∀ u ∈ news, u.oneCell' = true) :
    Calls Try.prog 62 #[.slice (some a) n c] w fun e w' => CloneEnd base 54 3 n news w e w' := by
  obtain ⟨i0, hi, hz0, hz1, hz2⟩ := info_parts info54
  have q22 : ∀ (w : World) (a : Option Addr) (n c n' c' : Nat), (binOp .eql 36 (.slice a n c) (.slice none n' c')).run Try.prog w = .ok (.bool a.isNone) w := fun w a n c n' c' => Lib.run_eql_slice_nil w _ _ a n c n' c' Try.underlying36
  have HC := hide hc
  have HL := hide hl
  have H1 := hide h1
  have HB := hide hb
  clear hc hl h1 hb
  go_enter Try.func62, Try.ntmps62
  go_wp2_with (at_builtin; refine wpList_append_own_at _ rfl _ _ 36 rfl w.heap.size 54 i0 (.agg #[.string ⟨#[]⟩, .string ⟨#[]⟩, .bool false]) 3 40 Try.underlying36 hi hz0 hz1 hz2 rfl (by decide) _ _ _ rfl (World.ownsRow_made w #[] 0 (Nat.le_refl _) (Nat.zero_le _) (by simp)) a n c news rfl (unhide HL) (fun j u hj => Lib.cell?_alloc_some _ (unhide HC j u hj)) (unhide H1) (by unfold maxLen; omega) (by omega) (by simp) ?_; intro v4 w4 hown4 hgrow4 hnil4 hat4)
  have Ho := hide hown4
  have Hg := hide hgrow4
  have Ha := hide hat4
  clear hown4 hgrow4 hnil4 hat4
  go_wp2_with fail
  go_ret
  have hown := unhide Ho
  have hgrow := unhide Hg
  have hat := unhide Ha
  rw [Nat.zero_add, List.nil_append] at hown
  refine ⟨v4, rfl, ownsRow_base hown (unhide HB), ?_, ((Below.refl _ w).alloc (Nat.le_refl _) _).grown hgrow (by simp) (fun k hk => Nat.le_of_eq (Option.some.inj hk))⟩
  rcases hat with h | h
  · exact ⟨_, h, Nat.le_refl _⟩
  · exact ⟨_, h, by simp⟩


def rowI (v : Value) (L : List ChD) : Res := .row v 54 3 L.length (flat L)
def listOf (n : Nat) (f : Nat → ChD) : List ChD := (List.range n).map f
theorem listOf_length (n : Nat) (f : Nat → ChD) : (listOf n f).length = n := by simp [listOf]
theorem listOf_get {n : Nat} {f : Nat → ChD} {j : Nat} (h : j < n) : (listOf n f)[j]? = some (f j) := by simp [listOf, List.getElem?_map, List.getElem?_range h]
theorem listOf_take {n : Nat} {f : Nat → ChD} {i : Nat} (h : i < n) : (listOf n f).take (i + 1) = (listOf n f).take i ++ [f i] := by
  rw [List.take_add_one, listOf_get h]
  rfl
/-- I3: one change, and changes, applied. -/
def applyOne (L : List ChD) (c : ChD) : List ChD := if c.gone then dropL L c.key else putL L c
def applyP (L l : List ChD) : List ChD := l.foldl applyOne L
theorem applyP_snoc (L l : List ChD) (c : ChD) : applyP L (l ++ [c]) = applyOne (applyP L l) c := by simp [applyP]
theorem dropL_sorted {L : List ChD} (h : Sorted L) (key : ByteArray) : Sorted (dropL L key) := List.Pairwise.filter _ h
theorem applyOne_sorted {L : List ChD} (h : Sorted L) (c : ChD) : Sorted (applyOne L c) := by
  unfold applyOne
  split
  · exact dropL_sorted h _
  · exact putL_sorted h
theorem applyP_sorted {L : List ChD} (h : Sorted L) : ∀ l : List ChD, Sorted (applyP L l)
  | [] => h
  | c :: l => applyP_sorted (applyOne_sorted h c) l
theorem putL_len : ∀ (L : List ChD) (c : ChD), (putL L c).length ≤ L.length + 1
  | [], c => by simp [putL]
  | x :: L, c => by
    have := putL_len L c
    unfold putL
    split
    · simp
    split <;> simp <;> omega
theorem applyOne_len (L : List ChD) (c : ChD) : (applyOne L c).length ≤ L.length + 1 := by
  unfold applyOne
  split
  · exact Nat.le_trans (List.length_filter_le _ _) (by omega)
  · exact putL_len L c
/-- What the places say of it. -/
theorem apply_there {L : List ChD} {c x : ChD} {i : Nat} (hs : Sorted L) (hf : Found L c.key i true) : ∃ a d x, L = a ++ x :: d ∧ a.length = i ∧ x.key = c.key ∧ (∀ y ∈ a, kLt y.key c.key) ∧ dropL L c.key = a ++ d ∧ putL L c = a ++ c :: d := by
  obtain ⟨h1, h2, h3⟩ := hf
  rcases h3 with ⟨_, x, hx, hk⟩ | ⟨h, _⟩
  · obtain ⟨hi, rfl⟩ := List.getElem?_eq_some_iff.1 hx
    have hL : L = L.take i ++ L[i] :: L.drop (i + 1) := by rw [← List.drop_eq_getElem_cons hi, List.take_append_drop]
    refine ⟨L.take i, L.drop (i + 1), L[i], hL, by rw [List.length_take]; omega, hk, h2, ?_, ?_⟩
    · have hgt : ∀ y ∈ L.drop (i + 1), kLt c.key y.key := fun y hy => by
        have h5 := hs
        rw [hL] at h5
        rw [← hk]
        exact (List.pairwise_cons.1 (List.pairwise_append.1 h5).2.1).1 y hy
      have e1 : dropL (L.take i) c.key = L.take i := List.filter_eq_self.2 fun y hy => by simp [kLt_ne (h2 y hy)]
      have e2 : dropL (L.drop (i + 1)) c.key = L.drop (i + 1) := List.filter_eq_self.2 fun y hy => by simp [Ne.symm (kLt_ne (hgt y hy))]
      conv => lhs; rw [hL]
      unfold dropL at e1 e2 ⊢
      rw [List.filter_append, List.filter_cons, e1, e2]
      simp [hk]
    · conv => lhs; rw [hL]
      exact putL_same _ _ h2 hk
  · cases h
theorem apply_not {L : List ChD} {c : ChD} {i : Nat} (hf : Found L c.key i false) : ∃ a d, L = a ++ d ∧ a.length = i ∧ dropL L c.key = L ∧ putL L c = a ++ c :: d := by
  obtain ⟨h1, h2, h3⟩ := hf
  rcases h3 with ⟨h, _⟩ | ⟨_, h4⟩
  · cases h
  · refine ⟨L.take i, L.drop i, (List.take_append_drop _ _).symm, by rw [List.length_take]; omega, ?_, ?_⟩
    · refine List.filter_eq_self.2 fun y hy => ?_
      rw [← List.take_append_drop i L] at hy
      rcases List.mem_append.1 hy with h | h
      · simp [kLt_ne (h2 y h)]
      · simp [Ne.symm (kLt_ne (h4 y h))]
    · conv => lhs; rw [← List.take_append_drop i L]
      exact putL_at _ _ h2 h4
section
variable {w0 w : World}
/-- One comes in. -/
theorem hold_insert {v : Value} {a d : List ChD} {l2 : List Res} {vb vc : Nat} {m : ChD} (H : Hold w0 w (.cell vb 54 (cellsOf m) :: rowI v (a ++ d) :: l2)) {i n : Nat} (hi : a.length = i) (hn : (a ++ d).length = n) (hl : n ≤ 100) :
    Calls Try.prog 67 #[v, .int .i64 i, .slice (some ⟨vb, 0, none⟩) 1 vc] w fun e w' => ∃ v', e = .returned v' ∧ Hold w0 w' (rowI v' (a ++ m :: d) :: l2) := by
  have hr : w.ownsRow w0.heap.size 54 3 v n (flat (a ++ d)) := by rw [← hn]; exact H.rowAt (.tail _ (.head _))
  have hne : v.ownBlock ≠ some vb := fun e => by
    have h1 := H.uniq vb
    simp only [total_cons, rowI, foot_cell, foot_row, one_self, blkN_self e] at h1
    omega
  have hin : i ≤ n := by rw [← hn, ← hi, List.length_append]; omega
  refine (insertI_calls w0.heap.size v n i (flat (a ++ d)) (cellsOf m) vb vc w hr hin hl H.size (flat_one _) (H.heapAt (.head _)) rfl (fun u hu => flat_one [m] u (by simpa [flat] using hu)) hne).mono ?_
  rintro e w' ⟨v', rfl, hr', hg, ha⟩
  refine ⟨v', rfl, ?_⟩
  have e1 : (flat (a ++ d)).take (i * 3) ++ cellsOf m ++ (flat (a ++ d)).drop (i * 3) = flat (a ++ m :: d) := by
    rw [flat_take, flat_drop, ← hi, List.take_left, List.drop_left, flat_append, show flat (m :: d) = cellsOf m ++ flat d from rfl, List.append_assoc]
  rw [e1] at hr'
  have h3 := (H.forget []).grow [] (v := v) hg hr' ha
  have e2 : n + 1 = (a ++ m :: d).length := by rw [← hn]; simp; omega
  rw [e2] at h3
  exact h3
/-- One goes out. -/
theorem hold_delete {v : Value} {a d : List ChD} {l2 : List Res} {m : ChD} (H : Hold w0 w (rowI v (a ++ m :: d) :: l2)) {i n : Nat} (hi : a.length = i) (hn : (a ++ m :: d).length = n) (hl : n ≤ 100) :
    Calls Try.prog 66 #[v, .int .i64 i, .int .i64 ((i : Int) + 1)] w fun e w' => ∃ v', e = .returned v' ∧ Hold w0 w' (rowI v' (a ++ d) :: l2) := by
  have hr : w.ownsRow w0.heap.size 54 3 v n (flat (a ++ m :: d)) := by rw [← hn]; exact H.rowAt (.head _)
  have hin : i < n := by rw [← hn, ← hi, List.length_append, List.length_cons]; omega
  refine (deleteI_calls w0.heap.size _ n i _ w hr hin hl (flat_one _)).mono ?_
  rintro e w' ⟨v', rfl, hr', hg, ha⟩
  refine ⟨v', rfl, ?_⟩
  have e1 : (flat (a ++ m :: d)).take (i * 3) ++ (flat (a ++ m :: d)).drop ((i + 1) * 3) = flat (a ++ d) := by
    rw [flat_take, flat_drop, ← hi, List.take_left, flat_append]
    congr 2
    rw [show a ++ m :: d = (a ++ [m]) ++ d by simp, List.drop_append_of_le_length (by simp), List.drop_eq_nil_of_le (by simp), List.nil_append]
  rw [e1] at hr'
  have h3 := H.grow [] hg hr' ha
  have e2 : n - 1 = (a ++ d).length := by rw [← hn]; simp only [List.length_append, List.length_cons]; omega
  rw [e2] at h3
  exact h3
/-- One in another's place. -/
theorem hold_over {g cap : Nat} {a d : List ChD} {x m : ChD} {l1 l2 : List Res} {n : Nat} (hn : (a ++ x :: d).length = n) (H : Hold w0 w (l1 ++ rowI (.slice (some ⟨g, 0, none⟩) n cap) (a ++ x :: d) :: l2)) {i : Nat} (hi : a.length = i) :
    Hold w0 (((w.setCell ⟨g, i * 3, none⟩ (.string m.key)).setCell ⟨g, i * 3 + 1, none⟩ (.string m.val)).setCell ⟨g, i * 3 + 2, none⟩ (.bool m.gone)) (l1 ++ rowI (.slice (some ⟨g, 0, none⟩) n cap) (a ++ m :: d) :: l2) ∧ (∀ j, j < 3 → (w.cell? ⟨g, i * 3 + j, none⟩).isSome = true ∧ w.frozen? ⟨g, i * 3 + j, none⟩ = false) := by
  unfold rowI at H ⊢
  rw [hn] at H
  have hl2 : (a ++ m :: d).length = n := by rw [← hn]; simp
  rw [hl2]
  have hfl : (flat (a ++ x :: d)).length = n * 3 := by rw [flat_length, hn]
  have hin : i < n := by rw [← hn, ← hi, List.length_append, List.length_cons]; omega
  have hcell : ∀ j, j < 3 → (w.cell? ⟨g, i * 3 + j, none⟩).isSome = true ∧ w.frozen? ⟨g, i * 3 + j, none⟩ = false := fun j hj => by
    have hlt : i * 3 + j < (flat (a ++ x :: d)).length := by rw [hfl]; omega
    exact ⟨by rw [H.rowCell (List.mem_append.2 (.inr (.head _))) (List.getElem?_eq_getElem hlt)]; rfl, H.rowFrozen (List.mem_append.2 (.inr (.head _))) _⟩
  refine ⟨?_, hcell⟩
  obtain ⟨w', h1, h2, _⟩ := H.lay l1 (i * 3) (cellsOf m) (by rw [hfl]; simp [cellsOf]; omega) (fun u hu => flat_one [m] u (by simpa [flat] using hu))
  have e1 : Go.splice (flat (a ++ x :: d)) (i * 3) (cellsOf m) = flat (a ++ m :: d) := by
    unfold Go.splice
    rw [show i * 3 + (cellsOf m).length = (i + 1) * 3 by simp [cellsOf]; omega, flat_take, flat_drop, ← hi, List.take_left]
    rw [show a ++ x :: d = (a ++ [x]) ++ d by simp, show a.length + 1 = (a ++ [x]).length by simp, List.drop_left, flat_append]
    rfl
  rw [e1] at h2
  have h3 := run_storeCells_cells (P := Try.prog) g (i * 3) (cellsOf m) 0 w (fun j hj => by rw [Nat.add_zero]; exact (hcell j (by simpa [cellsOf] using hj)).1) (fun j hj => by rw [Nat.add_zero]; exact (hcell j (by simpa [cellsOf] using hj)).2) (fun u hu => flat_one [m] u (by simpa [flat] using hu))
  rw [h1 Try.prog] at h3
  injection h3 with _ h3
  rw [h3] at h2
  exact h2
end
#print axioms hold_over
#print axioms apply_there
end Go.Proofs.Ytcjfhfalffngjaa
