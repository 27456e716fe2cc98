/-
  Frames: a builder, a row of marks and what else there is stand apart; the sort of a row of marks. Over the seat's program.
-/
import Derived.Test.YtdflokjpgbeniaaDoorMarks
import Derived.Lib.OthersKept
import Derived.Laws.AppendOwn
namespace Go.Proofs.YtdflokjpgbeniaaDoor
open Go.RowKit Go.Sort

theorem builder_grown {T e : TypeId} {B b : Nat} {bs : List Value} {w w' : World} {row : Option Nat} (h : Lib.IsBuilderF T e B b bs w) (hg : w.grownBy w' row)
    (hrow : ∀ g, row = some g → ∃ c t fz, w.heap[g]? = some (.cells c t fz) ∧ t ≠ T ∧ t ≠ e) : Lib.IsBuilderF T e B b bs w' := by
  have core : ∀ p, Lib.BuilderAtF T e B b p bs w → Lib.BuilderAtF T e B b p bs w' := by
    intro p h
    have hlt := h.lt
    obtain ⟨hB, v, hb, hown, hne⟩ := h
    refine ⟨hB, v, ?_, ?_, hne⟩
    · rw [hg.block b hlt ?_]
      · exact hb
      · intro hbr
        obtain ⟨c, t, fz, hc, ht, _⟩ := hrow b hbr.symm
        rw [hb] at hc
        simp only [Option.some.injEq, Obj.cells.injEq] at hc
        exact ht hc.2.1.symm
    · refine hown.kept hg ?_
      rcases hown.2 with ⟨rfl, _⟩ | ⟨g, cap, cur, fz, rfl, _, hgg, _⟩
      · left; rfl
      · right
        intro hbr
        obtain ⟨c, t, fz', hc, _, ht⟩ := hrow g (by rw [← hbr]; rfl)
        rw [hgg] at hc
        simp only [Option.some.injEq, Obj.cells.injEq] at hc
        exact ht hc.2.1.symm
  exact h.elim (fun x => .inl (core _ x)) (fun x => .inr (core _ x))

theorem owns_kind {w : World} {B : Nat} {e : TypeId} {v : Value} {n : Nat} {xs : List Value} (h : w.ownsRow B e 1 v n xs) : ∀ g, v.ownBlock = some g → ∃ c, w.heap[g]? = some (.cells c e (0, 0)) := by
  intro g hg
  rcases h.2 with ⟨rfl, _⟩ | ⟨g', cap, cur, rfl, _, hgg, _⟩
  · simp [Value.ownBlock] at hg
  · simp [Value.ownBlock] at hg
    subst hg
    exact ⟨cur, hgg⟩

theorem owns_others {w w' : World} {B b : Nat} {e f : TypeId} {v : Value} {n : Nat} {xs : List Value} (h : w.ownsRow B f 1 v n xs) (k : Lib.OthersKept e (some b) w w') (hb : v.ownBlock ≠ some b) (hfe : f ≠ e) : w'.ownsRow B f 1 v n xs := by
  refine ⟨h.1, ?_⟩
  rcases h.2 with hn | ⟨g, cap, cur, rfl, hbg, hgg, rest⟩
  · exact .inl hn
  · refine .inr ⟨g, cap, cur, rfl, hbg, ?_, rest⟩
    refine k g _ hgg ?_ ?_
    · intro hgb
      exact hb hgb
    · intro c fz hc
      simp only [Obj.cells.injEq] at hc
      exact hfe hc.2.1

theorem owns_ne_builder {w : World} {B b : Nat} {T e f : TypeId} {v : Value} {n : Nat} {xs bs : List Value} (h : w.ownsRow B f 1 v n xs) (hI : Lib.IsBuilderF T e B b bs w) (hfT : f ≠ T) : v.ownBlock ≠ some b := by
  intro hb
  obtain ⟨c, hc⟩ := owns_kind h b hb
  rcases hI with ⟨_, _, hbb, _⟩ | ⟨_, _, hbb, _⟩
  all_goals
    rw [hc] at hbb
    simp only [Option.some.injEq, Obj.cells.injEq] at hbb
    exact hfT hbb.2.1

/-- THE SORT OF A ROW OF MARKS. -/
theorem sort_owns (B : Nat) (ms : List Int) (v : Value) (w : World) (h : w.ownsRow B 21 1 v ms.length (ms.map (Value.int .i32))) (hm : ∀ a ∈ ms, Mark a) (hn : ms.length < 20) :
    Calls Tryd.prog 46 #[v, .func (.func 47) #[] #[]] w fun e w' => e = .returned (.tuple #[]) ∧ w'.ownsRow B 21 1 v ms.length ((sortM ms).map (Value.int .i32)) ∧ w.grownBy w' v.ownBlock := by
  by_cases h0 : ms = []
  · subst h0
    have hv : ∃ p cap, v = .slice p 0 cap := by
      rcases h.2 with ⟨rfl, _⟩ | ⟨g, cap, cur, rfl, _⟩
      · exact ⟨_, _, rfl⟩
      · exact ⟨_, _, rfl⟩
    obtain ⟨p, cap, rfl⟩ := hv
    refine (sort_none p cap w).mono fun e w' ⟨he, hw⟩ => ?_
    subst hw
    exact ⟨he, h, ⟨rfl, rfl, rfl, Nat.le_refl _, fun _ _ _ => rfl⟩⟩
  · rcases h.2 with ⟨_, hz⟩ | ⟨g, cap, cur, rfl, hbg, hgg, hnc, hcm, hcs, htake⟩
    · exact absurd (List.eq_nil_of_length_eq_zero hz) h0
    · have hcell : ∀ j, j < ms.length → cur[j]? = some (.int .i32 (ms.toArray[j]!)) := by
        intro j hj
        have h1 : (cur.toList.take (ms.length * 1))[j]? = (ms.map (Value.int .i32))[j]? := by rw [htake]
        rw [List.getElem?_take, if_pos (by omega)] at h1
        simp only [Array.getElem?_toList, List.getElem?_map] at h1
        rw [h1, List.getElem?_eq_getElem hj]
        simp [hj]
      have hH : Holds (Value.int .i32) w g 0 ms.toArray := by
        intro j hj
        have hj' : j < ms.length := by simpa using hj
        exact ⟨by rw [Nat.zero_add, cell_of_row w g j cur 21 (0, 0) hgg]; exact hcell j hj', by rw [Nat.zero_add]; exact frozen_of_row w g j cur 21 hgg⟩
      have hs := sort_calls g 0 cap ms.toArray w hH (by simpa using hn)
      rw [sorted_marks ms hm] at hs
      have hsz : ms.toArray.size = ms.length := by simp
      rw [hsz] at hs
      refine hs.mono fun e w' ⟨he, m, hw⟩ => ⟨he, ?_, ?_⟩
      · subst hw
        refine ⟨by rw [List.length_map, sortM_length]; omega, .inr ⟨g, cap, putCells (Value.int .i32) 0 (sortM ms).toArray cur, rfl, hbg, ?_, hnc, hcm, ?_, ?_⟩⟩
        · show (putRow (Value.int .i32) w g 0 (sortM ms).toArray).heap[g]? = _
          unfold putRow mapBlock
          rw [Array.getElem?_modify, if_pos rfl, hgg]
          rfl
        · unfold putCells
          rw [Array.size_mapIdx]
          exact hcs
        · apply List.ext_getElem?
          intro j
          rw [List.getElem?_take]
          by_cases hj : j < ms.length
          · rw [if_pos (by omega)]
            unfold putCells
            have hj2 : j < (sortM ms).length := by rw [sortM_length]; exact hj
            simp only [Array.getElem?_toList, Array.getElem?_mapIdx, List.getElem?_map, hcell j hj, List.getElem?_eq_getElem hj2, Option.map_some]
            rw [if_pos ⟨Nat.zero_le _, by simpa using hj2⟩]
            simp [hj2]
          · rw [if_neg (by omega), List.getElem?_eq_none (by rw [List.length_map, sortM_length]; omega)]
      · subst hw
        refine ⟨rfl, rfl, rfl, ?_, fun k hk hne => ?_⟩
        · show _ ≤ (putRow (Value.int .i32) w g 0 (sortM ms).toArray).heap.size
          rw [size_putRow]
          exact Nat.le_refl _
        · show (putRow (Value.int .i32) w g 0 (sortM ms).toArray).heap[k]? = _
          unfold putRow mapBlock
          rw [Array.getElem?_modify, if_neg (fun e => hne (by rw [← e]; rfl))]
end Go.Proofs.YtdflokjpgbeniaaDoor
