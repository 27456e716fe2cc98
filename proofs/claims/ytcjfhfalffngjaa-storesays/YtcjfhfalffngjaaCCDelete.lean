/-
  The contract of slices.Clone at changes, over the seat's program: the same elements in a new block. The contract of slices.Delete at changes, over the seat's program: one element goes, in the row's own block.
-/
import Derived.Test.YtcjfhfalffngjaaCCSlice
namespace Go.Proofs.Ytcjfhfalffngjaa
open Go.RowKit Go.Lib
set_option maxRecDepth 100000
set_option linter.unusedVariables false
set_option linter.unusedSimpArgs false

theorem cloneI_calls (base b off n c : Nat) (news : List Value) (w : World) (hl : news.length = n * 3) (hn : n ≤ 100) (hb : base ≤ w.heap.size)
    (hc : ∀ j u, news[j]? = some u → w.cell? ⟨b, off + j, none⟩ = some u) (h1 : ∀ u ∈ news, u.oneCell' = true) :
    Calls Try.prog 62 #[.slice (some ⟨b, off, none⟩) n c] w fun e w' => CloneEnd base 54 3 n news w e w' := by
  obtain ⟨i0, hi, hz0, hz1, hz2⟩ := info_parts info54
  have q22 : ∀ (w : World) (a : Option Addr) (n c n' c' : Nat), (binOp .eql 36 (.slice a n c) (.slice none n' c')).run Try.prog w = .ok (.bool a.isNone) w := fun w a n c n' c' => Lib.run_eql_slice_nil w _ _ a n c n' c' Try.underlying36
  have HC := hide hc
  have HL := hide hl
  have H1 := hide h1
  have HB := hide hb
  clear hc hl h1 hb
  go_enter Try.func62, Try.ntmps62
  go_wp2_with (at_builtin; refine wpList_append_own_at _ rfl _ _ 36 rfl w.heap.size 54 i0 (.agg #[.string ⟨#[]⟩, .string ⟨#[]⟩, .bool false]) 3 40 Try.underlying36 hi hz0 hz1 hz2 rfl (by decide) _ _ _ rfl (World.ownsRow_made w #[] 0 (Nat.le_refl _) (Nat.zero_le _) (by simp)) ⟨b, off, none⟩ n c news rfl (unhide HL) (fun j u hj => by rw [Addr.add_lit]; exact Lib.cell?_alloc_some _ (unhide HC j u hj)) (unhide H1) (by unfold maxLen; omega) (by omega) (by simp) ?_; intro v4 w4 hown4 hgrow4 hnil4 hat4)
  have Ho := hide hown4
  have Hg := hide hgrow4
  have Ha := hide hat4
  clear hown4 hgrow4 hnil4 hat4
  go_wp2_with fail
  go_ret
  have hown := unhide Ho
  have hgrow := unhide Hg
  have hat := unhide Ha
  rw [Nat.zero_add, List.nil_append] at hown
  refine ⟨v4, rfl, ownsRow_base hown (unhide HB), ?_, ((Below.refl _ w).alloc (Nat.le_refl _) _).grown hgrow (by simp) (fun k hk => Nat.le_of_eq (Option.some.inj hk))⟩
  rcases hat with h | h
  · exact ⟨_, h, Nat.le_refl _⟩
  · exact ⟨_, h, by simp⟩

theorem cloneI_nil (w : World) : Calls Try.prog 62 #[.slice none 0 0] w fun e w' => e = .returned (.slice none 0 0) ∧ w' = w := by
  have q22 : ∀ (w : World) (a : Option Addr) (n c n' c' : Nat), (binOp .eql 36 (.slice a n c) (.slice none n' c')).run Try.prog w = .ok (.bool a.isNone) w := fun w a n c n' c' => Lib.run_eql_slice_nil w _ _ a n c n' c' Try.underlying36
  go_enter Try.func62, Try.ntmps62
  go_wp2
  go_ret
  exact ⟨rfl, rfl⟩

#print axioms cloneI_calls
end Go.Proofs.Ytcjfhfalffngjaa
namespace Go.Proofs.Ytcjfhfalffngjaa
open Go.RowKit Go.Lib
set_option maxRecDepth 100000
set_option linter.unusedVariables false
set_option linter.unusedSimpArgs false

theorem deleteI_row (base : Nat) (g cap : Nat) (cur : Array Value) (n i : Nat) (xs : List Value) (w : World) (hi : i < n) (hn : n ≤ 100) (hg : w.heap[g]? = some (.cells cur 54 (0, 0))) (hbg : base ≤ g) (hnc : n ≤ cap) (hcm : cap ≤ maxLen) (hcs : cur.size = cap * 3) (hx : cur.toList.take (n * 3) = xs) (hx1 : ∀ u ∈ xs, u.oneCell' = true) :
    Calls Try.prog 66 #[.slice (some ⟨g, 0, none⟩) n cap, .int .i64 i, .int .i64 ((i : Int) + 1)] w fun e w' => GrowEnd base 54 3 (.slice (some ⟨g, 0, none⟩) n cap) (n - 1) (xs.take (i * 3) ++ xs.drop ((i + 1) * 3)) w e w' := by
  obtain ⟨i0, hi0, hz0, hz1, hz2⟩ := info_parts info54
  have hxl : xs.length = n * 3 := by rw [← hx, List.length_take, Array.length_toList]; omega
  obtain ⟨news, hnews⟩ : ∃ news, news = xs.drop ((i + 1) * 3) := ⟨_, rfl⟩
  have hdl : news.length = (n - (i + 1)) * 3 := by rw [hnews, List.length_drop, hxl]; try omega
  obtain ⟨A, hA, hsrc⟩ : ∃ A : Addr, (if cap = i + 1 then some (⟨g, 0, none⟩ : Addr) else some ⟨g, (i + 1) * 3, none⟩) = some A ∧ (∀ t u, news[t]? = some u → w.drew.cell? (A.add t) = some u) := by
    by_cases h : cap = i + 1
    · refine ⟨⟨g, 0, none⟩, by simp [h], fun t u hu => ?_⟩
      have h0 : news.length = 0 := by rw [hdl]; omega
      rw [List.length_eq_zero_iff.1 h0] at hu
      simp at hu
    · refine ⟨⟨g, (i + 1) * 3, none⟩, by simp [h], fun t u hu => ?_⟩
      rw [Addr.add_lit]
      rw [hnews, List.getElem?_drop] at hu
      exact row_cell (w := w.drew) hg hx hu
  obtain ⟨r1, hr1⟩ : ∃ r1, r1 = cur.toList.take (i * 3) ++ news ++ cur.toList.drop (i * 3 + news.length) := ⟨_, rfl⟩
  obtain ⟨zs, hzs⟩ : ∃ zs, (Builtin.zeroCells (Value.cells (.agg #[.string ⟨#[]⟩, .string ⟨#[]⟩, .bool false])) 1).toList = zs := ⟨_, rfl⟩
  have hzl : zs.length = 3 := by rw [← hzs, Array.length_toList, size_zeroCells]; simp [Value.cells]
  have hz1c : ∀ u ∈ zs, u.oneCell' = true := by
    rw [← hzs]
    intro u hu
    simp [Builtin.zeroCells, Value.cells, List.range_succ] at hu
    rcases hu with rfl | rfl | rfl <;> rfl
  obtain ⟨r2, hr2⟩ : ∃ r2, r2 = r1.take ((n - 1) * 3) ++ zs ++ r1.drop ((n - 1) * 3 + zs.length) := ⟨_, rfl⟩
  have l1 : r1.length = cap * 3 := by
    rw [hr1]
    simp only [List.length_append, List.length_take, List.length_drop, Array.length_toList, hdl, hcs]
    omega
  have l2 : r2.length = cap * 3 := by
    rw [hr2]
    simp only [List.length_append, List.length_take, List.length_drop, l1, hzl]
    omega
  have q3 : r2.take ((n - 1) * 3) = xs.take (i * 3) ++ news := by
    have e0 : cur.toList.take (i * 3) = xs.take (i * 3) := by rw [← hx, List.take_take]; congr 1; omega
    have l3 : (xs.take (i * 3) ++ news).length = (n - 1) * 3 := by rw [List.length_append, List.length_take, hdl, hxl]; omega
    rw [hr2, List.append_assoc, List.take_append_of_le_length (by rw [List.length_take]; omega), List.take_take, Nat.min_self, hr1, e0, List.take_append_of_le_length (by omega), List.take_of_length_le (by omega)]
  have hap : ∀ ty, (Builtin.append_ #[36, 36] ty #[.slice (some ⟨g, 0, none⟩) i cap, .slice (some A) (n - (i + 1)) (cap - (i + 1))]).run Try.prog w.drew = .ok (.slice (some ⟨g, 0, none⟩) (i + (n - (i + 1))) cap) (w.drew.setRow g r1.toArray) := fun ty => by
    have h := run_append_room (P := Try.prog) w.drew 36 ty 54 i0 Try.underlying36 hi0 g i cap cur hg A (n - (i + 1)) (cap - (i + 1)) news (by rw [hz1]; omega) hsrc (fun u hu => hx1 u (List.mem_of_mem_drop (by rw [← hnews]; exact hu))) (by omega) (by rw [hz1]; omega)
    rw [hz1] at h
    try simp only [Nat.mul_one] at h
    rw [← hr1] at h
    exact h
  have hlen : i + (n - (i + 1)) = n - 1 := by omega
  rw [hlen] at hap
  have hg1 : (w.drew.setRow g r1.toArray).heap[g]? = some (.cells r1.toArray 54 (0, 0)) := setRow_heap w.drew g cur _ 54 _ hg
  have hcl : ∀ ty c, (Builtin.clear_ #[36] ty #[.slice (some ⟨g, (n - 1) * 3, none⟩) (n - (n - 1)) c]).run Try.prog (w.drew.setRow g r1.toArray) = .ok (.tuple #[]) (w.drew.setRow g r2.toArray) := fun ty c => by
    have h := run_clear_rowK (P := Try.prog) (w.drew.setRow g r1.toArray) 36 54 ty (.agg #[.string ⟨#[]⟩, .string ⟨#[]⟩, .bool false]) Try.underlying36 Try.zeroValue54 g ((n - 1) * 3) (n - (n - 1)) c r1.toArray 54 zs (by rw [show n - (n - 1) = 1 by omega]; exact hzs) (by omega) hg1 (by rw [List.size_toArray, l1, hzl]; omega) hz1c
    rw [h, setRow_setRow, hr2]
  obtain ⟨W1, hW1⟩ : ∃ W1, W1 = w.drew.setRow g r1.toArray := ⟨_, rfl⟩
  obtain ⟨W2, hW2⟩ : ∃ W2, W2 = w.drew.setRow g r2.toArray := ⟨_, rfl⟩
  rw [← hW1] at hap
  rw [← hW1, ← hW2] at hcl
  have hfin : ∀ v', v' = .slice (some ⟨g, 0, none⟩) (n - 1) cap → GrowEnd base 54 3 (.slice (some ⟨g, 0, none⟩) n cap) (n - 1) (xs.take (i * 3) ++ xs.drop ((i + 1) * 3)) w (.returned v') W2 := by
    rintro v' rfl
    rw [← hnews]
    refine ⟨_, rfl, ⟨by rw [← q3, List.length_take, l2]; omega, .inr ⟨g, cap, r2.toArray, rfl, hbg, by rw [hW2]; exact setRow_heap w.drew g cur _ 54 _ hg, by omega, hcm, by simp [l2], by rw [show (n - 1) * 3 = (n - 1) * 3 by omega]; exact q3⟩⟩, ⟨by rw [hW2]; rfl, by rw [hW2]; rfl, by rw [hW2]; rfl, by rw [hW2]; simp, fun x hx hne' => by rw [hW2]; exact setRow_other w.drew g x _ (fun e => hne' (by rw [e]; rfl))⟩, .inl rfl⟩
  have Hf := hide hfin
  have hcm' : cap ≤ 9223372036854775807 := by unfold maxLen at hcm; omega
  have hin : i ≤ n := by omega
  have hb3 : (i : Int) < (n : Int) := by omega
  have hw1 : ¬ ((i : Int) = (i : Int) + 1) := by omega
  have hic : i ≤ cap := by omega
  have hb1 : (0 : Int) ≤ (i : Int) + 1 := by omega
  have htn : ((i : Int) + 1).toNat = i + 1 := by omega
  have hb5 : (i : Int) + 1 ≤ (n : Int) := by omega
  have hb6 : (i : Int) + 1 ≤ (cap : Int) := by omega
  have hb7 : ¬ (cap = n - 1) := by omega
  have hb8 : n - 1 ≤ n := by omega
  have hb9 : n - 1 ≤ cap := by omega
  have mixed := mixedB
  clear hfin q3 hr1 hr2 hW1 hW2 hg1 hg hx hx1 hcs hxl hdl hcm hsrc hnews l1 l2 hzs hzl hz1c hlen
  go_enter Try.func66, Try.ntmps66
  go_wp2_with fail
  go_region_law_o (refine step_append_runI rfl _ _ 36 36 rfl (.slice (some ⟨g, 0, none⟩) i cap) (.slice (some A) (n - (i + 1)) (cap - (i + 1))) (by simp [Act.eval, Act.put]) (by simp [Act.eval, Act.put]) (hap _) ?_)
  go_wp2
  go_ret
  exact unhide Hf _ rfl

theorem deleteI_calls (base : Nat) (v : Value) (n i : Nat) (xs : List Value) (w : World) (ho : w.ownsRow base 54 3 v n xs) (hi : i < n) (hn : n ≤ 100) (hx1 : ∀ u ∈ xs, u.oneCell' = true) :
    Calls Try.prog 66 #[v, .int .i64 i, .int .i64 ((i : Int) + 1)] w fun e w' => GrowEnd base 54 3 v (n - 1) (xs.take (i * 3) ++ xs.drop ((i + 1) * 3)) w e w' := by
  rcases ho.2 with ⟨rfl, rfl⟩ | ⟨g, cap, cur, rfl, hbg, hg, hnc, hcm, hcs, hx⟩
  · omega
  · exact deleteI_row base g cap cur n i xs w hi hn hg hbg hnc hcm (by omega) (by rw [← hx, show n * 3 = n * 3 by omega]) hx1

#print axioms deleteI_calls
end Go.Proofs.Ytcjfhfalffngjaa
