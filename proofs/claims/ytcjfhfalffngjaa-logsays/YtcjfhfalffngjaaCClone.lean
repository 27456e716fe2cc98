/-
  The contract of slices.Clone at changes, over the seat's program: the same elements in a new block.
-/
import Derived.Test.YtcjfhfalffngjaaCSlice
namespace Go.Proofs.Ytcjfhfalffngjaa
open Go.RowKit Go.Lib
set_option maxRecDepth 100000
set_option linter.unusedVariables false
set_option linter.unusedSimpArgs false

theorem cloneI_calls (base b off n c : Nat) (news : List Value) (w : World) (hl : news.length = n * 3) (hn : n ≤ 100) (hb : base ≤ w.heap.size)
    (hc : ∀ j u, news[j]? = some u → w.cell? ⟨b, off + j, none⟩ = some u) (h1 : ∀ u ∈ news, u.oneCell' = true) :
    Calls Try.prog 62 #[.slice (some ⟨b, off, none⟩) n c] w fun e w' => CloneEnd base 54 3 n news w e w' := by
  obtain ⟨i0, hi, hz0, hz1, hz2⟩ := info_parts info54
  have q22 : ∀ (w : World) (a : Option Addr) (n c n' c' : Nat), (binOp .eql 36 (.slice a n c) (.slice none n' c')).run Try.prog w = .ok (.bool a.isNone) w := fun w a n c n' c' => Lib.run_eql_slice_nil w _ _ a n c n' c' Try.underlying36
  have HC := hide hc
  have HL := hide hl
  have H1 := hide h1
  have HB := hide hb
  clear hc hl h1 hb
  go_enter Try.func62, Try.ntmps62
  go_wp2_with (at_builtin; refine wpList_append_own_at _ rfl _ _ 36 rfl w.heap.size 54 i0 (.agg #[.string ⟨#[]⟩, .string ⟨#[]⟩, .bool false]) 3 40 Try.underlying36 hi hz0 hz1 hz2 rfl (by decide) _ _ _ rfl (World.ownsRow_made w #[] 0 (Nat.le_refl _) (Nat.zero_le _) (by simp)) ⟨b, off, none⟩ n c news rfl (unhide HL) (fun j u hj => by rw [Addr.add_lit]; exact Lib.cell?_alloc_some _ (unhide HC j u hj)) (unhide H1) (by unfold maxLen; omega) (by omega) (by simp) ?_; intro v4 w4 hown4 hgrow4 hnil4 hat4)
  have Ho := hide hown4
  have Hg := hide hgrow4
  have Ha := hide hat4
  clear hown4 hgrow4 hnil4 hat4
  go_wp2_with fail
  go_ret
  have hown := unhide Ho
  have hgrow := unhide Hg
  have hat := unhide Ha
  rw [Nat.zero_add, List.nil_append] at hown
  refine ⟨v4, rfl, ownsRow_base hown (unhide HB), ?_, ((Below.refl _ w).alloc (Nat.le_refl _) _).grown hgrow (by simp) (fun k hk => Nat.le_of_eq (Option.some.inj hk))⟩
  rcases hat with h | h
  · exact ⟨_, h, Nat.le_refl _⟩
  · exact ⟨_, h, by simp⟩

theorem cloneI_nil (w : World) : Calls Try.prog 62 #[.slice none 0 0] w fun e w' => e = .returned (.slice none 0 0) ∧ w' = w := by
  have q22 : ∀ (w : World) (a : Option Addr) (n c n' c' : Nat), (binOp .eql 36 (.slice a n c) (.slice none n' c')).run Try.prog w = .ok (.bool a.isNone) w := fun w a n c n' c' => Lib.run_eql_slice_nil w _ _ a n c n' c' Try.underlying36
  go_enter Try.func62, Try.ntmps62
  go_wp2
  go_ret
  exact ⟨rfl, rfl⟩

#print axioms cloneI_calls
end Go.Proofs.Ytcjfhfalffngjaa
