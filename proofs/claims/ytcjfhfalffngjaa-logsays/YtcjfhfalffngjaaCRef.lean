/-
  The contract of the document's Applied, over the seat's program.
-/
import Derived.Test.YtcjfhfalffngjaaCApplyW
import Derived.Test.YtcjfhfalffngjaaGen
import Derived.Deep.QuietTactic
import Derived.BigQuiet
namespace Go.Proofs.Ytcjfhfalffngjaa
open Go.RowKit Go.Lib
set_option maxRecDepth 100000
set_option linter.unusedVariables false
set_option linter.unusedSimpArgs false

theorem bytesLess_cmp : ∀ a b : List UInt8, Op.bytesLess a b = decide (Go.Lib.compareBytes a b < 0)
  | [], [] => by simp [Op.bytesLess, Go.Lib.compareBytes]
  | [], _ :: _ => by simp [Op.bytesLess, Go.Lib.compareBytes]
  | _ :: _, [] => by simp [Op.bytesLess, Go.Lib.compareBytes]
  | x :: a, y :: b => by
    have ih := bytesLess_cmp a b
    unfold Op.bytesLess Go.Lib.compareBytes
    by_cases h1 : x < y
    · simp [h1]
    · by_cases h2 : y < x
      · have h3 : ¬ (x = y) := fun e => by subst e; exact h1 h2
        simp [h1, h2, h3]
      · have h3 : x = y := by
          rw [UInt8.lt_iff_toNat_lt] at h1 h2
          exact UInt8.toNat_inj.1 (by omega)
        subst h3
        simp [h1, ih]
theorem less_kLt (a b : ByteArray) : Op.bytesLess a.toList b.toList = decide (kLt a b) := by
  rw [bytesLess_cmp, Go.Lib.toList_data, Go.Lib.toList_data]
  rfl
theorem toList_same (a b : ByteArray) : a.toList = b.toList ↔ a = b := by
  rw [Lib.toList_data, Lib.toList_data]
  constructor
  · intro h
    cases a; cases b
    congr 1
    exact Array.toList_inj.1 h
  · rintro rfl; rfl
/-- While a change is laid among rows. -/
def AInv (c : ChD) (a next : List ChD) (laid : Bool) : Prop :=
  (c.gone = true ∧ laid = true ∧ next = dropL a c.key) ∨ (c.gone = false ∧ laid = false ∧ next = a ∧ ∀ y ∈ a, kLt y.key c.key) ∨ (c.gone = false ∧ laid = true ∧ next = putL a c ∧ ∃ y ∈ a, ¬ kLt y.key c.key)
theorem ainv_start (c : ChD) : AInv c [] [] c.gone := by
  cases h : c.gone with
  | true => exact .inl ⟨h, rfl, rfl⟩
  | false => exact .inr (.inl ⟨h, rfl, rfl, fun y hy => by simp at hy⟩)
theorem ainv_end {c : ChD} {a next : List ChD} (h : AInv c a next true) : next = applyOne a c := by
  unfold applyOne
  rcases h with ⟨h1, _, h2⟩ | ⟨_, h, _⟩ | ⟨h1, _, h2, _⟩
  · rw [h1]; exact h2
  · cases h
  · rw [h1]; exact h2
theorem ainv_last {c : ChD} {a next : List ChD} (h : AInv c a next false) : next ++ [c] = applyOne a c := by
  unfold applyOne
  rcases h with ⟨_, h, _⟩ | ⟨h1, _, h2, h3⟩ | ⟨_, h, _⟩
  · cases h
  · rw [h1, h2]
    have := putL_at (it := c) a [] h3 (fun i hi => by simp at hi)
    rw [List.append_nil] at this
    exact this.symm
  · cases h
theorem ainv_same {c x : ChD} {a next : List ChD} (hs : ∀ y ∈ a, kLt y.key x.key) (h : AInv c a next true) (hk : x.key = c.key) : AInv c (a ++ [x]) next true := by
  rcases h with ⟨h1, _, h2⟩ | ⟨_, h, _⟩ | ⟨h1, _, h2, y, hy, hn⟩
  · refine .inl ⟨h1, rfl, ?_⟩
    rw [h2]
    unfold dropL
    rw [List.filter_append]
    simp [hk]
  · cases h
  · exact absurd (hk ▸ hs y hy) hn
theorem ainv_keep {c x : ChD} {a next : List ChD} (hs : ∀ y ∈ a, kLt y.key x.key) (h : AInv c a next true) (hk : x.key ≠ c.key) : AInv c (a ++ [x]) (next ++ [x]) true := by
  rcases h with ⟨h1, _, h2⟩ | ⟨_, h, _⟩ | ⟨h1, _, h2, y, hy, hn⟩
  · refine .inl ⟨h1, rfl, ?_⟩
    rw [h2]
    unfold dropL
    rw [List.filter_append]
    simp [hk]
  · cases h
  · refine .inr (.inr ⟨h1, rfl, ?_, y, by simp [hy], hn⟩)
    rw [h2, putL_high a [x] (fun i hi => by
      simp at hi
      subst hi
      rcases kLt_tri c.key i.key with h | h | h
      · exact h
      · exact absurd h.symm hk
      · exact absurd (kLt_trans (hs y hy) h) hn)]
theorem ainv_low {c x : ChD} {a next : List ChD} (h : AInv c a next false) (hk : kLt x.key c.key) : AInv c (a ++ [x]) (next ++ [x]) false := by
  rcases h with ⟨_, h, _⟩ | ⟨h1, _, h2, h3⟩ | ⟨_, h, _⟩
  · cases h
  · refine .inr (.inl ⟨h1, rfl, by rw [h2], fun y hy => ?_⟩)
    rcases List.mem_append.1 hy with h | h
    · exact h3 y h
    · simp at h; subst h; exact hk
  · cases h
theorem ainv_eq {c x : ChD} {a next : List ChD} (h : AInv c a next false) (hk : x.key = c.key) : AInv c (a ++ [x]) (next ++ [c]) true := by
  rcases h with ⟨_, h, _⟩ | ⟨h1, _, h2, h3⟩ | ⟨_, h, _⟩
  · cases h
  · refine .inr (.inr ⟨h1, rfl, ?_, x, by simp, by rw [hk]; exact kLt_irrefl _⟩)
    rw [h2]
    exact (putL_same a [] h3 hk).symm
  · cases h
theorem ainv_high {c x : ChD} {a next : List ChD} (h : AInv c a next false) (hk : kLt c.key x.key) : AInv c (a ++ [x]) (next ++ [c] ++ [x]) true := by
  rcases h with ⟨_, h, _⟩ | ⟨h1, _, h2, h3⟩ | ⟨_, h, _⟩
  · cases h
  · refine .inr (.inr ⟨h1, rfl, ?_, x, by simp, kLt_asymm hk⟩)
    rw [h2, putL_at a [x] h3 (fun i hi => by simp at hi; subst hi; exact hk)]
    simp
  · cases h
#print axioms ainv_high

/-- A change behind rows. -/
theorem hold_add {w0 wx : World} {v : Value} {L : List ChD} {l2 : List Res} (H : Hold w0 wx (rowI v L :: l2)) (c : ChD) (hn : L.length ≤ 1000) :
    ∃ v' w', (Builtin.append_ #[36, 36] 36 #[v, .slice (some ⟨wx.heap.size, 0, none⟩) 1 1]).run Try.prog (wx.alloc (.cells #[.string c.key, .string c.val, .bool c.gone] 54)) = .ok v' w' ∧ Hold w0 w' (rowI v' (L ++ [c]) :: l2) := by
  have h1 := H.made 54 (cellsOf c)
  obtain ⟨v', w', h2, h3, _⟩ := h1.append [_] 36 36 Try.underlying36 infoC (by decide) (by decide) (some ⟨wx.heap.size, 0, none⟩) 1 1 (cellsOf c) rfl (fun _ => ⟨wx.heap.size, 0, rfl, fun j u hj => by rw [Nat.zero_add]; exact h1.cellAt (.head _) hj⟩) (fun h => by cases h) (fun u hu => flat_one [c] u (by simpa [flat] using hu)) (by omega)
  refine ⟨v', w', h2, ?_⟩
  have h4 := h3.forget []
  unfold rowI
  rw [flat_append, List.length_append, show flat [c] = cellsOf c from by simp [flat]]
  exact h4
/-- Rows behind nothing. -/
theorem hold_copy (v : Value) (n : Nat) (f : Nat → ChD) (w : World) (h : ChOk w v n f) (hs : Shaped v) (hn : n ≤ 1000) : ∃ p c v' w', v = .slice p n c ∧ (Builtin.append_ #[36, 36] 36 #[.slice none 0 0, .slice p n c]).run Try.prog w = .ok v' w' ∧ Hold w w' [rowI v' (listOf n f)] := by
  have H1 := (Hold.init w).nilRow 54 3
  have key : ∀ p c, v = .slice p n c → (0 < n → ∃ b off, p = some ⟨b, off, none⟩ ∧ ∀ j u, (flat (listOf n f))[j]? = some u → w.cell? ⟨b, off + j, none⟩ = some u) → (p = none → n = 0 ∧ c = 0) → ∃ p c v' w', v = .slice p n c ∧ (Builtin.append_ #[36, 36] 36 #[.slice none 0 0, .slice p n c]).run Try.prog w = .ok v' w' ∧ Hold w w' [rowI v' (listOf n f)] := fun p c hv h1 h2 => by
    obtain ⟨v', w', h3, h4, _⟩ := H1.append [] 36 36 Try.underlying36 infoC (by decide) (by decide) p n c (flat (listOf n f)) (by rw [flat_length, listOf_length]) h1 h2 (flat_one _) (by omega)
    refine ⟨p, c, v', w', hv, h3, ?_⟩
    rw [Nat.zero_add, List.nil_append] at h4
    unfold rowI
    rw [listOf_length]
    exact h4
  rcases h with ⟨⟨p, c, hv⟩, rfl⟩ | ⟨b, off, c, hv, _, _, hcells⟩
  · rcases hs with h0 | ⟨a, m, c', h0⟩
    · exact key none 0 h0 (fun h => by omega) (fun _ => ⟨rfl, rfl⟩)
    · have hm : m = 0 := by rw [h0] at hv; injection hv
      subst hm
      exact key (some a) c' h0 (fun h => by omega) (fun h => by cases h)
  · exact key _ c hv (fun _ => ⟨b, off, rfl, fun j u hu => flat_listOf hcells j u hu⟩) (fun h => by cases h)
#print axioms hold_copy
end Go.Proofs.Ytcjfhfalffngjaa
