/-
  The argument 'acts' as it is read: what its cells hold.
-/
import Derived.Test.YtklnonmmamdecabLight
import Derived.ChangeSlices
import Derived.ChangeArms
import Derived.Deep.Slices
import Derived.OpenShut
import Derived.ProofKit
namespace Go.Proofs.Ytklnonmmamdecab
open Go.ChangeShapes Go.WideShapes Go.RowKit Go.Deep
set_option linter.unusedVariables false
set_option linter.unusedSimpArgs false

theorem cells68 : Try.prog.cellsOf 68 = 3 := by kernel_rfl
theorem cells31 : Try.prog.cellsOf 31 = 6 := by kernel_rfl
theorem cells9 : Try.prog.cellsOf 9 = 1 := by kernel_rfl
theorem cells3 : Try.prog.cellsOf 3 = 1 := by kernel_rfl
theorem cells28 : Try.prog.cellsOf 28 = 1 := by kernel_rfl
theorem cells29 : Try.prog.cellsOf 29 = 1 := by kernel_rfl
theorem cells4 : Try.prog.cellsOf 4 = 1 := by kernel_rfl

section
variable {H : Type} {enc : TypeId × Value → H} {W : World} {base : Nat} {held : Bool}

theorem ch_open {fuel : Nat} {v : Value} {x : DataW H × List MemPlace} (h : DataW.trod enc Try.prog W base (fun _ => true) held fuel 29 [v] = some x) : ChOk W v := by
  rcases open_slice Try.underlying29 h with ⟨h0, _⟩ | ⟨a, len, cap, m, n, D, Pl, hcs, hb, hl, hm, hmm, _, hx⟩
  · simp only [List.cons.injEq, and_true] at h0
    exact .inl ⟨none, 0, h0⟩
  · simp only [List.cons.injEq, and_true] at hcs
    simp only [if_true] at hmm
    rcases Nat.eq_zero_or_pos cap with h0 | h0
    · obtain rfl : len = 0 := by omega
      exact .inl ⟨_, _, hcs⟩
    · obtain ⟨b, o, spot⟩ := a
      have hsp : spot = none := by
        obtain ⟨cs', h1, _⟩ := hx 0 (by omega)
        rw [cells68] at h1
        obtain ⟨_, hlen, hcell⟩ := World.cells?_some h1
        have := hcell 0 (by omega)
        rw [List.getElem?_eq_getElem (by omega)] at this
        simpa [Addr.add] using World.cell?_spot this
      subst hsp
      refine .inr ⟨b, o, len, cap, hcs, by unfold maxLen at hm; omega, fun j hj => ?_⟩
      obtain ⟨cs', h1, h2⟩ := hx j (by omega)
      rw [cells68] at h1
      obtain ⟨_, hlen, hcell⟩ := World.cells?_some h1
      obtain ⟨xs, k, hk, _, _, hxl, hf⟩ := DataW.trod_struct Try.underlying68 h2
      match xs, hxl, cs', hlen with
      | [y0, y1, y2], _, [u0, u1, u2], _ =>
        have g0 := hf 0 _ rfl
        have g1 := hf 1 _ rfl
        simp [cells9] at g0 g1
        obtain ⟨s0, e0, _⟩ := DataW.trod_string Try.underlying9 g0
        obtain ⟨s1, e1, _⟩ := DataW.trod_string Try.underlying9 g1
        simp at e0 e1
        subst e0 e1
        have c0 := hcell 0 (by omega)
        have c1 := hcell 1 (by omega)
        rw [add_add] at c0 c1
        rw [Addr.add_lit] at c0 c1
        exact ⟨s0, s1, by simpa using c0, by simpa [Nat.add_assoc] using c1⟩

instance : Inhabited ActD := ⟨⟨⟨#[]⟩, ⟨#[]⟩, ⟨#[]⟩, 0, .slice none 0 0⟩⟩

theorem acts_open {v : Value} {d : DataW H} {ps : List MemPlace} (hval : ∃ a len cap, v = .slice a len cap) (h : DataW.Trod enc Try.prog W base (fun _ => true) held 22 v d ps) : ∃ n f, ActsOk W v n f := by
  obtain ⟨fuel, h⟩ := h
  obtain ⟨a0, l0, c0, rfl⟩ := hval
  rcases open_slice Try.underlying22 h with ⟨h0, _⟩ | ⟨a, len, cap, m, n, D, Pl, hcs, hb, hl, hm, hmm, _, hx⟩
  · simp only [Value.cells, List.cons.injEq, and_true] at h0
    exact ⟨0, default, .inl ⟨⟨none, 0, h0⟩, rfl⟩⟩
  · simp only [Value.cells, List.cons.injEq, and_true] at hcs
    simp only [if_true] at hmm
    rcases Nat.eq_zero_or_pos cap with h0 | h0
    · obtain rfl : len = 0 := by omega
      exact ⟨0, default, .inl ⟨⟨_, _, hcs⟩, rfl⟩⟩
    · obtain ⟨b, o, spot⟩ := a
      have hsp : spot = none ∧ b < W.heap.size := by
        obtain ⟨cs', h1, _⟩ := hx 0 (by omega)
        rw [cells31] at h1
        obtain ⟨_, hlen, hcell⟩ := World.cells?_some h1
        have := hcell 0 (by omega)
        rw [List.getElem?_eq_getElem (by omega)] at this
        exact ⟨by simpa [Addr.add] using World.cell?_spot this, by have h2 := World.block_lt_of_cell? _ _ this; simpa [Addr.add] using h2⟩
      obtain ⟨rfl, hlt⟩ := hsp
      have each : ∀ j, j < len → ∃ q : ActD, W.cell? ⟨b, o + j * 6, none⟩ = some (.string q.kind) ∧ W.cell? ⟨b, o + j * 6 + 1, none⟩ = some (.string q.s) ∧ W.cell? ⟨b, o + j * 6 + 2, none⟩ = some (.string q.t) ∧ W.cell? ⟨b, o + j * 6 + 3, none⟩ = some (.int .i64 q.n) ∧ (∃ u, W.cell? ⟨b, o + j * 6 + 4, none⟩ = some (.int .u64 u)) ∧ W.cell? ⟨b, o + j * 6 + 5, none⟩ = some q.ch ∧ ChOk W q.ch := by
        intro j hj
        obtain ⟨cs', h1, h2⟩ := hx j (by omega)
        rw [cells31] at h1
        obtain ⟨_, hlen, hcell⟩ := World.cells?_some h1
        obtain ⟨xs, k, hk, _, _, hxl, hf⟩ := DataW.trod_struct Try.underlying31 h2
        match xs, hxl, cs', hlen with
        | [y0, y1, y2, y3, y4, y5], _, [u0, u1, u2, u3, u4, u5], _ =>
          have g0 := hf 0 _ rfl
          have g1 := hf 1 _ rfl
          have g2 := hf 2 _ rfl
          have g3 := hf 3 _ rfl
          have g4 := hf 4 _ rfl
          have g5 := hf 5 _ rfl
          simp [cells9, cells3, cells28, cells29] at g0 g1 g2 g3 g4 g5
          obtain ⟨s0, e0, _⟩ := DataW.trod_string Try.underlying9 g0
          obtain ⟨s1, e1, _⟩ := DataW.trod_string Try.underlying9 g1
          obtain ⟨s2, e2, _⟩ := DataW.trod_string Try.underlying9 g2
          obtain ⟨s3, e3, _⟩ := DataW.trod_int Try.underlying3 g3
          obtain ⟨s4, e4, _⟩ := DataW.trod_int Try.underlying28 g4
          simp at e0 e1 e2 e3 e4
          subst e0 e1 e2 e3 e4
          have c0 := hcell 0 (by omega)
          have c1 := hcell 1 (by omega)
          have c2 := hcell 2 (by omega)
          have c3 := hcell 3 (by omega)
          have c4 := hcell 4 (by omega)
          have c5 := hcell 5 (by omega)
          rw [add_add, Addr.add_lit] at c0 c1 c2 c3 c4 c5
          exact ⟨⟨s0, s1, s2, s3, u5⟩, by simpa using c0, by simpa [Nat.add_assoc] using c1, by simpa [Nat.add_assoc] using c2, by simpa [Nat.add_assoc] using c3, ⟨s4, by simpa [Nat.add_assoc] using c4⟩, by simpa [Nat.add_assoc] using c5, ch_open g5⟩
      obtain ⟨f, hf⟩ := choose_lt each
      exact ⟨len, f, .inr ⟨b, o, cap, hcs, by unfold maxLen at hm; omega, hlt, hf⟩⟩
end

#print axioms acts_open
end Go.Proofs.Ytklnonmmamdecab
