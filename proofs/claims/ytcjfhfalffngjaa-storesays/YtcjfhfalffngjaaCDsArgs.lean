/-
  The arguments 'deeds' and 'texts' as they are read.
-/
import Derived.Test.YtcjfhfalffngjaaCDNew
import Derived.Test.YtcjfhfalffngjaaCLDs
namespace Go.Proofs.Ytcjfhfalffngjaa
open Go.ChangeShapes Go.WideShapes Go.RowKit Go.Deep
set_option linter.unusedVariables false
set_option maxRecDepth 100000
set_option linter.unusedSimpArgs false
section
variable {H : Type} {enc : TypeId × Value → H} {W : World} {base : Nat} {held : Bool}

theorem chl_of_ok {w : World} {v : Value} {n : Nat} {f : Nat → ChD} (h : ChOk w v n f) : ChL w v (listOf n f) := by
  unfold ChL
  rw [listOf_length]
  rcases h with h | ⟨b, off, c, h1, h2, h3, h4⟩
  · exact .inl h
  · refine .inr ⟨b, off, c, h1, h2, h3, fun j hj => ?_⟩
    have : (listOf n f).getD j chZ = f j := by rw [List.getD, listOf_get hj]; rfl
    simp only [this]
    exact h4 j hj

theorem deeds_open {v : Value} {d : DataW H} {ps : List MemPlace} (hval : ∃ a len cap, v = .slice a len cap) (h : DataW.Trod enc Try.prog W base (fun _ => true) held 69 v d ps) : ∃ (n : Nat) (P : List (Value × List ChD)), DsP W v P := by
  obtain ⟨fuel, h⟩ := h
  obtain ⟨a0, l0, c0, rfl⟩ := hval
  rcases open_slice Try.underlying69 h with ⟨h0, _⟩ | ⟨a, len, cap, m, n, D, Pl, hcs, hb, hl, hm, hmm, _, hx⟩
  · simp only [Value.cells, List.cons.injEq, and_true] at h0
    exact ⟨0, [], .inl ⟨rfl, none, 0, h0⟩⟩
  · simp only [Value.cells, List.cons.injEq, and_true] at hcs
    simp only [if_true] at hmm
    rcases Nat.eq_zero_or_pos cap with h0 | h0
    · obtain rfl : len = 0 := by omega
      exact ⟨0, [], .inl ⟨rfl, _, _, hcs⟩⟩
    · obtain ⟨b, o, spot⟩ := a
      have hsp : spot = none ∧ b < W.heap.size := by
        obtain ⟨cs', h1, _⟩ := hx 0 (by omega)
        rw [cells36] at h1
        obtain ⟨_, hlen, hcell⟩ := World.cells?_some h1
        have := hcell 0 (by omega)
        rw [List.getElem?_eq_getElem (by omega)] at this
        exact ⟨by simpa [Addr.add] using World.cell?_spot this, by have h2 := World.block_lt_of_cell? _ _ this; simpa [Addr.add] using h2⟩
      obtain ⟨rfl, hlt⟩ := hsp
      have each : ∀ j, j < len → ∃ q : Value × List ChD, W.cell? ⟨b, o + j, none⟩ = some q.1 ∧ ChL W q.1 q.2 := fun j hj => by
        obtain ⟨cs', h1, h2⟩ := hx j (by omega)
        rw [cells36] at h1
        obtain ⟨_, hlen, hcell⟩ := World.cells?_some h1
        match cs', hlen with
        | [u0], _ =>
          have c0 := hcell 0 (by omega)
          rw [add_add, Addr.add_lit] at c0
          obtain ⟨cn, cf, hch⟩ := ch_open h2
          exact ⟨(u0, listOf cn cf), by simpa using c0, chl_of_ok hch⟩
      obtain ⟨f, hf⟩ := choose_lt each
      refine ⟨0, (List.range len).map f, .inr ⟨b, o, cap, by simpa using hcs, by simp; unfold maxLen at hm; omega, hlt, fun j p hp => ?_⟩⟩
      have hj : j < len := by have := (List.getElem?_eq_some_iff.1 hp).1; simpa using this
      rw [List.getElem?_map, List.getElem?_range hj] at hp
      cases hp
      exact hf j hj
end
#print axioms deeds_open
end Go.Proofs.Ytcjfhfalffngjaa
