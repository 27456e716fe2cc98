/-
  The arguments 'a row of changes' and 'a change' as they are read.
-/
import Derived.Test.YtlibbkdpkpaglaaArgs
import Derived.Test.YtlibbkdpkpaglaaCApplyW
namespace Go.Proofs.Ytlibbkdpkpaglaa
open Go.ChangeShapes Go.WideShapes Go.RowKit Go.Deep
set_option linter.unusedVariables false
set_option maxRecDepth 100000
set_option linter.unusedSimpArgs false
section
variable {H : Type} {enc : TypeId × Value → H} {W : World} {base : Nat} {held : Bool}

theorem changes_open {v : Value} {d : DataW H} {ps : List MemPlace} (hval : ∃ a len cap, v = .slice a len cap) (h : DataW.Trod enc Try.prog W base (fun _ => true) held 36 v d ps) : ∃ n f, ChOk W v n f ∧ Shaped v := by
  obtain ⟨fuel, h⟩ := h
  obtain ⟨a0, l0, c0, rfl⟩ := hval
  have h' : DataW.trod enc Try.prog W base (fun _ => true) held fuel 36 [.slice a0 l0 c0] = some (d, ps) := h
  obtain ⟨n, f, hok⟩ := ch_open h'
  refine ⟨n, f, hok, ?_⟩
  rcases open_slice Try.underlying36 h' with ⟨h0, _⟩ | ⟨a, len, cap, m, n, D, Pl, hcs, _⟩
  · simp only [List.cons.injEq, and_true] at h0
    exact .inl h0
  · simp only [List.cons.injEq, and_true] at hcs
    exact .inr ⟨a, len, cap, hcs⟩

theorem change_open {b0 : Nat} {v : Value} {d : DataW H} {ps : List MemPlace} (hval : Value.okWide Try.prog W .any b0 54 v) (h : DataW.Trod enc Try.prog W base (fun _ => true) held 54 v d ps) : ∃ c : ChD, v = chV c := by
  obtain ⟨cs, rfl, hsz⟩ := okWide_struct Try.underlying54 hval
  rw [cells54] at hsz
  obtain ⟨fuel, h⟩ := h
  obtain ⟨l, rfl⟩ : ∃ l : List Value, cs = l.toArray := ⟨cs.toList, by simp⟩
  match l, hsz with
  | [u0, u1, u2], _ =>
    obtain ⟨xs, k, hk, _, _, hxl, hf⟩ := DataW.trod_struct Try.underlying54 h
    match xs, hxl with
    | [y0, y1, y2], _ =>
      have g0 := hf 0 _ rfl
      have g1 := hf 1 _ rfl
      have g2 := hf 2 _ rfl
      simp [Value.cells, cells9, cells4] at g0 g1 g2
      obtain ⟨s0, e0, _⟩ := DataW.trod_string Try.underlying9 g0
      obtain ⟨s1, e1, _⟩ := DataW.trod_string Try.underlying9 g1
      obtain ⟨s2, e2, _⟩ := DataW.trod_bool Try.underlying4 g2
      simp at e0 e1 e2
      subst e0 e1 e2
      exact ⟨⟨s0, s1, s2⟩, rfl⟩
end
end Go.Proofs.Ytlibbkdpkpaglaa
