/-
  What the row's list of variables says of the table of whole signs: the world holds it, cell for cell.
-/
import Derived.Test.YtdflokjpgbeniaaDoorRows
import Derived.Test.YtdflokjpgbeniaaDoorSplit
import Derived.ProofKit
import Derived.OpenShut
import Derived.Deep.Strs
import Derived.Lib.LaidTab
namespace Go.Proofs.YtdflokjpgbeniaaDoor
open Go.ChangeShapes Go.WideShapes Go.ChangeAt Go.RowKit

theorem gWholes : Tryd.prog.globalNamed "jobcase/sign.wholes" = some 2 := by kernel_rfl
theorem tWholes : (Tryd.prog.globals[2]?).map (·.type) = some 68 := by kernel_rfl
theorem cells68 : Tryd.prog.cellsOf 68 = 102 := by kernel_rfl
theorem cells49 : Tryd.prog.cellsOf 49 = 3 := by kernel_rfl
theorem cells21 : Tryd.prog.cellsOf 21 = 1 := by kernel_rfl

/-- The table as the row lists it. -/
theorem laid_tab {H : Type} : (Rows.laid_jobcase_sign_wholes : DataW H) = .agg (tab.map fun x => .agg [.lit (.int .i32 x.1), .lit (.int .i32 x.2.1), .lit (.int .i32 x.2.2)]) := rfl

theorem flat_at (f : Int × Int × Int → List Value) (hf : ∀ x, (f x).length = 3) : ∀ (l : List (Int × Int × Int)) (cs : List Value), cs.length = l.length * 3 → (∀ i, i < l.length → (cs.drop (i * 3)).take 3 = f (l.getD i (0, 0, 0))) → cs = l.flatMap f
  | [], cs, h, _ => by simpa using h
  | x :: l, cs, h, hi => by
    have h0 := hi 0 (by simp)
    simp at h0
    have ht : cs.drop 3 = l.flatMap f := flat_at f hf l (cs.drop 3) (by simp at h ⊢; omega) (fun i hlt => by
      have := hi (i + 1) (by simpa using hlt)
      simp only [List.getD_cons_succ] at this
      rw [List.drop_drop, show 3 + i * 3 = (i + 1) * 3 by omega]
      exact this)
    rw [List.flatMap_cons, ← h0, ← ht, List.take_append_drop]

theorem three (a b c : Value) : ∀ (q : List Value), q.length = 3 → q.take 1 = [a] → (q.drop 1).take 1 = [b] → (q.drop 2).take 1 = [c] → q = [a, b, c]
  | [x, y, z], _, h0, h1, h2 => by
    simp at h0 h1 h2
    rw [h0, h1, h2]
theorem tab_of_trod {H : Type} {enc : TypeId × Value → H} {w : World} {base : Nat} {sp : Nat → Bool} {held : Bool} {fuel : Nat} {cs : List Value} {p : List MemPlace}
    (h : DataW.trod enc Tryd.prog w base sp held fuel 68 cs = some (Rows.laid_jobcase_sign_wholes, p)) : cs = tabCells.toList := by
  obtain ⟨xs, m, rfl, hx, hl, hn, hi⟩ := DataW.trod_array Tryd.underlying68 h
  rw [laid_tab] at hx
  rw [cells68] at hl
  rw [cells49] at hi
  have hx1 : (tab.map fun x => (DataW.agg [.lit (.int .i32 x.1), .lit (.int .i32 x.2.1), .lit (.int .i32 x.2.2)] : DataW H)) = xs.map (·.1) := by
    simpa using congrArg (fun y => y.1) hx
  unfold tabCells
  rw [List.toList_toArray]
  refine flat_at _ (fun _ => rfl) tab cs (by rw [hl]; rfl) (fun i hlt => ?_)
  have hlt' : i < 34 := hlt
  have hti := hi i hlt'
  obtain ⟨y, hy⟩ : ∃ y, xs[i]? = some y := ⟨xs[i]'(by omega), List.getElem?_eq_getElem _⟩
  rw [hy] at hti
  obtain ⟨y0, y1, y2, n, rfl, hlen, t0, t1, t2⟩ := Deep.trod_struct3 Tryd.underlying49 hti
  have he : (tab.map fun x => (DataW.agg [.lit (.int .i32 x.1), .lit (.int .i32 x.2.1), .lit (.int .i32 x.2.2)] : DataW H))[i]? = some (.agg [y0.1, y1.1, y2.1]) := by
    rw [hx1]; simp [hy]
  obtain ⟨x, hx0⟩ : ∃ x, tab[i]? = some x := ⟨_, List.getElem?_eq_getElem hlt⟩
  rw [List.getElem?_map, hx0] at he
  simp only [Option.map_some, Option.some.injEq, DataW.agg.injEq, List.cons.injEq, and_true] at he
  obtain ⟨e0, e1, e2⟩ := he
  obtain ⟨n0, c0, rfl, _⟩ := DataW.trod_int Tryd.underlying21 t0
  obtain ⟨n1, c1, rfl, _⟩ := DataW.trod_int Tryd.underlying21 t1
  obtain ⟨n2, c2, rfl, _⟩ := DataW.trod_int Tryd.underlying21 t2
  simp only [DataW.lit.injEq, Lit.int.injEq, true_and] at e0 e1 e2
  rw [cells49] at hlen
  rw [cells21] at c0 c1 c2
  rw [List.getD_eq_getElem?_getD, hx0, Option.getD_some, e0, e1, e2]
  exact three _ _ _ _ hlen (by simpa using c0) (by simpa using c1) (by simpa using c2)

theorem hasTab_of_head {W : World} {rest : List (String × DataW Unit)} (h : laidMet Tryd.prog (("jobcase/sign.wholes", Rows.laid_jobcase_sign_wholes) :: rest) W) : HasTab W := by
  obtain ⟨ps, ⟨g', t', cs, fuel, p, q, hg', ht', hvar, hd, _, _⟩, _⟩ := h
  obtain rfl := Option.some.inj (gWholes.symm.trans hg')
  obtain rfl := Option.some.inj (tWholes.symm.trans ht')
  have hc := tab_of_trod hd
  have hc' : cs = tabCells := by cases cs; simpa using congrArg List.toArray hc
  subst hc'
  simp only [World.var?, hg', Option.bind_some] at hvar
  split at hvar
  · rename_i c t fr hb
    cases hvar
    exact ⟨t, fr, hb⟩
  · cases hvar
end Go.Proofs.YtdflokjpgbeniaaDoor
