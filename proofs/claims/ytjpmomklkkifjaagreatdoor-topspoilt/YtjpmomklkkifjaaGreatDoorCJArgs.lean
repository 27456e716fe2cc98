import Derived.Test.YtjpmomklkkifjaaGreatDoorRows
import Derived.Test.YtjpmomklkkifjaaGreatDoorCSignsWalk
import Derived.ProofKit
import Derived.OpenShut
import Derived.Deep.Strs
import Derived.Lib.LaidTab
import Derived.Test.YtjpmomklkkifjaaGreatDoorCValid
import Derived.Lib.LaidU8T
import Derived.MakeChecks
import Derived.LaidLaws
import Derived.Test.YtjpmomklkkifjaaGreatDoorCFFind
import Derived.ChangeSlices
import Derived.ChangeArms
import Derived.Deep.Slices
import Derived.Test.YtjpmomklkkifjaaGreatDoorCJCut
import Derived.Stop.LaidErr
set_option maxRecDepth 100000
set_option linter.unusedVariables false
set_option linter.unusedSimpArgs false
namespace Go.Proofs.YtjpmomklkkifjaaGreatDoor
open Go.ChangeShapes Go.WideShapes Go.ChangeAt Go.RowKit
theorem gWholes : Tryz.prog.globalNamed "jobcase/sign.wholes" = some 3 := by kernel_rfl
theorem tWholes : (Tryz.prog.globals[3]?).map (·.type) = some 223 := by kernel_rfl
theorem cells68 : Tryz.prog.cellsOf 223 = 102 := by kernel_rfl
theorem cells49 : Tryz.prog.cellsOf 192 = 3 := by kernel_rfl
theorem cells21 : Tryz.prog.cellsOf 21 = 1 := by kernel_rfl
theorem laid_tab {H : Type} : (Rows.laid_jobcase_sign_wholes : DataW H) = .agg (tab.map fun x => .agg [.lit (.int .i32 x.1), .lit (.int .i32 x.2.1), .lit (.int .i32 x.2.2)]) := rfl
theorem flat_at (f : Int × Int × Int → List Value) (hf : ∀ x, (f x).length = 3) : ∀ (l : List (Int × Int × Int)) (cs : List Value), cs.length = l.length * 3 → (∀ i, i < l.length → (cs.drop (i * 3)).take 3 = f (l.getD i (0, 0, 0))) → cs = l.flatMap f
  | [], cs, h, _ => by simpa using h
  | x :: l, cs, h, hi => by
    have h0 := hi 0 (by simp)
    simp at h0
    have ht : cs.drop 3 = l.flatMap f := flat_at f hf l (cs.drop 3) (by simp at h ⊢; omega) (fun i hlt => by
      have := hi (i + 1) (by simpa using hlt)
      simp only [List.getD_cons_succ] at this
      rw [List.drop_drop, show 3 + i * 3 = (i + 1) * 3 by omega]
      exact this)
    rw [List.flatMap_cons, ← h0, ← ht, List.take_append_drop]
theorem three (a b c : Value) : ∀ (q : List Value), q.length = 3 → q.take 1 = [a] → (q.drop 1).take 1 = [b] → (q.drop 2).take 1 = [c] → q = [a, b, c]
  | [x, y, z], _, h0, h1, h2 => by
    simp at h0 h1 h2
    rw [h0, h1, h2]
theorem tab_of_trod {H : Type} {enc : TypeId × Value → H} {w : World} {base : Nat} {sp : Nat → Bool} {held : Bool} {fuel : Nat} {cs : List Value} {p : List MemPlace}
    (h : DataW.trod enc Tryz.prog w base sp held fuel 223 cs = some (Rows.laid_jobcase_sign_wholes, p)) : cs = tabCells.toList := by
  obtain ⟨xs, m, rfl, hx, hl, hn, hi⟩ := DataW.trod_array Tryz.underlying223 h
  rw [laid_tab] at hx
  rw [cells68] at hl
  rw [cells49] at hi
  have hx1 : (tab.map fun x => (DataW.agg [.lit (.int .i32 x.1), .lit (.int .i32 x.2.1), .lit (.int .i32 x.2.2)] : DataW H)) = xs.map (·.1) := by
    simpa using congrArg (fun y => y.1) hx
  unfold tabCells
  rw [List.toList_toArray]
  refine flat_at _ (fun _ => rfl) tab cs (by rw [hl]; rfl) (fun i hlt => ?_)
  have hlt' : i < 34 := hlt
  have hti := hi i hlt'
  obtain ⟨y, hy⟩ : ∃ y, xs[i]? = some y := ⟨xs[i]'(by omega), List.getElem?_eq_getElem _⟩
  rw [hy] at hti
  obtain ⟨y0, y1, y2, n, rfl, hlen, t0, t1, t2⟩ := Deep.trod_struct3 Tryz.underlying192 hti
  have he : (tab.map fun x => (DataW.agg [.lit (.int .i32 x.1), .lit (.int .i32 x.2.1), .lit (.int .i32 x.2.2)] : DataW H))[i]? = some (.agg [y0.1, y1.1, y2.1]) := by
    rw [hx1]; simp [hy]
  obtain ⟨x, hx0⟩ : ∃ x, tab[i]? = some x := ⟨_, List.getElem?_eq_getElem hlt⟩
  rw [List.getElem?_map, hx0] at he
  simp only [Option.map_some, Option.some.injEq, DataW.agg.injEq, List.cons.injEq, and_true] at he
  obtain ⟨e0, e1, e2⟩ := he
  obtain ⟨n0, c0, rfl, _⟩ := DataW.trod_int Tryz.underlying21 t0
  obtain ⟨n1, c1, rfl, _⟩ := DataW.trod_int Tryz.underlying21 t1
  obtain ⟨n2, c2, rfl, _⟩ := DataW.trod_int Tryz.underlying21 t2
  simp only [DataW.lit.injEq, Lit.int.injEq, true_and] at e0 e1 e2
  rw [cells49] at hlen
  rw [cells21] at c0 c1 c2
  rw [List.getD_eq_getElem?_getD, hx0, Option.getD_some, e0, e1, e2]
  exact three _ _ _ _ hlen (by simpa using c0) (by simpa using c1) (by simpa using c2)
theorem hasTab_of_head {W : World} {rest : List (String × DataW Unit)} (h : laidMet Tryz.prog (("jobcase/sign.wholes", Rows.laid_jobcase_sign_wholes) :: rest) W) : HasTab W := by
  obtain ⟨ps, ⟨g', t', cs, fuel, p, q, hg', ht', hvar, hd, _, _⟩, _⟩ := h
  obtain rfl := Option.some.inj (gWholes.symm.trans hg')
  obtain rfl := Option.some.inj (tWholes.symm.trans ht')
  have hc := tab_of_trod hd
  have hc' : cs = tabCells := by cases cs; simpa using congrArg List.toArray hc
  subst hc'
  simp only [World.var?, hg', Option.bind_some] at hvar
  split at hvar
  · rename_i c t fr hb
    cases hvar
    exact ⟨t, fr, hb⟩
  · cases hvar
end Go.Proofs.YtjpmomklkkifjaaGreatDoor
namespace Go.Proofs.YtjpmomklkkifjaaGreatDoor
open Go.ChangeShapes Go.WideShapes Go.ChangeAt Go.RowKit
theorem laidKnob : ownKnob Tryz.prog.godebug = none := by kernel_rfl
def laid3 : List (String × DataW Unit) := [("jobcase/sign.wholes", Rows.laid_jobcase_sign_wholes), ("unicode/utf8.acceptRanges", Rows.laid_unicode_utf8_acceptRanges), ("unicode/utf8.first", Rows.laid_unicode_utf8_first)]
theorem first_same : Rows.laid_unicode_utf8_first = Lib.firstData := by kernel_rfl
theorem accept_same : (Rows.laid_unicode_utf8_acceptRanges : DataW Unit) = Lib.acceptData := by kernel_rfl
theorem u8extra : U8Extra Tryz.prog lays196_ren := { n3 := by kernel_rfl, n4 := by kernel_rfl, y3 := by kernel_rfl, y4 := by kernel_rfl, c5 := by kernel_rfl, c119 := by kernel_rfl, c138 := by kernel_rfl }
def flatCells : Nat → DataW Unit → List Value
  | 0, _ => []
  | _ + 1, .lit (.int k n) => [.int k n]
  | f + 1, .agg l => l.flatMap (flatCells f)
  | _ + 1, _ => []
def layCells (d : DataW Unit) : Obj → Obj
  | .cells _ t frozen => .cells (flatCells 3 d).toArray t frozen
  | o => o
noncomputable def laidWorld (os : Os) : World :=
  { World.holding Tryz.prog os ⟨#[], #[], []⟩ with heap := (((World.holding Tryz.prog os ⟨#[], #[], []⟩).heap.modify 0 (layCells Rows.laid_unicode_utf8_first)).modify 1 (layCells Rows.laid_unicode_utf8_acceptRanges)).modify 3 (layCells Rows.laid_jobcase_sign_wholes) }
end Go.Proofs.YtjpmomklkkifjaaGreatDoor
namespace Go.Proofs.YtjpmomklkkifjaaGreatDoor
open Go.ChangeShapes Go.WideShapes Go.ChangeAt Go.RowKit
def laid6 : List (String × DataW Unit) := [("jobcase/sign.wholes", Rows.laid_jobcase_sign_wholes), ("math/bits.deBruijn32tab", Rows.laid_math_bits_deBruijn32tab), ("math/bits.deBruijn64tab", Rows.laid_math_bits_deBruijn64tab), ("internal/strconv.uint64pow10", Rows.laid_internal_strconv_uint64pow10), ("unicode/utf8.acceptRanges", Rows.laid_unicode_utf8_acceptRanges), ("unicode/utf8.first", Rows.laid_unicode_utf8_first)]
noncomputable def laidWorld6 (os : Os) : World :=
  { laidWorld os with heap := (((laidWorld os).heap.modify 6 (layCells Rows.laid_internal_strconv_uint64pow10)).modify 7 (layCells Rows.laid_math_bits_deBruijn32tab)).modify 8 (layCells Rows.laid_math_bits_deBruijn64tab) }
end Go.Proofs.YtjpmomklkkifjaaGreatDoor
namespace Go.Proofs.YtjpmomklkkifjaaGreatDoor
open Go.ChangeShapes Go.WideShapes Go.ChangeAt Go.RowKit
def laid8 : List (String × DataW Unit) := [("jobcase/sign.wholes", Rows.laid_jobcase_sign_wholes), ("math/bits.deBruijn32tab", Rows.laid_math_bits_deBruijn32tab), ("math/bits.deBruijn64tab", Rows.laid_math_bits_deBruijn64tab), ("internal/strconv.uint64pow10", Rows.laid_internal_strconv_uint64pow10), ("unicode/utf8.acceptRanges", Rows.laid_unicode_utf8_acceptRanges), ("strconv.ErrRange", Rows.laid_strconv_ErrRange), ("strconv.ErrSyntax", Rows.laid_strconv_ErrSyntax), ("unicode/utf8.first", Rows.laid_unicode_utf8_first)]
theorem ready_of_laid8 {W : World} (hL : laidMetH Tryz.prog laid8 W) (hsh : W.ShapedOpen Tryz.prog) : Ready W := by
  rw [MakeChecks.laidMetH_plain _ _ _ (by kernel_rfl)] at hL
  have hT : HasTab W := hasTab_of_head hL
  obtain ⟨ps, hLV, _⟩ := hL
  have h4 := Lib.LaidVars_reads hLV "unicode/utf8.acceptRanges" Rows.laid_unicode_utf8_acceptRanges (by simp [laid8])
  have h3 := Lib.LaidVars_reads hLV "unicode/utf8.first" Rows.laid_unicode_utf8_first (by simp [laid8])
  rw [accept_same] at h4
  rw [first_same] at h3
  exact ⟨hT, utf8Tabs_of_readsT (U8Types.of196 lays196) u8extra h3 h4, cell_of_shapedOpen_int (P := Tryz.prog) (g := 2) (t := 3) (zero := #[.int .i64 0]) hsh (of_decide_eq_true (by kernel_rfl)) (by kernel_rfl) rfl (by kernel_rfl) (by kernel_rfl) Tryz.underlying3⟩
def putErr (b : Nat) : Obj → Obj
  | .cells _ t frozen => .cells #[.iface 274 (.pointer (some ⟨b, 0, none⟩))] t frozen
  | o => o
noncomputable def laidWorld8 (os : Os) : World :=
  { laidWorld6 os with heap := ((((laidWorld6 os).heap.modify 4 (putErr (laidWorld6 os).heap.size)).modify 5 (putErr ((laidWorld6 os).heap.size + 1))).push (.cells #[.string ⟨#[105, 110, 118, 97, 108, 105, 100, 32, 115, 121, 110, 116, 97, 120]⟩] 276 (0, 0))).push (.cells #[.string ⟨#[118, 97, 108, 117, 101, 32, 111, 117, 116, 32, 111, 102, 32, 114, 97, 110, 103, 101]⟩] 276 (0, 0)) }
end Go.Proofs.YtjpmomklkkifjaaGreatDoor
namespace Go.Proofs.YtjpmomklkkifjaaGreatDoor.T
open Go.ChangeShapes Go.WideShapes Go.RowKit Go.Deep
theorem cells68 : Tryz.prog.cellsOf 69 = 3 := by kernel_rfl
theorem cells31 : Tryz.prog.cellsOf 64 = 6 := by kernel_rfl
theorem cells9 : Tryz.prog.cellsOf 9 = 1 := by kernel_rfl
theorem cells3 : Tryz.prog.cellsOf 3 = 1 := by kernel_rfl
theorem cells28 : Tryz.prog.cellsOf 62 = 1 := by kernel_rfl
theorem cells29 : Tryz.prog.cellsOf 54 = 1 := by kernel_rfl
theorem cells4 : Tryz.prog.cellsOf 4 = 1 := by kernel_rfl
section
variable {H : Type} {enc : TypeId × Value → H} {W : World} {base : Nat} {held : Bool}
theorem ch_open {fuel : Nat} {v : Value} {x : DataW H × List MemPlace} (h : DataW.trod enc Tryz.prog W base (fun _ => true) held fuel 54 [v] = some x) : ChOk W v := by
  rcases open_slice Tryz.underlying54 h with ⟨h0, _⟩ | ⟨a, len, cap, m, n, D, Pl, hcs, hb, hl, hm, hmm, _, hx⟩
  · simp only [List.cons.injEq, and_true] at h0
    exact .inl ⟨none, 0, h0⟩
  · simp only [List.cons.injEq, and_true] at hcs
    simp only [if_true] at hmm
    rcases Nat.eq_zero_or_pos cap with h0 | h0
    · obtain rfl : len = 0 := by omega
      exact .inl ⟨_, _, hcs⟩
    · obtain ⟨b, o, spot⟩ := a
      have hsp : spot = none := by
        obtain ⟨cs', h1, _⟩ := hx 0 (by omega)
        rw [cells68] at h1
        obtain ⟨_, hlen, hcell⟩ := World.cells?_some h1
        have := hcell 0 (by omega)
        rw [List.getElem?_eq_getElem (by omega)] at this
        simpa [Addr.add] using World.cell?_spot this
      subst hsp
      refine .inr ⟨b, o, len, cap, hcs, by unfold maxLen at hm; omega, fun j hj => ?_⟩
      obtain ⟨cs', h1, h2⟩ := hx j (by omega)
      rw [cells68] at h1
      obtain ⟨_, hlen, hcell⟩ := World.cells?_some h1
      obtain ⟨xs, k, hk, _, _, hxl, hf⟩ := DataW.trod_struct Tryz.underlying69 h2
      match xs, hxl, cs', hlen with
      | [y0, y1, y2], _, [u0, u1, u2], _ =>
        have g0 := hf 0 _ rfl
        have g1 := hf 1 _ rfl
        simp [cells9] at g0 g1
        obtain ⟨s0, e0, _⟩ := DataW.trod_string Tryz.underlying9 g0
        obtain ⟨s1, e1, _⟩ := DataW.trod_string Tryz.underlying9 g1
        simp at e0 e1
        subst e0 e1
        have c0 := hcell 0 (by omega)
        have c1 := hcell 1 (by omega)
        rw [add_add] at c0 c1
        rw [Addr.add_lit] at c0 c1
        exact ⟨s0, s1, by simpa using c0, by simpa [Nat.add_assoc] using c1⟩
instance : Inhabited ActD := ⟨⟨⟨#[]⟩, ⟨#[]⟩, ⟨#[]⟩, 0, .slice none 0 0⟩⟩
theorem acts_open {v : Value} {d : DataW H} {ps : List MemPlace} (hval : ∃ a len cap, v = .slice a len cap) (h : DataW.Trod enc Tryz.prog W base (fun _ => true) held 22 v d ps) : ∃ n f, ActsOk W v n f := by
  obtain ⟨fuel, h⟩ := h
  obtain ⟨a0, l0, c0, rfl⟩ := hval
  rcases open_slice Tryz.underlying22 h with ⟨h0, _⟩ | ⟨a, len, cap, m, n, D, Pl, hcs, hb, hl, hm, hmm, _, hx⟩
  · simp only [Value.cells, List.cons.injEq, and_true] at h0
    exact ⟨0, default, .inl ⟨⟨none, 0, h0⟩, rfl⟩⟩
  · simp only [Value.cells, List.cons.injEq, and_true] at hcs
    simp only [if_true] at hmm
    rcases Nat.eq_zero_or_pos cap with h0 | h0
    · obtain rfl : len = 0 := by omega
      exact ⟨0, default, .inl ⟨⟨_, _, hcs⟩, rfl⟩⟩
    · obtain ⟨b, o, spot⟩ := a
      have hsp : spot = none ∧ b < W.heap.size := by
        obtain ⟨cs', h1, _⟩ := hx 0 (by omega)
        rw [cells31] at h1
        obtain ⟨_, hlen, hcell⟩ := World.cells?_some h1
        have := hcell 0 (by omega)
        rw [List.getElem?_eq_getElem (by omega)] at this
        exact ⟨by simpa [Addr.add] using World.cell?_spot this, by have h2 := World.block_lt_of_cell? _ _ this; simpa [Addr.add] using h2⟩
      obtain ⟨rfl, hlt⟩ := hsp
      have each : ∀ j, j < len → ∃ q : ActD, W.cell? ⟨b, o + j * 6, none⟩ = some (.string q.kind) ∧ W.cell? ⟨b, o + j * 6 + 1, none⟩ = some (.string q.s) ∧ W.cell? ⟨b, o + j * 6 + 2, none⟩ = some (.string q.t) ∧ W.cell? ⟨b, o + j * 6 + 3, none⟩ = some (.int .i64 q.n) ∧ (∃ u, W.cell? ⟨b, o + j * 6 + 4, none⟩ = some (.int .u64 u)) ∧ W.cell? ⟨b, o + j * 6 + 5, none⟩ = some q.ch ∧ ChOk W q.ch := by
        intro j hj
        obtain ⟨cs', h1, h2⟩ := hx j (by omega)
        rw [cells31] at h1
        obtain ⟨_, hlen, hcell⟩ := World.cells?_some h1
        obtain ⟨xs, k, hk, _, _, hxl, hf⟩ := DataW.trod_struct Tryz.underlying64 h2
        match xs, hxl, cs', hlen with
        | [y0, y1, y2, y3, y4, y5], _, [u0, u1, u2, u3, u4, u5], _ =>
          have g0 := hf 0 _ rfl
          have g1 := hf 1 _ rfl
          have g2 := hf 2 _ rfl
          have g3 := hf 3 _ rfl
          have g4 := hf 4 _ rfl
          have g5 := hf 5 _ rfl
          simp [cells9, cells3, cells28, cells29] at g0 g1 g2 g3 g4 g5
          obtain ⟨s0, e0, _⟩ := DataW.trod_string Tryz.underlying9 g0
          obtain ⟨s1, e1, _⟩ := DataW.trod_string Tryz.underlying9 g1
          obtain ⟨s2, e2, _⟩ := DataW.trod_string Tryz.underlying9 g2
          obtain ⟨s3, e3, _⟩ := DataW.trod_int Tryz.underlying3 g3
          obtain ⟨s4, e4, _⟩ := DataW.trod_int Tryz.underlying62 g4
          simp at e0 e1 e2 e3 e4
          subst e0 e1 e2 e3 e4
          have c0 := hcell 0 (by omega)
          have c1 := hcell 1 (by omega)
          have c2 := hcell 2 (by omega)
          have c3 := hcell 3 (by omega)
          have c4 := hcell 4 (by omega)
          have c5 := hcell 5 (by omega)
          rw [add_add, Addr.add_lit] at c0 c1 c2 c3 c4 c5
          exact ⟨⟨s0, s1, s2, s3, u5⟩, by simpa using c0, by simpa [Nat.add_assoc] using c1, by simpa [Nat.add_assoc] using c2, by simpa [Nat.add_assoc] using c3, ⟨s4, by simpa [Nat.add_assoc] using c4⟩, by simpa [Nat.add_assoc] using c5, ch_open g5⟩
      obtain ⟨f, hf⟩ := choose_lt each
      exact ⟨len, f, .inr ⟨b, o, cap, hcs, by unfold maxLen at hm; omega, hlt, hf⟩⟩
end
end Go.Proofs.YtjpmomklkkifjaaGreatDoor.T
namespace Go.Proofs.YtjpmomklkkifjaaGreatDoor.T
open Go.ChangeShapes Go.WideShapes Go.ChangeAt Go.RowKit Go.Deep
section
variable {H : Type} {enc : TypeId × Value → H} {W : World} {base : Nat} {held : Bool}
theorem change_open {b0 : Nat} {v : Value} {d : DataW H} {ps : List MemPlace} (hval : Value.okWide Tryz.prog W .any b0 69 v) (h : DataW.Trod enc Tryz.prog W base (fun _ => true) held 69 v d ps) : ∃ (k s : ByteArray) (g : Bool), v = .agg #[.string k, .string s, .bool g] := by
  obtain ⟨cs, rfl, hsz⟩ := okWide_struct Tryz.underlying69 hval
  rw [cells68] at hsz
  obtain ⟨fuel, h⟩ := h
  obtain ⟨l, rfl⟩ : ∃ l : List Value, cs = l.toArray := ⟨cs.toList, by simp⟩
  match l, hsz with
  | [u0, u1, u2], _ =>
    obtain ⟨xs, k, hk, _, _, hxl, hf⟩ := DataW.trod_struct Tryz.underlying69 h
    match xs, hxl with
    | [y0, y1, y2], _ =>
      have g0 := hf 0 _ rfl
      have g1 := hf 1 _ rfl
      have g2 := hf 2 _ rfl
      simp [Value.cells, cells9, cells4] at g0 g1 g2
      obtain ⟨s0, e0, _⟩ := DataW.trod_string Tryz.underlying9 g0
      obtain ⟨s1, e1, _⟩ := DataW.trod_string Tryz.underlying9 g1
      obtain ⟨s2, e2, _⟩ := DataW.trod_bool Tryz.underlying4 g2
      simp at e0 e1 e2
      subst e0 e1 e2
      exact ⟨s0, s1, s2, rfl⟩
end
end Go.Proofs.YtjpmomklkkifjaaGreatDoor.T
namespace Go.Proofs.YtjpmomklkkifjaaGreatDoor
open Go.ChangeShapes Go.WideShapes Go.ChangeAt Go.RowKit
theorem pow_same : (Rows.laid_internal_strconv_uint64pow10 : DataW Unit) = Lib.tabData .u64 Lib.pow10Tab := by kernel_rfl
theorem star : "*" ++ "errors.errorString" = "*errors.errorString" := by decide
theorem row274 (u : TypeId) (h : Tryz.prog.typeName? 3 u = some "*errors.errorString") : u = 274 :=
  typeName_ptr_named (nm := "errors.errorString") (by rw [star]; kernel_rfl) (by kernel_rfl) (by decide) u (by rw [star]; exact h)
theorem ready8_of_laid {W : World} (hL : laidMetH Tryz.prog laid8 W) (hsh : W.ShapedOpen Tryz.prog) : T.J.Ready8 W := by
  have hr := ready_of_laid8 hL hsh
  rw [MakeChecks.laidMetH_plain _ _ _ (by kernel_rfl)] at hL
  have h1 := hL.tail.tail.tail
  rw [pow_same] at h1
  have h2 := hL.tail.tail.tail.tail.tail
  have h3 := h2.tail
  obtain ⟨a1, s1, v1, _⟩ := laid_sentinel (g := 5) (ti := 35) (tp := 274) (te := 276) (ts := 9) h2 (by kernel_rfl) (by kernel_rfl) Tryz.underlying35 row274 Tryz.underlying274 Tryz.underlying276 rfl rfl Tryz.underlying9 (by kernel_rfl) (by kernel_rfl)
  obtain ⟨a2, s2, v2, _⟩ := laid_sentinel (g := 4) (ti := 35) (tp := 274) (te := 276) (ts := 9) h3 (by kernel_rfl) (by kernel_rfl) Tryz.underlying35 row274 Tryz.underlying274 Tryz.underlying276 rfl rfl Tryz.underlying9 (by kernel_rfl) (by kernel_rfl)
  refine ⟨hr, Lib.tabIs_of_head (g := 6) (by kernel_rfl) (by kernel_rfl) Tryz.underlying271 Tryz.underlying62 (by kernel_rfl) (by kernel_rfl) h1, ⟨274, .pointer (some a2), ?_⟩, ⟨274, .pointer (some a1), ?_⟩⟩
  · have := World.var?_cell (g := 4) (by kernel_rfl) v2 0
    simpa using this
  · have := World.var?_cell (g := 5) (by kernel_rfl) v1 0
    simpa using this
end Go.Proofs.YtjpmomklkkifjaaGreatDoor
