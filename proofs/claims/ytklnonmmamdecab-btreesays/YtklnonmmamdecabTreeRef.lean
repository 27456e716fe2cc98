/-
  The plain rows' functions beside a tree.
-/
import Derived.Test.YtklnonmmamdecabTrees
namespace Go.Proofs.Ytklnonmmamdecab
open Go.RowKit Go.Lib
set_option linter.unusedVariables false
set_option linter.unusedSimpArgs false

section
variable {base : Nat} {w0 w : World} {K0 : Nat → Nat} {tb : Nat} {L : List Item} {l2 : List Res}
theorem Hold.tree {h : Nat} {k : Kid} {X : Res} (H : Hold base w0 K0 w (X :: .cell tb 55 [ptrV k.b] :: .sub h k :: l2)) : Hold base w0 K0 w (.cell tb 55 [ptrV k.b] :: .sub h k :: X :: l2) :=
  ((H.front [_]).front [_, _]).front [_]
theorem TreeIn.nilP (h : TreeIn base w0 K0 w tb L l2) : TreeIn base w0 K0 w tb L (rowP (.slice none 0 0) [] :: l2) := by
  obtain ⟨h1, h2, k, h3, h4, h5, H⟩ := h
  exact ⟨h1, h2, k, h3, h4, h5, (H.nilRow 61 3).tree⟩
theorem TreeIn.rowP_at (h : TreeIn base w0 K0 w tb L l2) {v : Value} {l : List Item} (hm : rowP v l ∈ l2) : w.ownsRow base 61 3 v l.length (flat l) := by
  obtain ⟨_, _, _, _, _, _, H⟩ := h
  exact H.rowAt (by simp only [List.mem_cons]; exact .inr (.inr hm))

def TRefGetEnd (base : Nat) (w0 : World) (K0 : Nat → Nat) (tb : Nat) (L l : List Item) (key : ByteArray) (l2 : List Res) (e : Ending) (w' : World) : Prop :=
  e = .returned (getV (getL l key)) ∧ TreeIn base w0 K0 w' tb L l2
def TRefEnd (base : Nat) (w0 : World) (K0 : Nat → Nat) (tb : Nat) (L out : List Item) (row : Value → List Item → Res) (l2 : List Res) (e : Ending) (w' : World) : Prop :=
  ∃ v, e = .returned v ∧ TreeIn base w0 K0 w' tb L (row v out :: l2)
theorem tRefGet_calls (h : TreeIn base w0 K0 w tb L l2) {vm : Value} {l : List Item} (hm : rowP vm l ∈ l2) (hl : l.length ≤ 1000) (key : ByteArray) :
    Calls Try.prog 11 #[vm, .string key] w fun e w' => TRefGetEnd base w0 K0 tb L l key l2 e w' := by
  have hb := h.low
  obtain ⟨h1, h2, k, h3, h4, h5, H⟩ := h
  refine (refGet_calls base w0 K0 w _ vm l key H (by simp only [List.mem_cons]; exact .inr (.inr hm)) hb hl).mono ?_
  rintro e w' ⟨rfl, H'⟩
  exact ⟨rfl, h1, h2, k, h3, h4, h5, H'⟩
theorem tRefDrop_calls (h : TreeIn base w0 K0 w tb L l2) {vm : Value} {l : List Item} (hm : rowP vm l ∈ l2) (hl : l.length ≤ 1000) (key : ByteArray) :
    Calls Try.prog 13 #[vm, .string key] w fun e w' => TRefEnd base w0 K0 tb L (dropL l key) rowP l2 e w' := by
  have hb := h.low
  obtain ⟨h1, h2, k, h3, h4, h5, H⟩ := h
  refine (refDrop_calls base w0 K0 w _ vm l key H (by simp only [List.mem_cons]; exact .inr (.inr hm)) hb hl).mono ?_
  rintro e w' ⟨v, rfl, H'⟩
  exact ⟨v, rfl, h1, h2, k, h3, h4, h5, H'.tree⟩
theorem tRefPut_calls (h : TreeIn base w0 K0 w tb L l2) {vm : Value} {l : List Item} (hm : rowP vm l ∈ l2) (hl : l.length ≤ 1000) (hs : Sorted l) (it : Item) :
    Calls Try.prog 10 #[vm, .string it.key, .agg #[.string it.name, .int .i64 it.node]] w fun e w' => TRefEnd base w0 K0 tb L (putL l it) rowP l2 e w' := by
  have hb := h.low
  obtain ⟨h1, h2, k, h3, h4, h5, H⟩ := h
  refine (refPut_calls base w0 K0 w _ vm l it H (by simp only [List.mem_cons]; exact .inr (.inr hm)) hb hl hs).mono ?_
  rintro e w' ⟨v, rfl, H'⟩
  exact ⟨v, rfl, h1, h2, k, h3, h4, h5, H'.tree⟩
theorem tRefAfter_calls (h : TreeIn base w0 K0 w tb L l2) {vm : Value} {l : List Item} (hm : rowP vm l ∈ l2) (hl : l.length ≤ 1000) (key : ByteArray) (many : Int) :
    Calls Try.prog 20 #[vm, .string key, .int .i64 many] w fun e w' => TRefEnd base w0 K0 tb L ((afterL l key).take many.toNat) rowE l2 e w' := by
  have hb := h.low
  obtain ⟨h1, h2, k, h3, h4, h5, H⟩ := h
  refine (refAfter_calls base w0 K0 w _ vm l key many H (by simp only [List.mem_cons]; exact .inr (.inr hm)) hb hl).mono ?_
  rintro e w' ⟨v, rfl, H'⟩
  exact ⟨v, rfl, h1, h2, k, h3, h4, h5, H'.tree⟩
/-- The copy stays, the old tree is let go. -/
theorem TreeIn.other {tb' h' : Nat} {k' : Kid} {L' : List Item} (h : TreeIn base w0 K0 w tb L' (.cell tb' 55 [ptrV k'.b] :: .sub h' k' :: l2)) (hs : Sorted L) (hL : k'.L = L) (hc : k'.c ≤ 3) (hc1 : h' = 0 ∨ 1 ≤ k'.c) : TreeIn base w0 K0 w tb' L l2 :=
  ⟨hs, h', k', hL, hc, hc1, h.rest⟩
end
end Go.Proofs.Ytklnonmmamdecab
