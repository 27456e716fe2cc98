/-
  More of disks: what is beside them; disks of four sectors that are not armed.
-/
import Derived.Test.YtcjfhfalffngjaaDRestart
import Derived.Test.YtcjfhfalffngjaaLight
import Derived.Deep.CutRange
namespace Go.Proofs.Ytcjfhfalffngjaa
open Go.RowKit
set_option maxRecDepth 100000
set_option linter.unusedVariables false
set_option linter.unusedSimpArgs false

theorem DiskIn.below {w0 w : World} {db : Nat} {d : DK} {l2 : List Res} (h : DiskIn w0 w db d l2) : Below w0.heap.size w0 w := by
  obtain ⟨_, _, _, _, _, _, _, _, _, H⟩ := h.mem
  exact H.below
theorem DiskIn.keep {w0 w w' : World} {db : Nat} {d : DK} {l2 : List Res} (h : DiskIn w0 w db d l2) (hk : Kept (fun _ => False) w w') : DiskIn w0 w' db d l2 := by
  obtain ⟨g0, c0, g1, c1, v2, a1, a2, a3, a4, H⟩ := h.mem
  exact ⟨h.ok, g0, c0, g1, c1, v2, a1, a2, a3, a4, H.keep hk⟩
theorem DiskIn.drew {w0 w : World} {db : Nat} {d : DK} {l2 : List Res} (h : DiskIn w0 w db d l2) : DiskIn w0 w.drew db d l2 := h.keep (Kept.refl _ w).drew
theorem DiskIn.drewN {w0 w : World} {db : Nat} {d : DK} {l2 : List Res} (h : DiskIn w0 w db d l2) (n : Nat) : DiskIn w0 (w.drewN n) db d l2 := h.keep ((Kept.refl _ w).drewN n)
theorem DiskIn.alloc {w0 w : World} {db : Nat} {d : DK} {l2 : List Res} (h : DiskIn w0 w db d l2) (o : Obj) : DiskIn w0 (w.alloc o) db d l2 := h.keep ((Kept.refl _ w).alloc o)
theorem DiskIn.made {w0 w : World} {db : Nat} {d : DK} {l2 : List Res} (h : DiskIn w0 w db d l2) (t : TypeId) (vs : List Value) : DiskIn w0 (w.alloc (.cells vs.toArray t)) db d (.cell w.heap.size t vs :: l2) := by
  obtain ⟨g0, c0, g1, c1, v2, a1, a2, a3, a4, H⟩ := h.mem
  exact ⟨h.ok, g0, c0, g1, c1, v2, a1, a2, a3, a4, (H.made t vs).back [_, _, _, _]⟩
theorem DiskIn.hold {w0 w : World} {db : Nat} {d : DK} {l2 : List Res} (h : DiskIn w0 w db d l2) : Hold w0 w l2 := by
  obtain ⟨g0, c0, g1, c1, v2, a1, a2, a3, a4, H⟩ := h.mem
  exact (((H.forget []).forget []).forget []).forget []
/-- A piece beside the disk turns. -/
theorem DiskIn.put {w0 w w' : World} {db : Nat} {d : DK} (l1 : List Res) {r r' : Res} {l2 : List Res} (h : DiskIn w0 w db d (l1 ++ r :: l2)) (hk : Kept (fun x => 0 < r.foot x) w w') (hs : r'.Sat w0.heap.size w') (hf : ∀ x, x < w.heap.size → r'.foot x ≤ r.foot x) : DiskIn w0 w' db d (l1 ++ r' :: l2) := by
  obtain ⟨g0, c0, g1, c1, v2, a1, a2, a3, a4, H⟩ := h.mem
  exact ⟨h.ok, g0, c0, g1, c1, v2, a1, a2, a3, a4, H.put (_ :: _ :: _ :: _ :: l1) hk hs hf⟩
theorem DiskIn.store {w0 w : World} {db : Nat} {d : DK} (l1 : List Res) {b : Nat} {t : TypeId} {vs : List Value} {l2 : List Res} (h : DiskIn w0 w db d (l1 ++ .cell b t vs :: l2)) (j : Nat) (u : Value) (vs' : List Value) (he : vs.set j u = vs') : DiskIn w0 (w.setCell ⟨b, j, none⟩ u) db d (l1 ++ .cell b t vs' :: l2) := by
  obtain ⟨g0, c0, g1, c1, v2, a1, a2, a3, a4, H⟩ := h.mem
  exact ⟨h.ok, g0, c0, g1, c1, v2, a1, a2, a3, a4, H.store (_ :: _ :: _ :: _ :: l1) j u vs' he⟩
theorem DiskIn.cellAt {w0 w : World} {db : Nat} {d : DK} {l2 : List Res} (h : DiskIn w0 w db d l2) {b : Nat} {t : TypeId} {vs : List Value} (hm : Res.cell b t vs ∈ l2) {j : Nat} {v : Value} (hv : vs[j]? = some v) : w.cell? ⟨b, j, none⟩ = some v := h.hold.cellAt hm hv
theorem DiskIn.frozenAt {w0 w : World} {db : Nat} {d : DK} {l2 : List Res} (h : DiskIn w0 w db d l2) {b : Nat} {t : TypeId} {vs : List Value} (hm : Res.cell b t vs ∈ l2) (j : Nat) : w.frozen? ⟨b, j, none⟩ = false := h.hold.frozenAt hm j

/-- A disk of four sectors that isn't armed. -/
structure Calm (d : DK) : Prop where
  left : d.left = -1
  down : d.down = false
  four : d.now.length = 4
theorem Calm.fall {d : DK} (h : Calm d) : d.fall = false := by unfold DK.fall; rw [h.down, h.left]; rfl
theorem Calm.stepped {d : DK} (h : Calm d) : d.stepped = d := by unfold DK.stepped; rw [h.fall, h.left]; rfl
theorem Calm.flushE {d : DK} (h : Calm d) : d.flushE = none := by unfold DK.flushE; rw [h.fall]; rfl
theorem Calm.flushed {d : DK} (h : Calm d) : d.flushed = d.firm := by unfold DK.flushed; rw [h.fall, h.stepped]; rfl
theorem Calm.firm {d : DK} (h : Calm d) : Calm d.firm := ⟨h.left, h.down, h.four⟩
theorem Calm.laid {d : DK} (h : Calm d) (i : Nat) (s : List UInt8) : Calm (d.laid i s) := ⟨h.left, h.down, by simp [DK.laid, h.four]⟩
/-- Of a write either nothing is left, or it is laid. -/
theorem Calm.write {d : DK} (h : Calm d) (i : Int) (s : List UInt8) : (d.writeE i s = some 1 ∧ d.written i s = d) ∨ (d.writeE i s = none ∧ ∃ k : Nat, i = k ∧ k < 4 ∧ s.length ≤ 140 ∧ d.written i s = d.laid k (padL s)) := by
  cases hb : (!d.has i || decide (140 < s.length)) with
  | true => exact .inl (writeE_bad d i s hb)
  | false =>
    obtain ⟨h1, h2⟩ := writeE_good d i s hb
    rw [h.flushE] at h1
    rw [h.fall, h.stepped] at h2
    simp only [DK.has, h.four, Bool.or_eq_false_iff, Bool.not_eq_false', Bool.and_eq_true, decide_eq_true_eq, decide_eq_false_iff_not] at hb
    exact .inr ⟨h1, i.toNat, by omega, by omega, by omega, by simpa using h2⟩
theorem Calm.written {d : DK} (h : Calm d) (i : Int) (s : List UInt8) : Calm (d.written i s) ∧ (d.written i s).wr.length ≤ d.wr.length + 1 := by
  rcases h.write i s with ⟨_, h2⟩ | ⟨_, k, _, _, _, h2⟩
  · rw [h2]; exact ⟨h, by omega⟩
  · rw [h2]; exact ⟨h.laid _ _, by simp [DK.laid]⟩
theorem Calm.has {d : DK} (h : Calm d) {i : Nat} (hi : i < 4) : d.has (i : Int) = true := by simp [DK.has, h.four]; omega
theorem Calm.readE {d : DK} (h : Calm d) {i : Nat} (hi : i < 4) : d.readE (i : Int) = none := by unfold DK.readE; rw [h.down, h.has hi]; rfl
theorem Calm.readB {d : DK} (h : Calm d) {i : Nat} (hi : i < 4) : d.readB (i : Int) = d.now.getD i [] := by unfold DK.readB; rw [h.down, h.has hi]; simp
theorem calm_new : Calm (newP 4) := ⟨rfl, rfl, by simp [newP]⟩
theorem calm_again {d : DK} (h : Calm d) (hok : d.Ok) (k : Nat) : Calm (d.again k) := ⟨rfl, rfl, by simp only [DK.again]; rw [keepL_len, hok.same, h.four]⟩

/-- Texts in an array. -/
def wantV (L : List (List UInt8)) : List Value := L.map fun s => .string ⟨s.toArray⟩
theorem wantV_get {L : List (List UInt8)} {i : Nat} (hi : i < L.length) : (wantV L)[i]? = some (.string ⟨(L.getD i []).toArray⟩) := by
  simp [wantV, List.getElem?_map, List.getElem?_eq_getElem hi, List.getD]
theorem wantV_set (L : List (List UInt8)) (i : Nat) (s : List UInt8) : (wantV L).set i (.string ⟨s.toArray⟩) = wantV (L.set i s) := by
  simp [wantV, List.map_set]
end Go.Proofs.Ytcjfhfalffngjaa
