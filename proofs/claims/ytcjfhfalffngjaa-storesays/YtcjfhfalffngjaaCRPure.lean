/-
  More of disks: what is beside them; disks of four sectors that are not armed. The document's disk (jobcaseref) as plain data and in memory; the two disks side by side; jobcaselaw.same.
-/
import Derived.Test.YtcjfhfalffngjaaCDRestart
import Derived.Test.YtcjfhfalffngjaaCLight
import Derived.Deep.CutRange
namespace Go.Proofs.Ytcjfhfalffngjaa
open Go.RowKit
set_option maxRecDepth 100000
set_option linter.unusedVariables false
set_option linter.unusedSimpArgs false

theorem DiskIn.below {w0 w : World} {db : Nat} {d : DK} {l2 : List Res} (h : DiskIn w0 w db d l2) : Below w0.heap.size w0 w := by
  obtain ⟨_, _, _, _, _, _, _, _, _, H⟩ := h.mem
  exact H.below
theorem DiskIn.keep {w0 w w' : World} {db : Nat} {d : DK} {l2 : List Res} (h : DiskIn w0 w db d l2) (hk : Kept (fun _ => False) w w') : DiskIn w0 w' db d l2 := by
  obtain ⟨g0, c0, g1, c1, v2, a1, a2, a3, a4, H⟩ := h.mem
  exact ⟨h.ok, g0, c0, g1, c1, v2, a1, a2, a3, a4, H.keep hk⟩
theorem DiskIn.drew {w0 w : World} {db : Nat} {d : DK} {l2 : List Res} (h : DiskIn w0 w db d l2) : DiskIn w0 w.drew db d l2 := h.keep (Kept.refl _ w).drew
theorem DiskIn.drewN {w0 w : World} {db : Nat} {d : DK} {l2 : List Res} (h : DiskIn w0 w db d l2) (n : Nat) : DiskIn w0 (w.drewN n) db d l2 := h.keep ((Kept.refl _ w).drewN n)
theorem DiskIn.alloc {w0 w : World} {db : Nat} {d : DK} {l2 : List Res} (h : DiskIn w0 w db d l2) (o : Obj) : DiskIn w0 (w.alloc o) db d l2 := h.keep ((Kept.refl _ w).alloc o)
theorem DiskIn.made {w0 w : World} {db : Nat} {d : DK} {l2 : List Res} (h : DiskIn w0 w db d l2) (t : TypeId) (vs : List Value) : DiskIn w0 (w.alloc (.cells vs.toArray t)) db d (.cell w.heap.size t vs :: l2) := by
  obtain ⟨g0, c0, g1, c1, v2, a1, a2, a3, a4, H⟩ := h.mem
  exact ⟨h.ok, g0, c0, g1, c1, v2, a1, a2, a3, a4, (H.made t vs).back [_, _, _, _]⟩
theorem DiskIn.hold {w0 w : World} {db : Nat} {d : DK} {l2 : List Res} (h : DiskIn w0 w db d l2) : Hold w0 w l2 := by
  obtain ⟨g0, c0, g1, c1, v2, a1, a2, a3, a4, H⟩ := h.mem
  exact (((H.forget []).forget []).forget []).forget []
/-- A piece beside the disk turns. -/
theorem DiskIn.put {w0 w w' : World} {db : Nat} {d : DK} (l1 : List Res) {r r' : Res} {l2 : List Res} (h : DiskIn w0 w db d (l1 ++ r :: l2)) (hk : Kept (fun x => 0 < r.foot x) w w') (hs : r'.Sat w0.heap.size w') (hf : ∀ x, x < w.heap.size → r'.foot x ≤ r.foot x) : DiskIn w0 w' db d (l1 ++ r' :: l2) := by
  obtain ⟨g0, c0, g1, c1, v2, a1, a2, a3, a4, H⟩ := h.mem
  exact ⟨h.ok, g0, c0, g1, c1, v2, a1, a2, a3, a4, H.put (_ :: _ :: _ :: _ :: l1) hk hs hf⟩
theorem DiskIn.store {w0 w : World} {db : Nat} {d : DK} (l1 : List Res) {b : Nat} {t : TypeId} {vs : List Value} {l2 : List Res} (h : DiskIn w0 w db d (l1 ++ .cell b t vs :: l2)) (j : Nat) (u : Value) (vs' : List Value) (he : vs.set j u = vs') : DiskIn w0 (w.setCell ⟨b, j, none⟩ u) db d (l1 ++ .cell b t vs' :: l2) := by
  obtain ⟨g0, c0, g1, c1, v2, a1, a2, a3, a4, H⟩ := h.mem
  exact ⟨h.ok, g0, c0, g1, c1, v2, a1, a2, a3, a4, H.store (_ :: _ :: _ :: _ :: l1) j u vs' he⟩
theorem DiskIn.cellAt {w0 w : World} {db : Nat} {d : DK} {l2 : List Res} (h : DiskIn w0 w db d l2) {b : Nat} {t : TypeId} {vs : List Value} (hm : Res.cell b t vs ∈ l2) {j : Nat} {v : Value} (hv : vs[j]? = some v) : w.cell? ⟨b, j, none⟩ = some v := h.hold.cellAt hm hv
theorem DiskIn.frozenAt {w0 w : World} {db : Nat} {d : DK} {l2 : List Res} (h : DiskIn w0 w db d l2) {b : Nat} {t : TypeId} {vs : List Value} (hm : Res.cell b t vs ∈ l2) (j : Nat) : w.frozen? ⟨b, j, none⟩ = false := h.hold.frozenAt hm j

/-- A disk of four sectors that isn't armed. -/
structure Calm (d : DK) : Prop where
  left : d.left = -1
  down : d.down = false
  four : d.now.length = 4
theorem Calm.fall {d : DK} (h : Calm d) : d.fall = false := by unfold DK.fall; rw [h.down, h.left]; rfl
theorem Calm.stepped {d : DK} (h : Calm d) : d.stepped = d := by unfold DK.stepped; rw [h.fall, h.left]; rfl
theorem Calm.flushE {d : DK} (h : Calm d) : d.flushE = none := by unfold DK.flushE; rw [h.fall]; rfl
theorem Calm.flushed {d : DK} (h : Calm d) : d.flushed = d.firm := by unfold DK.flushed; rw [h.fall, h.stepped]; rfl
theorem Calm.firm {d : DK} (h : Calm d) : Calm d.firm := ⟨h.left, h.down, h.four⟩
theorem Calm.laid {d : DK} (h : Calm d) (i : Nat) (s : List UInt8) : Calm (d.laid i s) := ⟨h.left, h.down, by simp [DK.laid, h.four]⟩
/-- Of a write either nothing is left, or it is laid. -/
theorem Calm.write {d : DK} (h : Calm d) (i : Int) (s : List UInt8) : (d.writeE i s = some 1 ∧ d.written i s = d) ∨ (d.writeE i s = none ∧ ∃ k : Nat, i = k ∧ k < 4 ∧ s.length ≤ 140 ∧ d.written i s = d.laid k (padL s)) := by
  cases hb : (!d.has i || decide (140 < s.length)) with
  | true => exact .inl (writeE_bad d i s hb)
  | false =>
    obtain ⟨h1, h2⟩ := writeE_good d i s hb
    rw [h.flushE] at h1
    rw [h.fall, h.stepped] at h2
    simp only [DK.has, h.four, Bool.or_eq_false_iff, Bool.not_eq_false', Bool.and_eq_true, decide_eq_true_eq, decide_eq_false_iff_not] at hb
    exact .inr ⟨h1, i.toNat, by omega, by omega, by omega, by simpa using h2⟩
theorem Calm.written {d : DK} (h : Calm d) (i : Int) (s : List UInt8) : Calm (d.written i s) ∧ (d.written i s).wr.length ≤ d.wr.length + 1 := by
  rcases h.write i s with ⟨_, h2⟩ | ⟨_, k, _, _, _, h2⟩
  · rw [h2]; exact ⟨h, by omega⟩
  · rw [h2]; exact ⟨h.laid _ _, by simp [DK.laid]⟩
theorem Calm.has {d : DK} (h : Calm d) {i : Nat} (hi : i < 4) : d.has (i : Int) = true := by simp [DK.has, h.four]; omega
theorem Calm.readE {d : DK} (h : Calm d) {i : Nat} (hi : i < 4) : d.readE (i : Int) = none := by unfold DK.readE; rw [h.down, h.has hi]; rfl
theorem Calm.readB {d : DK} (h : Calm d) {i : Nat} (hi : i < 4) : d.readB (i : Int) = d.now.getD i [] := by unfold DK.readB; rw [h.down, h.has hi]; simp
theorem calm_new : Calm (newP 4) := ⟨rfl, rfl, by simp [newP]⟩
theorem calm_again {d : DK} (h : Calm d) (hok : d.Ok) (k : Nat) : Calm (d.again k) := ⟨rfl, rfl, by simp only [DK.again]; rw [keepL_len, hok.same, h.four]⟩

/-- Texts in an array. -/
def wantV (L : List (List UInt8)) : List Value := L.map fun s => .string ⟨s.toArray⟩
theorem wantV_get {L : List (List UInt8)} {i : Nat} (hi : i < L.length) : (wantV L)[i]? = some (.string ⟨(L.getD i []).toArray⟩) := by
  simp [wantV, List.getElem?_map, List.getElem?_eq_getElem hi, List.getD]
theorem wantV_set (L : List (List UInt8)) (i : Nat) (s : List UInt8) : (wantV L).set i (.string ⟨s.toArray⟩) = wantV (L.set i s) := by
  simp [wantV, List.map_set]
end Go.Proofs.Ytcjfhfalffngjaa
namespace Go.Proofs.Ytcjfhfalffngjaa
open Go.RowKit
set_option maxRecDepth 100000
set_option linter.unusedVariables false
set_option linter.unusedSimpArgs false

/-- jobcaselaw.same. -/
def sameP (o : Option Int) (f : Int) : Bool := match o with | none => f == 0 | some k => decide (0 < f) && (k == f)
theorem same_calls (w : World) (o : Option Int) (f : Int) : Calls Try.prog 14 #[errV o, .int .i64 f] w fun e w' => e = .returned (.bool (sameP o f)) ∧ w' = w := by
  cases o with
  | none =>
    simp only [errV, sameP]
    go_enter Try.func14, Try.ntmps14
    go_wp2_with fail
    go_ret
    exact ⟨rfl, rfl⟩
  | some k =>
    simp only [errV, sameP]
    have ht : (Instr.typeAssert (.iface 93 (.int .i64 k)) 27 93 true).run Try.prog w = .ok (.tuple #[.int .i64 k, .bool true]) w := by kernel_rfl
    by_cases h : 0 < f
    · rw [decide_eq_true h, Bool.true_and]
      go_enter Try.func14, Try.ntmps14
      go_wp2_with fail
      go_ret
      exact ⟨rfl, rfl⟩
    · rw [decide_eq_false h, Bool.false_and]
      go_enter Try.func14, Try.ntmps14
      go_wp2_with fail
      go_ret
      exact ⟨rfl, rfl⟩
/-- An error, and its number. -/
def noE (o : Option Int) : Int := o.getD 0
theorem sameP_self {o : Option Int} (h : ∀ k, o = some k → 0 < k) : sameP o (noE o) = true := by
  cases o with
  | none => rfl
  | some k => simp [sameP, noE, h k rfl]

/-- A step of the document's disk. -/
def DK.rstep (r : DK) : DK := if r.down then r else if r.left = 0 then { r with down := true, left := -1 } else if 0 < r.left then { r with left := r.left - 1 } else r
/-- Two disks that are the same to who looks. -/
structure Sim (d r : DK) : Prop where
  kept : r.kept = d.kept
  now : r.now = d.now
  wr : r.wr = d.wr
  down : r.down = d.down
  left : d.down = false → r.left = max d.left (-1)
theorem Sim.fall {d r : DK} (h : Sim d r) : r.fall = d.fall := by
  unfold DK.fall
  rw [h.down]
  cases hd : d.down with
  | true => rfl
  | false =>
    rw [h.left hd]
    simp only [Bool.false_or]
    by_cases h0 : d.left = 0
    · rw [h0]; rfl
    · have : max d.left (-1) ≠ 0 := by omega
      rw [beq_eq_false_iff_ne.2 h0, beq_eq_false_iff_ne.2 this]
theorem Sim.step {d r : DK} (h : Sim d r) : Sim d.stepped r.rstep := by
  have hf := h.fall
  unfold DK.stepped DK.rstep
  cases hd : d.down with
  | true =>
    have hfd : d.fall = true := by unfold DK.fall; rw [hd]; rfl
    rw [h.down, hd, hfd]
    exact ⟨h.kept, h.now, h.wr, by simp [h.down, hd], fun h => by simp at h⟩
  | false =>
    have hl := h.left hd
    rw [h.down, hd]
    by_cases h0 : d.left = 0
    · have hfd : d.fall = true := by unfold DK.fall; rw [h0]; simp
      have hr0 : r.left = 0 := by rw [hl, h0]; rfl
      rw [hfd, if_pos rfl, if_neg (by simp), if_pos hr0]
      exact ⟨h.kept, h.now, h.wr, rfl, fun h => by simp at h⟩
    · have hfd : d.fall = false := by unfold DK.fall; rw [hd, beq_eq_false_iff_ne.2 h0]; rfl
      have hr0 : r.left ≠ 0 := by rw [hl]; omega
      simp only [hfd, Bool.false_eq_true, if_false, if_neg hr0]
      by_cases hp : 0 < d.left
      · have hrp : 0 < r.left := by rw [hl]; omega
        rw [if_pos hp, if_pos hrp]
        exact ⟨h.kept, h.now, h.wr, by simp [h.down], fun _ => by simp only; omega⟩
      · have hrp : ¬ 0 < r.left := by rw [hl]; omega
        rw [if_neg hp, if_neg hrp]
        exact h
/-- The document's Write, Flush, Restart. -/
def DK.rwritten (r : DK) (i : Int) (s : List UInt8) : DK := if !r.has i || decide (140 < s.length) then r else if r.fall then r.rstep else r.rstep.laid i.toNat (padL s)
def DK.rflushed (r : DK) : DK := if r.fall then r.rstep else r.rstep.firm
theorem Sim.has {d r : DK} (h : Sim d r) (i : Int) : r.has i = d.has i := by unfold DK.has; rw [h.now]
theorem Sim.writeE {d r : DK} (h : Sim d r) (i : Int) (s : List UInt8) : r.writeE i s = d.writeE i s := by unfold DK.writeE; rw [h.has, h.fall]
theorem Sim.laid {d r : DK} (h : Sim d r) (i : Nat) (s : List UInt8) : Sim (d.laid i s) (r.laid i s) := ⟨h.kept, by simp [DK.laid, h.now], by simp [DK.laid, h.wr], h.down, h.left⟩
theorem Sim.firm {d r : DK} (h : Sim d r) : Sim d.firm r.firm := ⟨h.now, h.now, rfl, h.down, h.left⟩
theorem Sim.written {d r : DK} (h : Sim d r) (i : Int) (s : List UInt8) : Sim (d.written i s) (r.rwritten i s) := by
  unfold DK.written DK.rwritten
  rw [h.has, h.fall]
  split
  · exact h
  split
  · exact h.step
  · exact h.step.laid _ _
theorem Sim.flushE {d r : DK} (h : Sim d r) : r.flushE = d.flushE := by unfold DK.flushE; rw [h.fall]
theorem Sim.flushed {d r : DK} (h : Sim d r) : Sim d.flushed r.rflushed := by
  unfold DK.flushed DK.rflushed
  rw [h.fall]
  split
  · exact h.step
  · exact h.step.firm
theorem Sim.armed {d r : DK} (h : Sim d r) (n : Int) : Sim (d.armed n) (r.armed (max n (-1))) := ⟨h.kept, h.now, h.wr, h.down, fun _ => rfl⟩
theorem Sim.again {d r : DK} (h : Sim d r) (k : Nat) : Sim (d.again k) (r.again k) := by
  unfold DK.again
  rw [h.wr, h.kept]
  exact ⟨rfl, rfl, rfl, rfl, fun _ => rfl⟩
theorem Sim.readE {d r : DK} (h : Sim d r) (i : Int) : r.readE i = d.readE i := by unfold DK.readE; rw [h.has, h.down]
theorem Sim.readB {d r : DK} (h : Sim d r) (i : Int) : r.readB i = d.readB i := by unfold DK.readB; rw [h.has, h.down, h.now]
theorem Sim.new (n : Nat) : Sim (newP n) (newP n) := ⟨rfl, rfl, rfl, rfl, fun _ => rfl⟩
theorem DK.Ok.rstep {r : DK} (h : r.Ok) : r.rstep.Ok := by
  unfold DK.rstep
  split
  · exact h
  split
  · exact ⟨h.kept, h.now, h.same, h.few, h.pos, h.wr, by simp⟩
  split
  · exact ⟨h.kept, h.now, h.same, h.few, h.pos, h.wr, by have := h.left; simp only; omega⟩
  · exact h
theorem rstep_now (d : DK) : d.rstep.now = d.now := by unfold DK.rstep; repeat (first | rfl | split)
theorem rstep_wr (d : DK) : d.rstep.wr = d.wr := by unfold DK.rstep; repeat (first | rfl | split)
theorem writeE_pos (d : DK) (i : Int) (s : List UInt8) : ∀ k, d.writeE i s = some k → 0 < k := by
  intro k h
  unfold DK.writeE at h
  split at h
  · cases h; decide
  split at h
  · cases h; decide
  · cases h
theorem flushE_pos (d : DK) : ∀ k, d.flushE = some k → 0 < k := by
  intro k h
  unfold DK.flushE at h
  split at h
  · cases h; decide
  · cases h
theorem readE_pos (d : DK) (i : Int) : ∀ k, d.readE i = some k → 0 < k := by
  intro k h
  unfold DK.readE at h
  split at h
  · cases h; decide
  split at h
  · cases h; decide
  · cases h

/-- Turns as cells. -/
def turnV (x : Nat × List UInt8) : List Value := [.int .i64 (x.1 : Int), .string ⟨x.2.toArray⟩]
def flatT (l : List (Nat × List UInt8)) : List Value := (l.map turnV).flatten
theorem turn_chunk (l : List (Nat × List UInt8)) : ∀ x ∈ l.map turnV, x.length = 2 := by
  intro x hx
  obtain ⟨s, hs, rfl⟩ := List.mem_map.1 hx
  rfl
theorem flatT_length (l : List (Nat × List UInt8)) : (flatT l).length = l.length * 2 := by
  have := chunk_len (turn_chunk l)
  rwa [List.length_map] at this
theorem flatT_get {l : List (Nat × List UInt8)} {i : Nat} {x : Nat × List UInt8} (hs : l[i]? = some x) : (flatT l)[i * 2]? = some (.int .i64 (x.1 : Int)) ∧ (flatT l)[i * 2 + 1]? = some (.string ⟨x.2.toArray⟩) :=
  ⟨chunk_get (turn_chunk l) (c := turnV x) (j := 0) (by rw [List.getElem?_map, hs]; rfl) rfl, chunk_get (turn_chunk l) (c := turnV x) (j := 1) (by rw [List.getElem?_map, hs]; rfl) rfl⟩
theorem flatT_snoc (l : List (Nat × List UInt8)) (x : Nat × List UInt8) : flatT (l ++ [x]) = flatT l ++ turnV x := by simp [flatT]
theorem wantV_length (L : List (List UInt8)) : (wantV L).length = L.length := by simp [wantV]
theorem wantV_one (L : List (List UInt8)) : ∀ v ∈ wantV L, v.oneCell' = true := by
  intro v hv
  obtain ⟨s, _, rfl⟩ := List.mem_map.1 hv
  rfl
theorem wantV_snoc (L : List (List UInt8)) (s : List UInt8) : wantV (L ++ [s]) = wantV L ++ [.string ⟨s.toArray⟩] := by simp [wantV]

def rowT (v : Value) (L : List (List UInt8)) : Res := .row v 9 1 L.length (wantV L)
def rowU (v : Value) (l : List (Nat × List UInt8)) : Res := .row v 107 2 l.length (flatT l)
def refR (rb : Nat) (v0 v1 v2 : Value) (lf : Int) (dn : Bool) : Res := .cell rb 50 [v0, v1, v2, .int .i64 lf, .bool dn]
def refL (rb : Nat) (v0 v1 v2 : Value) (r : DK) : List Res := [refR rb v0 v1 v2 r.left r.down, rowT v0 r.kept, rowT v1 r.now, rowU v2 r.wr]
/-- The document's disk in memory. -/
structure RefIn (w0 w : World) (rb : Nat) (r : DK) (l2 : List Res) : Prop where
  ok : r.Ok
  mem : ∃ v0 v1 v2, Hold w0 w (refL rb v0 v1 v2 r ++ l2)
#print axioms Sim.written
#print axioms same_calls
end Go.Proofs.Ytcjfhfalffngjaa
