/-
  A disk as plain data, and how it lies in memory. Plain facts. The contracts of a disk's small calls, over the seat's program.
-/
import Derived.Test.YtcjfhfalffngjaaCH
import Derived.Test.YtcjfhfalffngjaaProg
import Derived.WalkKit
import Derived.WalkLawsBesides
import Derived.WalkSpells
import Derived.Deep.LoopGhost
import Derived.BigCall
import Derived.Outline
import Derived.Deep.QuietTactic
namespace Go.Proofs.Ytcjfhfalffngjaa
open Go.RowKit
set_option linter.unusedSimpArgs false
set_option linter.unusedVariables false

/-- Bytes as cells. -/
def secV (s : List UInt8) : List Value := s.map fun b => .int .u8 (b.toNat : Int)
theorem secV_length (s : List UInt8) : (secV s).length = s.length := by simp [secV]
theorem secV_one (s : List UInt8) : ∀ v ∈ secV s, v.oneCell' = true := by
  intro v hv
  obtain ⟨b, _, rfl⟩ := List.mem_map.1 hv
  rfl
/-- Bytes, noughts behind them. -/
def padL (s : List UInt8) : List UInt8 := s ++ List.replicate (140 - s.length) 0
theorem padL_length {s : List UInt8} (h : s.length ≤ 140) : (padL s).length = 140 := by simp [padL]; omega
def flatS (l : List (List UInt8)) : List Value := (l.map secV).flatten
def wrV (x : Nat × List UInt8) : List Value := .int .i64 (x.1 : Int) :: secV x.2
def flatW (l : List (Nat × List UInt8)) : List Value := (l.map wrV).flatten
def Secs (l : List (List UInt8)) : Prop := ∀ s ∈ l, s.length = 140
theorem Secs.chunk {l : List (List UInt8)} (h : Secs l) : ∀ x ∈ l.map secV, x.length = 140 := by
  intro x hx
  obtain ⟨s, hs, rfl⟩ := List.mem_map.1 hx
  rw [secV_length, h s hs]
theorem flatS_length {l : List (List UInt8)} (h : Secs l) : (flatS l).length = l.length * 140 := by
  have := chunk_len h.chunk
  rwa [List.length_map] at this
theorem flatS_get {l : List (List UInt8)} (h : Secs l) {i : Nat} {s : List UInt8} (hs : l[i]? = some s) {j : Nat} {v : Value} (hv : (secV s)[j]? = some v) : (flatS l)[i * 140 + j]? = some v :=
  chunk_get h.chunk (c := secV s) (by rw [List.getElem?_map, hs]; rfl) hv
theorem flatS_splice {l : List (List UInt8)} (h : Secs l) {i : Nat} (hi : i < l.length) {s : List UInt8} (hs : s.length = 140) : Go.splice (flatS l) (i * 140) (secV s) = flatS (l.set i s) := by
  have := chunk_splice h.chunk (i := i) (by simpa using hi) (c := secV s) (by rw [secV_length, hs])
  unfold flatS
  rw [this, ← List.map_set]
theorem Secs.set {l : List (List UInt8)} (h : Secs l) (i : Nat) {s : List UInt8} (hs : s.length = 140) : Secs (l.set i s) := fun x hx => by
  rcases List.mem_or_eq_of_mem_set hx with h1 | h1
  · exact h x h1
  · rw [h1, hs]
theorem flatS_one (l : List (List UInt8)) : ∀ v ∈ flatS l, v.oneCell' = true := by
  intro v hv
  obtain ⟨c, hc, hv⟩ := List.mem_flatten.1 hv
  obtain ⟨s, _, rfl⟩ := List.mem_map.1 hc
  exact secV_one s v hv

structure DK where
  kept : List (List UInt8)
  now : List (List UInt8)
  wr : List (Nat × List UInt8)
  down : Bool
  left : Int

/-- What is true of every disk. -/
structure DK.Ok (d : DK) : Prop where
  kept : Secs d.kept
  now : Secs d.now
  same : d.kept.length = d.now.length
  few : d.now.length ≤ 130
  pos : 0 < d.now.length
  wr : ∀ x ∈ d.wr, x.2.length = 140 ∧ x.1 < d.now.length
  left : -9223372036854775808 ≤ d.left ∧ d.left ≤ 9223372036854775807

/-- A sector of noughts. -/
def nought : List UInt8 := List.replicate 140 0
theorem nought_length : nought.length = 140 := by unfold nought; rw [List.length_replicate]
def newP (n : Nat) : DK := ⟨List.replicate n nought, List.replicate n nought, [], false, -1⟩
theorem newP_ok {n : Nat} (h1 : 0 < n) (h2 : n ≤ 130) : (newP n).Ok := by
  have hs : Secs (List.replicate n nought) := fun s hs => by rw [(List.mem_replicate.1 hs).2, nought_length]
  exact ⟨hs, hs, rfl, by simp [newP]; omega, by simp [newP]; omega, fun x hx => by simp [newP] at hx, by simp [newP]⟩

/-- A step: does it fall, and what is behind it. -/
def DK.fall (d : DK) : Bool := d.down || (d.left == 0)
def DK.stepped (d : DK) : DK := if d.fall then { d with down := true } else if 0 < d.left then { d with left := d.left - 1 } else d
theorem DK.Ok.stepped {d : DK} (h : d.Ok) : d.stepped.Ok := by
  unfold DK.stepped
  split
  · exact ⟨h.kept, h.now, h.same, h.few, h.pos, h.wr, h.left⟩
  split
  · exact ⟨h.kept, h.now, h.same, h.few, h.pos, h.wr, by have := h.left; simp only; omega⟩
  · exact h
theorem stepped_now (d : DK) : d.stepped.now = d.now := by unfold DK.stepped; repeat (first | rfl | split)
theorem stepped_kept (d : DK) : d.stepped.kept = d.kept := by unfold DK.stepped; repeat (first | rfl | split)
theorem stepped_wr (d : DK) : d.stepped.wr = d.wr := by unfold DK.stepped; repeat (first | rfl | split)

def DK.has (d : DK) (i : Int) : Bool := decide (0 ≤ i) && decide (i < (d.now.length : Int))
/-- Write's error, and what is behind it. -/
def DK.writeE (d : DK) (i : Int) (s : List UInt8) : Option Int := if !d.has i || decide (140 < s.length) then some 1 else if d.fall then some 10 else none
def DK.laid (d : DK) (i : Nat) (s : List UInt8) : DK := { d with now := d.now.set i s, wr := d.wr ++ [(i, s)] }
def DK.written (d : DK) (i : Int) (s : List UInt8) : DK := if !d.has i || decide (140 < s.length) then d else if d.fall then d.stepped else d.stepped.laid i.toNat (padL s)
theorem DK.Ok.laid {d : DK} (h : d.Ok) {i : Nat} (hi : i < d.now.length) {s : List UInt8} (hs : s.length = 140) : (d.laid i s).Ok :=
  ⟨h.kept, h.now.set i hs, by simp [DK.laid, h.same], by simp [DK.laid, h.few], by simp [DK.laid, h.pos], fun x hx => by
    simp only [DK.laid, List.mem_append, List.mem_singleton, List.length_set] at hx ⊢
    rcases hx with hx | rfl
    · exact h.wr x hx
    · exact ⟨hs, hi⟩, h.left⟩
theorem DK.Ok.written {d : DK} (h : d.Ok) (i : Int) (s : List UInt8) : (d.written i s).Ok := by
  unfold DK.written
  split
  · exact h
  rename_i h1
  split
  · exact h.stepped
  · simp only [DK.has, Bool.or_eq_true, Bool.not_eq_true', Bool.and_eq_false_iff, decide_eq_false_iff_not, decide_eq_true_eq, not_or] at h1
    exact h.stepped.laid (by rw [stepped_now]; omega) (padL_length (by omega))
/-- Flush. -/
def DK.flushE (d : DK) : Option Int := if d.fall then some 10 else none
def DK.firm (d : DK) : DK := { d with kept := d.now, wr := [] }
def DK.flushed (d : DK) : DK := if d.fall then d.stepped else d.stepped.firm
theorem DK.Ok.firm {d : DK} (h : d.Ok) : d.firm.Ok := ⟨h.now, h.now, rfl, h.few, h.pos, fun x hx => by simp [DK.firm] at hx, h.left⟩
theorem DK.Ok.flushed {d : DK} (h : d.Ok) : d.flushed.Ok := by
  unfold DK.flushed
  split
  · exact h.stepped
  · exact h.stepped.firm
/-- Arm. -/
def DK.armed (d : DK) (n : Int) : DK := { d with left := n }
theorem DK.Ok.armed {d : DK} (h : d.Ok) {n : Int} (hn : -9223372036854775808 ≤ n ∧ n ≤ 9223372036854775807) : (d.armed n).Ok := ⟨h.kept, h.now, h.same, h.few, h.pos, h.wr, hn⟩
/-- Restart. -/
def keepL (k : Nat) : Nat → List (Nat × List UInt8) → List (List UInt8) → List (List UInt8)
  | _, [], l => l
  | i, x :: r, l => keepL k (i + 1) r (if k.testBit (i % 64) then l.set x.1 x.2 else l)
def DK.again (d : DK) (k : Nat) : DK := ⟨keepL k 0 d.wr d.kept, keepL k 0 d.wr d.kept, [], false, -1⟩
theorem keepL_len (k : Nat) : ∀ (r : List (Nat × List UInt8)) (i : Nat) (l : List (List UInt8)), (keepL k i r l).length = l.length
  | [], _, _ => rfl
  | x :: r, i, l => by
    rw [keepL, keepL_len k r]
    split <;> simp
theorem keepL_secs (k : Nat) : ∀ (r : List (Nat × List UInt8)) (i : Nat) (l : List (List UInt8)), (∀ x ∈ r, x.2.length = 140) → Secs l → Secs (keepL k i r l)
  | [], _, _, _, h => h
  | x :: r, i, l, hr, h => by
    rw [keepL]
    refine keepL_secs k r _ _ (fun y hy => hr y (by simp [hy])) ?_
    split
    · exact h.set _ (hr x (by simp))
    · exact h
theorem keepL_append (k : Nat) : ∀ (a b : List (Nat × List UInt8)) (i : Nat) (l : List (List UInt8)), keepL k i (a ++ b) l = keepL k (i + a.length) b (keepL k i a l)
  | [], b, i, l => rfl
  | x :: a, b, i, l => by
    rw [List.cons_append, keepL, keepL, keepL_append k a b, List.length_cons, show i + 1 + a.length = i + (a.length + 1) by omega]
theorem DK.Ok.again {d : DK} (h : d.Ok) (k : Nat) : (d.again k).Ok := by
  have hs := keepL_secs k d.wr 0 d.kept (fun x hx => (h.wr x hx).1) h.kept
  have hl := keepL_len k d.wr 0 d.kept
  have h1 := h.same
  exact ⟨hs, hs, rfl, by simp only [DK.again]; rw [hl, h1]; exact h.few, by simp only [DK.again]; rw [hl, h1]; exact h.pos, fun x hx => by simp [DK.again] at hx, by simp [DK.again]⟩
/-- Read. -/
def DK.readE (d : DK) (i : Int) : Option Int := if d.down then some 10 else if !d.has i then some 1 else none
def DK.readB (d : DK) (i : Int) : List UInt8 := if d.down || !d.has i then [] else d.now.getD i.toNat []

/-- Writes as cells. -/
theorem wr_chunk {l : List (Nat × List UInt8)} (h : ∀ x ∈ l, x.2.length = 140) : ∀ x ∈ l.map wrV, x.length = 141 := by
  intro x hx
  obtain ⟨s, hs, rfl⟩ := List.mem_map.1 hx
  simp [wrV, secV_length, h s hs]
theorem flatW_length {l : List (Nat × List UInt8)} (h : ∀ x ∈ l, x.2.length = 140) : (flatW l).length = l.length * 141 := by
  have := chunk_len (wr_chunk h)
  rwa [List.length_map] at this
theorem flatW_get {l : List (Nat × List UInt8)} (h : ∀ x ∈ l, x.2.length = 140) {i : Nat} {x : Nat × List UInt8} (hs : l[i]? = some x) {j : Nat} {v : Value} (hv : (wrV x)[j]? = some v) : (flatW l)[i * 141 + j]? = some v :=
  chunk_get (wr_chunk h) (c := wrV x) (by rw [List.getElem?_map, hs]; rfl) hv
theorem flatW_snoc (l : List (Nat × List UInt8)) (x : Nat × List UInt8) : flatW (l ++ [x]) = flatW l ++ wrV x := by simp [flatW]

/-- A disk in memory. -/
def rowS (v : Value) (l : List (List UInt8)) : Res := .row v 102 140 l.length (flatS l)
def rowW (v : Value) (l : List (Nat × List UInt8)) : Res := .row v 104 141 l.length (flatW l)
def diskR (db : Nat) (v0 v1 v2 : Value) (dn : Bool) (lf : Int) : Res := .cell db 97 [v0, v1, v2, .bool dn, .int .i64 lf]
structure DiskIn (w0 w : World) (db : Nat) (d : DK) (l2 : List Res) : Prop where
  ok : d.Ok
  mem : ∃ g0 c0 g1 c1 v2, d.now.length ≤ c0 ∧ c0 ≤ 9223372036854775807 ∧ d.now.length ≤ c1 ∧ c1 ≤ 9223372036854775807 ∧ Hold w0 w (diskR db (.slice (some ⟨g0, 0, none⟩) d.now.length c0) (.slice (some ⟨g1, 0, none⟩) d.now.length c1) v2 d.down d.left :: rowS (.slice (some ⟨g0, 0, none⟩) d.now.length c0) d.kept :: rowS (.slice (some ⟨g1, 0, none⟩) d.now.length c1) d.now :: rowW v2 d.wr :: l2)
/-- An error as it is handed on. -/
def errV : Option Int → Value
  | none => .nilIface
  | some k => .iface 93 (.int .i64 k)
#print axioms DK.Ok.again
#print axioms flatW_get
end Go.Proofs.Ytcjfhfalffngjaa
namespace Go.Proofs.Ytcjfhfalffngjaa
open Go.RowKit
set_option maxRecDepth 100000
set_option linter.unusedSimpArgs false
set_option linter.unusedVariables false

variable (w0 w : World) (db : Nat) (d : DK) (l2 : List Res)

theorem has_calls (h : DiskIn w0 w db d l2) (i : Int) :
    Calls Try.prog 58 #[.pointer (some ⟨db, 0, none⟩), .int .i64 i] w fun e w' => e = .returned (.bool (d.has i)) ∧ w' = w := by
  obtain ⟨g0, c0, g1, c1, v2, hc0, hc01, hc1, hc11, H⟩ := h.mem
  have q1 : w.cell? ⟨db, 1, none⟩ = some (.slice (some ⟨g1, 0, none⟩) d.now.length c1) := H.cellAt (.head _) rfl
  obtain ⟨n, hn⟩ : ∃ n, d.now.length = n := ⟨_, rfl⟩
  unfold DK.has
  rw [hn] at q1 ⊢
  clear H h hc0 hc01 hc1 hc11
  by_cases h0 : 0 ≤ i
  · rw [decide_eq_true h0]
    go_enter Try.func58, Try.ntmps58
    go_wp2_with fail
    go_ret
    exact ⟨by simp, rfl⟩
  · rw [decide_eq_false h0]
    go_enter Try.func58, Try.ntmps58
    go_wp2_with fail
    go_ret
    exact ⟨rfl, rfl⟩

theorem sectors_calls (h : DiskIn w0 w db d l2) :
    Calls Try.prog 15 #[.pointer (some ⟨db, 0, none⟩)] w fun e w' => e = .returned (.int .i64 d.now.length) ∧ w' = w := by
  obtain ⟨g0, c0, g1, c1, v2, hc0, hc01, hc1, hc11, H⟩ := h.mem
  have q1 : w.cell? ⟨db, 1, none⟩ = some (.slice (some ⟨g1, 0, none⟩) d.now.length c1) := H.cellAt (.head _) rfl
  obtain ⟨n, hn⟩ : ∃ n, d.now.length = n := ⟨_, rfl⟩
  rw [hn] at q1 ⊢
  clear H h hc0 hc01 hc1 hc11
  go_enter Try.func15, Try.ntmps15
  go_wp2_with fail
  go_ret
  exact ⟨rfl, rfl⟩

theorem down_calls (h : DiskIn w0 w db d l2) :
    Calls Try.prog 25 #[.pointer (some ⟨db, 0, none⟩)] w fun e w' => e = .returned (.bool d.down) ∧ w' = w := by
  obtain ⟨g0, c0, g1, c1, v2, hc0, hc01, hc1, hc11, H⟩ := h.mem
  have q3 : w.cell? ⟨db, 3, none⟩ = some (.bool d.down) := H.cellAt (.head _) rfl
  clear H h hc0 hc01 hc1 hc11
  go_enter Try.func25, Try.ntmps25
  go_wp2_with fail
  go_ret
  exact ⟨rfl, rfl⟩

theorem arm_calls (h : DiskIn w0 w db d l2) (n : Int) (hn : -9223372036854775808 ≤ n ∧ n ≤ 9223372036854775807) :
    Calls Try.prog 22 #[.pointer (some ⟨db, 0, none⟩), .int .i64 n] w fun e w' => e = .returned (.tuple #[]) ∧ DiskIn w0 w' db (d.armed n) l2 := by
  obtain ⟨g0, c0, g1, c1, v2, hc0, hc01, hc1, hc11, H⟩ := h.mem
  have q4 : w.cell? ⟨db, 4, none⟩ = some (.int .i64 d.left) := H.cellAt (.head _) rfl
  have f4 : w.frozen? ⟨db, 4, none⟩ = false := H.frozenAt (.head _) 4
  have hf : DiskIn w0 (w.setCell ⟨db, 4, none⟩ (.int .i64 n)) db (d.armed n) l2 := ⟨h.ok.armed hn, g0, c0, g1, c1, v2, hc0, hc01, hc1, hc11, H.store [] 4 _ _ rfl⟩
  have HF := hide hf
  clear H h hc0 hc01 hc1 hc11 hf
  go_enter Try.func22, Try.ntmps22
  go_wp2_with fail
  go_end0
  exact ⟨rfl, unhide HF⟩

def StepEnd (e : Ending) (w' : World) : Prop := e = .returned (errV d.flushE) ∧ DiskIn w0 w' db d.stepped l2

theorem step_calls (h : DiskIn w0 w db d l2) :
    Calls Try.prog 59 #[.pointer (some ⟨db, 0, none⟩)] w fun e w' => StepEnd w0 db d l2 e w' := by
  obtain ⟨g0, c0, g1, c1, v2, hc0, hc01, hc1, hc11, H⟩ := h.mem
  have hok := h.ok.stepped
  have hlf := h.ok.left
  have q4 : w.cell? ⟨db, 4, none⟩ = some (.int .i64 d.left) := H.cellAt (.head _) rfl
  have f4 : w.frozen? ⟨db, 4, none⟩ = false := H.frozenAt (.head _) 4
  have q3 : w.cell? ⟨db, 3, none⟩ = some (.bool d.down) := H.cellAt (.head _) rfl
  have f3 : w.frozen? ⟨db, 3, none⟩ = false := H.frozenAt (.head _) 3
  obtain ⟨kept, now, wr, down, left⟩ := d
  simp only at *
  have HH := hide H
  have Hok := hide hok
  have Hc : Hid (now.length ≤ c0 ∧ c0 ≤ 9223372036854775807 ∧ now.length ≤ c1 ∧ c1 ≤ 9223372036854775807) := ⟨hc0, hc01, hc1, hc11⟩
  clear H h hc0 hc01 hc1 hc11 hok
  unfold StepEnd
  by_cases h0 : left = 0
  · subst h0
    go_enter Try.func59, Try.ntmps59
    go_wp2_with fail
    go_ret
    obtain ⟨a1, a2, a3, a4⟩ := unhide Hc
    refine ⟨by simp [DK.flushE, DK.fall, errV], unhide Hok, g0, c0, g1, c1, v2, ?_⟩
    simp only [DK.stepped, DK.fall, beq_self_eq_true, Bool.or_true, if_true]
    exact ⟨a1, a2, a3, a4, (unhide HH).store [] 3 _ _ rfl⟩
  · cases down with
    | true =>
      go_enter Try.func59, Try.ntmps59
      go_wp2_with fail
      go_ret
      obtain ⟨a1, a2, a3, a4⟩ := unhide Hc
      refine ⟨by simp [DK.flushE, DK.fall, errV], unhide Hok, g0, c0, g1, c1, v2, ?_⟩
      simp only [DK.stepped, DK.fall, Bool.true_or, if_true]
      exact ⟨a1, a2, a3, a4, unhide HH⟩
    | false =>
      have hfl : DK.fall ⟨kept, now, wr, false, left⟩ = false := by simp [DK.fall, h0]
      have hfe : DK.flushE ⟨kept, now, wr, false, left⟩ = none := by simp [DK.flushE, hfl]
      rw [hfe]
      by_cases hp : 0 < left
      · have hst : DK.stepped ⟨kept, now, wr, false, left⟩ = ⟨kept, now, wr, false, left - 1⟩ := by simp [DK.stepped, hfl, hp]
        rw [hst] at Hok ⊢
        clear hst hfl hfe
        go_enter Try.func59, Try.ntmps59
        go_wp2_with fail
        go_ret
        obtain ⟨a1, a2, a3, a4⟩ := unhide Hc
        exact ⟨rfl, unhide Hok, g0, c0, g1, c1, v2, a1, a2, a3, a4, (unhide HH).store [] 4 _ _ rfl⟩
      · have hst : DK.stepped ⟨kept, now, wr, false, left⟩ = ⟨kept, now, wr, false, left⟩ := by simp [DK.stepped, hfl, hp]
        rw [hst] at Hok ⊢
        clear hst hfl hfe
        go_enter Try.func59, Try.ntmps59
        go_wp2_with fail
        go_ret
        obtain ⟨a1, a2, a3, a4⟩ := unhide Hc
        exact ⟨rfl, unhide Hok, g0, c0, g1, c1, v2, a1, a2, a3, a4, unhide HH⟩
#print axioms step_calls
end Go.Proofs.Ytcjfhfalffngjaa
