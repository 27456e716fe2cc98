/-
  What LogSays leans on: disks that are up and not armed, Add's fault, and what is read the same. Plain facts.
-/
import Derived.Test.YtcjfhfalffngjaaLLogs
namespace Go.Proofs.Ytcjfhfalffngjaa
open Go.RowKit Go.Lib
set_option maxRecDepth 100000
set_option linter.unusedVariables false
set_option linter.unusedSimpArgs false

theorem goR_congr {get get' : Nat → ByteArray} {first : Nat} : ∀ (k i : Nat) (st : RS), (∀ j, i ≤ j → j < i + k → get j = get' j) → goR get first k i st = goR get' first k i st
  | 0, i, st, h => rfl
  | k + 1, i, st, h => by
    rw [goR, goR, h i (by omega) (by omega)]
    cases stepR (get' i) (first + i) i st with
    | none => rfl
    | some s1 => exact goR_congr k (i + 1) s1 fun j h1 h2 => h j (by omega) (by omega)
/-- The sectors of a log, as they are read. -/
def nowL (now : List (List UInt8)) (fr many : Nat) : List (List UInt8) := (List.range many).map fun i => now.getD (fr + i) []
theorem nowL_length (now : List (List UInt8)) (fr many : Nat) : (nowL now fr many).length = many := by simp [nowL]
theorem nowL_succ (now : List (List UInt8)) (fr i : Nat) : nowL now fr (i + 1) = nowL now fr i ++ [now.getD (fr + i) []] := by simp [nowL, List.range_succ]
theorem nowL_go (now : List (List UInt8)) (fr many first : Nat) : goR (fun i => mkB ((nowL now fr many).getD i [])) first many 0 st0 = goR (secAt now fr) first many 0 st0 := by
  refine goR_congr many 0 st0 fun j _ hj => ?_
  unfold secAt nowL
  rw [List.getD, List.getElem?_map, List.getElem?_range (by omega)]
  rfl
theorem nowL_secs {now : List (List UInt8)} (h : Secs now) {fr many : Nat} (hl : fr + many ≤ now.length) : ∀ s ∈ nowL now fr many, s.length = 140 := by
  intro s hs
  obtain ⟨i, hi, rfl⟩ := List.mem_map.1 hs
  have hi' : i < many := List.mem_range.1 hi
  rw [List.getD, List.getElem?_eq_getElem (by omega)]
  exact h _ (List.getElem_mem _)

/-- A disk that is up and not armed. -/
structure Up (d : DK) (m : Nat) : Prop where
  left : d.left = -1
  down : d.down = false
  len : d.now.length = m
theorem Up.new (m : Nat) : Up (newP m) m := ⟨rfl, rfl, by simp [newP]⟩
theorem Up.write {d : DK} {m : Nat} (h : Up d m) {i : Nat} (hi : i < m) {s : List UInt8} (hs : s.length ≤ 140) : d.writeE (i : Int) s = none ∧ Up (d.written (i : Int) s) m := by
  have hbad : (!d.has (i : Int) || decide (140 < s.length)) = false := by simp [DK.has, h.len]; omega
  obtain ⟨h1, h2⟩ := writeE_good d i s hbad
  have hf := calm_fall (d := d) (by rw [h.left]; decide) h.down
  have hst := calm_step (d := d) (by rw [h.left]; decide) h.down
  refine ⟨by rw [h1]; unfold DK.flushE; rw [hf]; rfl, ?_⟩
  rw [h2, hf, hst]
  exact ⟨h.left, h.down, by simp [DK.laid, h.len]⟩

/-- Why Add refuses. -/
def addF (many used : Nat) (L : List ChD) : Option Int := if 12 < L.length then some 2 else if many - used < L.length + 1 then some 9 else faultL L
theorem faultL_pos : ∀ (l : List ChD) (k : Int), faultL l = some k → 0 < k
  | [], k, h => by cases h
  | c :: l, k, h => by
    rw [faultL] at h
    cases hc : checkP c with
    | some j => rw [hc] at h; cases h; exact checkP_pos c _ hc
    | none => rw [hc] at h; exact faultL_pos l k h
theorem addF_pos {many used : Nat} {L : List ChD} {k : Int} (h : addF many used L = some k) : 0 < k := by
  unfold addF at h
  split at h
  · cases h; decide
  split at h
  · cases h; decide
  · exact faultL_pos _ _ h
theorem add_out {d : DK} {m fr many first used : Nat} {D : List (List ChD)} (hu : Up d m) (hlen : fr + many ≤ m) (hp : Pre (secAt d.now fr) first used D) (hle : used ≤ many) (hf : first + many < 4294967296) (L : List ChD) :
    (∀ k, addF many used L = some k → addP d fr many first used L = (some k, d, used)) ∧ (addF many used L = none → ∃ d', addP d fr many first used L = (none, d', used + (L.length + 1)) ∧ Up d' m ∧ d'.wr = [] ∧ LogOk d' fr many first (D ++ [L]) (used + (L.length + 1))) := by
  unfold addF
  by_cases h12 : 12 < L.length
  · rw [if_pos h12]
    exact ⟨fun k hk => by cases hk; exact addP_many h12, fun h => by cases h⟩
  rw [if_neg h12]
  by_cases hfull : many - used < L.length + 1
  · rw [if_pos hfull]
    exact ⟨fun k hk => by cases hk; exact addP_full h12 hfull, fun h => by cases h⟩
  rw [if_neg hfull]
  refine ⟨fun k hk => addP_fault h12 hfull hk, fun hft => ?_⟩
  obtain ⟨d', h1, h2, h3, h4⟩ := add_done hu.down (by rw [hu.left]; decide) (by rw [hu.len]; exact hlen) hp hle hf L h12 hfull hft
  exact ⟨d', h1, ⟨h2.trans hu.left, h4.steady.down, h3.trans hu.len⟩, h4.steady.wr, h4⟩

/-- What goes on from act to act. -/
structure SaysIn (W : World) (db lb : Nat) (v16 v17 v22 : Value) (wr : World) (m fr many first : Nat) (d : DK) (used : Nat) (R : List Res) (Pg Pw : List (Value × List ChD)) : Prop where
  disk : DiskIn W wr db d (logR lb db fr many first used :: R)
  read : ∀ w' l, Hold W w' (l ++ R) → DsP w' v17 Pg ∧ DsP w' v22 Pw
  up : Up d m
  wr : d.wr.length ≤ 100
  go : (readP d fr many first).deeds = Pw.map (·.2) ∧ (readP d fr many first).used = used
  same : Pg.map (·.2) = Pw.map (·.2)
  p16 : v16 = .pointer (some ⟨lb, 0, none⟩)
  shape : v22 = .slice none 0 0 ∨ ∃ a n c, v22 = .slice (some a) n c
theorem SaysIn.pre {W : World} {db lb : Nat} {v16 v17 v22 : Value} {wr : World} {m fr many first : Nat} {d : DK} {used : Nat} {R : List Res} {Pg Pw : List (Value × List ChD)} (h : SaysIn W db lb v16 v17 v22 wr m fr many first d used R Pg Pw) : used ≤ many ∧ Pre (secAt d.now fr) first used (Pw.map (·.2)) := by
  have := pre_of_go (secAt d.now fr) first many
  have h1 := h.go
  unfold readP at h1
  rw [h1.1, h1.2] at this
  exact this
theorem SaysIn.len {W : World} {db lb : Nat} {v16 v17 v22 : Value} {wr : World} {m fr many first : Nat} {d : DK} {used : Nat} {R : List Res} {Pg Pw : List (Value × List ChD)} (h : SaysIn W db lb v16 v17 v22 wr m fr many first d used R Pg Pw) : Pw.length ≤ many := by
  have := h.pre.2.len
  rw [List.length_map] at this
  exact Nat.le_trans this h.pre.1
theorem SaysIn.world {W : World} {db lb : Nat} {v16 v17 v22 : Value} {wr w' : World} {m fr many first : Nat} {d : DK} {used : Nat} {R : List Res} {Pg Pw : List (Value × List ChD)} (h : SaysIn W db lb v16 v17 v22 wr m fr many first d used R Pg Pw) (hd : DiskIn W w' db d (logR lb db fr many first used :: R)) : SaysIn W db lb v16 v17 v22 w' m fr many first d used R Pg Pw :=
  ⟨hd, h.read, h.up, h.wr, h.go, h.same, h.p16, h.shape⟩
#print axioms add_out
end Go.Proofs.Ytcjfhfalffngjaa
