/-
  The contract of the log's Add. The contract of log.Open.
-/
import Derived.Test.YtcjfhfalffngjaaCLPut
import Derived.Test.YtcjfhfalffngjaaCLRead
namespace Go.Proofs.Ytcjfhfalffngjaa
open Go.RowKit Go.Lib
set_option maxRecDepth 100000
set_option linter.unusedVariables false
set_option linter.unusedSimpArgs false

/-- The error, the disk behind it, and how many sectors are used then. -/
def addP (d : DK) (fr many first used : Nat) (l : List ChD) : Option Int × DK × Nat :=
  if 12 < l.length then (some 2, d, used) else if many - used < l.length + 1 then (some 9, d, used) else match faultL l with
    | some k => (some k, d, used)
    | none => match putP d fr used many ((deedS (first + used) l).headD []) (deedS (first + used) l).tail with
      | (some e, d') => (some e, d', used)
      | (none, d') => (none, d', used + (l.length + 1))
theorem addP_many {d : DK} {fr many first used : Nat} {l : List ChD} (h : 12 < l.length) : addP d fr many first used l = (some 2, d, used) := by unfold addP; rw [if_pos h]
theorem addP_full {d : DK} {fr many first used : Nat} {l : List ChD} (h : ¬ 12 < l.length) (h2 : many - used < l.length + 1) : addP d fr many first used l = (some 9, d, used) := by unfold addP; rw [if_neg h, if_pos h2]
theorem addP_fault {d : DK} {fr many first used : Nat} {l : List ChD} (h : ¬ 12 < l.length) (h2 : ¬ many - used < l.length + 1) {k : Int} (h3 : faultL l = some k) : addP d fr many first used l = (some k, d, used) := by unfold addP; rw [if_neg h, if_neg h2, h3]
theorem addP_fell {d : DK} {fr many first used : Nat} {l : List ChD} (h : ¬ 12 < l.length) (h2 : ¬ many - used < l.length + 1) (h3 : faultL l = none) {s0 : List UInt8} {r : List (List UInt8)} (hd : deedS (first + used) l = s0 :: r) {k : Int} {d' : DK} (hp : putP d fr used many s0 r = (some k, d')) : addP d fr many first used l = (some k, d', used) := by unfold addP; rw [if_neg h, if_neg h2, h3, hd]; simp only [List.headD_cons, List.tail_cons]; rw [hp]
theorem addP_done {d : DK} {fr many first used : Nat} {l : List ChD} (h : ¬ 12 < l.length) (h2 : ¬ many - used < l.length + 1) (h3 : faultL l = none) {s0 : List UInt8} {r : List (List UInt8)} (hd : deedS (first + used) l = s0 :: r) {d' : DK} (hp : putP d fr used many s0 r = (none, d')) : addP d fr many first used l = (none, d', used + (l.length + 1)) := by unfold addP; rw [if_neg h, if_neg h2, h3, hd]; simp only [List.headD_cons, List.tail_cons]; rw [hp]

def AddEnd (w0 : World) (db lb : Nat) (l2 : List Res) (fr many first : Nat) (x : Option Int × DK × Nat) (e : Ending) (w' : World) : Prop := e = .returned (errV x.1) ∧ DiskIn w0 w' db x.2.1 (logR lb db fr many first x.2.2 :: l2)

set_option maxHeartbeats 2000000 in
theorem add_calls {w0 w : World} {db lb : Nat} {d : DK} {l2 : List Res} {fr many first used : Nat} (h : DiskIn w0 w db d (logR lb db fr many first used :: l2)) (hfr : fr ≤ 1000) (hum : used ≤ many) (hmany : many ≤ 900) (hf : first ≤ 1000000) (hw : d.wr.length ≤ 50000) (vc : Value) (n : Nat) (f : Nat → ChD) (hc : ChOk w vc n f) (hn63 : n ≤ 1000000) :
    Calls Try.prog 44 #[.pointer (some ⟨lb, 0, none⟩), vc] w fun e w' => AddEnd w0 db lb l2 fr many first (addP d fr many first used (listOf n f)) e w' := by
  obtain ⟨pc, cc, hvc⟩ := hc.slice
  subst hvc
  have hll := listOf_length n f
  have k2 : w.cell? ⟨lb, 2, none⟩ = some (.int .i64 many) := h.cellAt (.head _) rfl
  have k3 : w.cell? ⟨lb, 3, none⟩ = some (.int .i64 first) := h.cellAt (.head _) rfl
  have k4 : w.cell? ⟨lb, 4, none⟩ = some (.int .i64 used) := h.cellAt (.head _) rfl
  have hlb : lb < w.heap.size := h.hold.ltAt (.head _)
  have HH := hide h
  have HC := hide hc
  have HW := hide hw
  unfold AddEnd
  by_cases h12 : 12 < n
  · have hz : (12 : Int) < (n : Int) := by omega
    have ha := addP_many (d := d) (fr := fr) (many := many) (first := first) (used := used) (l := listOf n f) (by rw [hll]; exact h12)
    have HA := hide ha
    clear ha h hc hw
    go_enter Try.func44, Try.ntmps44
    go_wp2_with fail
    go_ret
    rw [unhide HA]
    exact ⟨rfl, unhide HH⟩
  · have hz : ¬ (12 : Int) < (n : Int) := by omega
    have er := room_calls lb many used w hum (by omega) k2 k4
    have ER := hide er
    by_cases hfull : many - used < n + 1
    · have hz2 : ((many - used : Nat) : Int) < (n : Int) + 1 := by omega
      have ha := addP_full (d := d) (fr := fr) (many := many) (first := first) (used := used) (l := listOf n f) (by rw [hll]; exact h12) (by rw [hll]; exact hfull)
      have HA := hide ha
      clear ha h hc hw er
      obtain ⟨room, hroom⟩ : ∃ room, many - used = room := ⟨_, rfl⟩
      rw [hroom] at ER hz2
      clear hroom
      go_enter Try.func44, Try.ntmps44
      go_wp2_with fail
      refine (unhide ER).mono ?_
      rintro e w1 ⟨rfl, n1, rfl⟩
      go_wp2_with fail
      go_ret
      rw [unhide HA]
      exact ⟨rfl, (unhide HH).drewN _⟩
    · have hz2 : ¬ ((many - used : Nat) : Int) < (n : Int) + 1 := by omega
      have es := fun n1 => sectors_of_calls lb first used (.slice pc n cc) n f (w.drewN n1) hlb hf (by omega) (by omega) (hc.below ((Hold.init w).drewN n1).below) k3 k4
      have ES := hide es
      clear es h hc hw er
      have hrm : n + 1 ≤ many - used := by omega
      obtain ⟨room, hroom⟩ : ∃ room, many - used = room := ⟨_, rfl⟩
      rw [hroom] at ER hz2
      have Hf := hide hfull
      have Hr := hide hroom
      clear hroom hfull
      go_enter Try.func44, Try.ntmps44
      go_wp2_with fail
      refine (unhide ER).mono ?_
      rintro e w1 ⟨rfl, n1, rfl⟩
      have ES1 := hide (unhide ES n1)
      clear ES ER
      go_wp2_with fail
      refine (unhide ES1).mono ?_
      rintro e w2 hs
      rcases hs with ⟨k, hft, rfl, hb2⟩ | ⟨hft, v, rfl, hh2⟩
      · have ha := addP_fault (d := d) (fr := fr) (many := many) (first := first) (used := used) (l := listOf n f) (by rw [hll]; exact h12) (by rw [hll]; exact unhide Hf) hft
        have HA := hide ha
        have HD2 := hide (((unhide HH).drewN n1).over hb2)
        clear ha hft hb2 ES1
        simp only [errV]
        go_wp2_with fail
        go_ret
        rw [unhide HA]
        exact ⟨rfl, unhide HD2⟩
      · have hD := ((unhide HH).drewN n1).join hh2
        obtain ⟨s0, r, hd⟩ : ∃ s0 r, deedS (first + used) (listOf n f) = s0 :: r := by
          cases hx : deedS (first + used) (listOf n f) with
          | nil => have := deedS_length (first + used) (listOf n f); rw [hx] at this; simp at this
          | cons s0 r => exact ⟨s0, r, rfl⟩
        have hrl : r.length = n := by
          have := deedS_length (first + used) (listOf n f)
          rw [hd, List.length_cons, hll] at this
          omega
        rw [hd] at hD
        obtain ⟨pv, cv, hv, _⟩ := row_slice (hD.hold.rowAt (.head _))
        rw [show (s0 :: r).length = n + 1 by rw [List.length_cons, hrl]] at hv
        subst hv
        have ep := put_calls hD (.head _) hfr (by omega) (by omega) (by omega) (unhide HW)
        unfold PutEnd at ep
        obtain ⟨ep1, d', hpp⟩ : ∃ ep1 d', putP d fr used many s0 r = (ep1, d') := ⟨_, _, rfl⟩
        rw [hpp] at ep
        have EP := hide ep
        cases ep1 with
        | some k =>
          have ha := addP_fell (d := d) (fr := fr) (many := many) (first := first) (used := used) (l := listOf n f) (by rw [hll]; exact h12) (by rw [hll]; exact unhide Hf) hft hd hpp
          have HA := hide ha
          clear ha hft hh2 ES1 hD hd hrl ep hpp
          go_wp2_with fail
          refine (unhide EP).mono ?_
          rintro e w3 ⟨rfl, hD3⟩
          have HD3 := hide hD3
          clear hD3 EP
          simp only [errV]
          go_wp2_with fail
          go_ret
          rw [unhide HA]
          exact ⟨rfl, unhide HD3⟩
        | none =>
          have ha := addP_done (d := d) (fr := fr) (many := many) (first := first) (used := used) (l := listOf n f) (by rw [hll]; exact h12) (by rw [hll]; exact unhide Hf) hft hd hpp
          rw [hll] at ha
          have HA := hide ha
          clear ha hft hh2 ES1 hD hd hrl ep hpp
          go_wp2_with fail
          refine (unhide EP).mono ?_
          rintro e w3 ⟨rfl, hD3⟩
          have k4 : w3.cell? ⟨lb, 4, none⟩ = some (.int .i64 used) := hD3.cellAt (.head _) rfl
          have f4 : w3.frozen? ⟨lb, 4, none⟩ = false := hD3.frozenAt (.head _) 4
          have HD3 := hide hD3
          clear hD3 EP
          simp only [errV]
          go_wp2_with fail
          go_ret
          rw [unhide HA]
          refine ⟨rfl, ?_⟩
          have hst := DiskIn.store [] (unhide HD3) 4 (.int .i64 ((used : Int) + ((n : Int) + 1))) _ rfl
          have he : ((used + (n + 1) : Nat) : Int) = (used : Int) + ((n : Int) + 1) := by omega
          unfold logR
          rw [he]
          exact hst
#print axioms add_calls
end Go.Proofs.Ytcjfhfalffngjaa
namespace Go.Proofs.Ytcjfhfalffngjaa
open Go.RowKit Go.Lib
set_option maxRecDepth 100000
set_option linter.unusedVariables false
set_option linter.unusedSimpArgs false

def OpenEnd (w0 : World) (db : Nat) (d : DK) (l2 : List Res) (fr many first : Nat) (e : Ending) (w' : World) : Prop :=
  ∃ lb v P, e = .returned (.tuple #[.pointer (some ⟨lb, 0, none⟩), v, .nilIface]) ∧ P.map (·.2) = (readP d fr many first).deeds ∧ DiskIn w0 w' db d (deedsR v P ++ (logR lb db fr many first (readP d fr many first).used :: l2))

/-- Out of bounds. -/
theorem open_bad {w0 w : World} {db : Nat} {d : DK} {l2 : List Res} (h : DiskIn w0 w db d l2) (fr many first : Int) (hb1 : -9223372036854775808 ≤ fr ∧ fr ≤ 9223372036854775807) (hb : fr < 0 ∨ many < 1 ∨ first < 1 ∨ (d.now.length : Int) - fr < many) :
    Calls Try.prog 39 #[.pointer (some ⟨db, 0, none⟩), .int .i64 fr, .int .i64 many, .int .i64 first] w fun e w' => e = .returned (.tuple #[.pointer none, .slice none 0 0, errV (some 1)]) ∧ w' = w := by
  have es := sectors_calls w0 w db d l2 h
  have hfew := h.ok.few
  obtain ⟨n, hn⟩ : ∃ n, d.now.length = n := ⟨_, rfl⟩
  rw [hn] at es hb hfew
  have ES := hide es
  clear es h hn
  by_cases h1 : fr < 0
  · go_enter Try.func39, Try.ntmps39
    go_wp2_with fail
    go_ret3
    exact ⟨rfl, rfl⟩
  · by_cases h2 : many < 1
    · go_enter Try.func39, Try.ntmps39
      go_wp2_with fail
      go_ret3
      exact ⟨rfl, rfl⟩
    · by_cases h3 : first < 1
      · go_enter Try.func39, Try.ntmps39
        go_wp2_with fail
        go_ret3
        exact ⟨rfl, rfl⟩
      · have h4 : (n : Int) - fr < many := by omega
        clear hb
        go_enter Try.func39, Try.ntmps39
        go_wp2_with (go_at_call 15; refine (unhide ES).mono ?_; rintro e w1 ⟨rfl, rfl⟩)
        go_ret3
        exact ⟨rfl, rfl⟩

set_option maxHeartbeats 1000000 in
theorem open_calls {w0 w : World} {db : Nat} {d : DK} {l2 : List Res} (h : DiskIn w0 w db d l2) (hdn : d.down = false) (fr many first : Nat) (h1 : 1 ≤ many) (hf0 : 1 ≤ first) (hf : first ≤ 1000000) (hfm : fr + many ≤ d.now.length) :
    Calls Try.prog 39 #[.pointer (some ⟨db, 0, none⟩), .int .i64 fr, .int .i64 many, .int .i64 first] w fun e w' => OpenEnd w0 db d l2 fr many first e w' := by
  have es := sectors_calls w0 w db d l2 h
  have hfew := h.ok.few
  obtain ⟨lb, hlb⟩ : ∃ lb, w.heap.size = lb := ⟨_, rfl⟩
  have hm : DiskIn w0 (w.alloc (.cells #[.pointer (some ⟨db, 0, none⟩), .int .i64 fr, .int .i64 many, .int .i64 first, .int .i64 0] 119)) db d (logR lb db fr many first 0 :: l2) := by rw [← hlb]; exact h.made 119 [.pointer (some ⟨db, 0, none⟩), .int .i64 fr, .int .i64 many, .int .i64 first, .int .i64 0]
  have er := read_log_calls hm hdn hfm h1 hf
  unfold ReadLEnd at er
  unfold OpenEnd
  obtain ⟨RP, hRP⟩ : ∃ RP, readP d fr many first = RP := ⟨_, rfl⟩
  rw [hRP] at er ⊢
  have a1 : ¬ (fr : Int) < 0 := by omega
  have a2 : ¬ (many : Int) < 1 := by omega
  have a3 : ¬ (first : Int) < 1 := by omega
  have a4 : ¬ (d.now.length : Int) - (fr : Int) < (many : Int) := by omega
  obtain ⟨n, hn⟩ : ∃ n, d.now.length = n := ⟨_, rfl⟩
  rw [hn] at es a4 hfew
  have ES := hide es
  have ER := hide er
  clear es er h hn hm hRP hfm hdn
  go_enter Try.func39, Try.ntmps39
  go_wp2_with (go_at_call 15; refine (unhide ES).mono ?_; rintro e w1 ⟨rfl, rfl⟩)
  refine (unhide ER).mono ?_
  rintro e w2 ⟨v, P, rfl, hP, hD⟩
  have HP := hide hP
  have HD := hide hD
  clear hP hD ER
  obtain ⟨pv, cv, hv, _⟩ := row_slice ((unhide HD).hold.rowAt (.head _))
  subst hv
  go_wp2_with fail
  go_ret3
  exact ⟨lb, _, P, rfl, unhide HP, unhide HD⟩
#print axioms open_bad
#print axioms open_calls
end Go.Proofs.Ytcjfhfalffngjaa
