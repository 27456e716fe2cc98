/-
  The contract of log.Open.
-/
import Derived.Test.YtcjfhfalffngjaaLRead
namespace Go.Proofs.Ytcjfhfalffngjaa
open Go.RowKit Go.Lib
set_option maxRecDepth 100000
set_option linter.unusedVariables false
set_option linter.unusedSimpArgs false

def OpenEnd (w0 : World) (db : Nat) (d : DK) (l2 : List Res) (fr many first : Nat) (e : Ending) (w' : World) : Prop :=
  ∃ lb v P, e = .returned (.tuple #[.pointer (some ⟨lb, 0, none⟩), v, .nilIface]) ∧ P.map (·.2) = (readP d fr many first).deeds ∧ DiskIn w0 w' db d (deedsR v P ++ (logR lb db fr many first (readP d fr many first).used :: l2))

/-- Out of bounds. -/
theorem open_bad {w0 w : World} {db : Nat} {d : DK} {l2 : List Res} (h : DiskIn w0 w db d l2) (fr many first : Int) (hb1 : -9223372036854775808 ≤ fr ∧ fr ≤ 9223372036854775807) (hb : fr < 0 ∨ many < 1 ∨ first < 1 ∨ (d.now.length : Int) - fr < many) :
    Calls Try.prog 39 #[.pointer (some ⟨db, 0, none⟩), .int .i64 fr, .int .i64 many, .int .i64 first] w fun e w' => e = .returned (.tuple #[.pointer none, .slice none 0 0, errV (some 1)]) ∧ w' = w := by
  have es := sectors_calls w0 w db d l2 h
  have hfew := h.ok.few
  obtain ⟨n, hn⟩ : ∃ n, d.now.length = n := ⟨_, rfl⟩
  rw [hn] at es hb hfew
  have ES := hide es
  clear es h hn
  by_cases h1 : fr < 0
  · go_enter Try.func39, Try.ntmps39
    go_wp2_with fail
    go_ret3
    exact ⟨rfl, rfl⟩
  · by_cases h2 : many < 1
    · go_enter Try.func39, Try.ntmps39
      go_wp2_with fail
      go_ret3
      exact ⟨rfl, rfl⟩
    · by_cases h3 : first < 1
      · go_enter Try.func39, Try.ntmps39
        go_wp2_with fail
        go_ret3
        exact ⟨rfl, rfl⟩
      · have h4 : (n : Int) - fr < many := by omega
        clear hb
        go_enter Try.func39, Try.ntmps39
        go_wp2_with (go_at_call 15; refine (unhide ES).mono ?_; rintro e w1 ⟨rfl, rfl⟩)
        go_ret3
        exact ⟨rfl, rfl⟩

set_option maxHeartbeats 1000000 in
theorem open_calls {w0 w : World} {db : Nat} {d : DK} {l2 : List Res} (h : DiskIn w0 w db d l2) (hdn : d.down = false) (fr many first : Nat) (h1 : 1 ≤ many) (hf0 : 1 ≤ first) (hf : first ≤ 1000000) (hfm : fr + many ≤ d.now.length) :
    Calls Try.prog 39 #[.pointer (some ⟨db, 0, none⟩), .int .i64 fr, .int .i64 many, .int .i64 first] w fun e w' => OpenEnd w0 db d l2 fr many first e w' := by
  have es := sectors_calls w0 w db d l2 h
  have hfew := h.ok.few
  obtain ⟨lb, hlb⟩ : ∃ lb, w.heap.size = lb := ⟨_, rfl⟩
  have hm : DiskIn w0 (w.alloc (.cells #[.pointer (some ⟨db, 0, none⟩), .int .i64 fr, .int .i64 many, .int .i64 first, .int .i64 0] 119)) db d (logR lb db fr many first 0 :: l2) := by rw [← hlb]; exact h.made 119 [.pointer (some ⟨db, 0, none⟩), .int .i64 fr, .int .i64 many, .int .i64 first, .int .i64 0]
  have er := read_log_calls hm hdn hfm h1 hf
  unfold ReadLEnd at er
  unfold OpenEnd
  obtain ⟨RP, hRP⟩ : ∃ RP, readP d fr many first = RP := ⟨_, rfl⟩
  rw [hRP] at er ⊢
  have a1 : ¬ (fr : Int) < 0 := by omega
  have a2 : ¬ (many : Int) < 1 := by omega
  have a3 : ¬ (first : Int) < 1 := by omega
  have a4 : ¬ (d.now.length : Int) - (fr : Int) < (many : Int) := by omega
  obtain ⟨n, hn⟩ : ∃ n, d.now.length = n := ⟨_, rfl⟩
  rw [hn] at es a4 hfew
  have ES := hide es
  have ER := hide er
  clear es er h hn hm hRP hfm hdn
  go_enter Try.func39, Try.ntmps39
  go_wp2_with (go_at_call 15; refine (unhide ES).mono ?_; rintro e w1 ⟨rfl, rfl⟩)
  refine (unhide ER).mono ?_
  rintro e w2 ⟨v, P, rfl, hP, hD⟩
  have HP := hide hP
  have HD := hide hD
  clear hP hD ER
  obtain ⟨pv, cv, hv, _⟩ := row_slice ((unhide HD).hold.rowAt (.head _))
  subst hv
  go_wp2_with fail
  go_ret3
  exact ⟨lb, _, P, rfl, unhide HP, unhide HD⟩
#print axioms open_bad
#print axioms open_calls
end Go.Proofs.Ytcjfhfalffngjaa
