/-
  The contracts of jobcaselaw.LightChanges and LightActs, over the seat's program: they answer; of many acts with no.
-/
import Derived.Test.YtklnonmmamdecabSearch
import Derived.Deep.QuietTactic
import Derived.BigQuiet
import Derived.BigRegion
namespace Go.Proofs.Ytklnonmmamdecab
open Go.RowKit
set_option linter.unusedVariables false
set_option linter.unusedSimpArgs false

/-- A row of changes that can be read. -/
def ChOk (w : World) (v : Value) : Prop :=
  (∃ p c, v = .slice p 0 c) ∨ ∃ b off m c, v = .slice (some ⟨b, off, none⟩) m c ∧ m ≤ 9223372036854775807 ∧ ∀ j, j < m → ∃ key val : ByteArray, w.cell? ⟨b, off + j * 3, none⟩ = some (.string key) ∧ w.cell? ⟨b, off + j * 3 + 1, none⟩ = some (.string val)

/-- A yes or a no. -/
def AnyBool (e : Ending) : Prop := ∃ r : Bool, e = .returned (.bool r)
/-- .. a yes only where there are few. -/
def LightEnd (n most : Nat) (e : Ending) : Prop := ∃ r : Bool, e = .returned (.bool r) ∧ (r = true → n ≤ most)

set_option maxRecDepth 100000 in
theorem lightChanges_calls (v : Value) (w : World) (h : ChOk w v) (most : Nat) (hm : most ≤ 1000) :
    Calls Try.prog 21 #[v, .int .i64 most] w fun e w' => AnyBool e ∧ w' = w := by
  rcases h with ⟨p, c, rfl⟩ | ⟨b, off, m, c, rfl, hm63, hc⟩
  · go_enter Try.func21, Try.ntmps21
    have hz : ¬ ((most : Int) < 0) := by omega
    go_wp2_with fail
    go_loopg [5] 1 (fun g vi wr => vi = .int .i64 0 ∧ wr = w)
    case atStart => exact ⟨rfl, rfl⟩
    case round =>
      obtain ⟨rfl, rfl⟩ := hrel
      go_wp2_with fail
      go_ret
      exact ⟨⟨_, rfl⟩, rfl⟩
  · have HC := hide hc
    clear hc
    by_cases hmm : most < m
    · have hz : (most : Int) < (m : Int) := by omega
      go_enter Try.func21, Try.ntmps21
      go_wp2_with fail
      go_ret
      exact ⟨⟨_, rfl⟩, rfl⟩
    · have hz : ¬ ((most : Int) < (m : Int)) := by omega
      go_enter Try.func21, Try.ntmps21
      go_wp2_with fail
      go_loopg [5] (m + 1) (fun g vi wr => ∃ i : Nat, m - i < g ∧ i ≤ m ∧ vi = .int .i64 i ∧ wr = w)
      case atStart => exact ⟨0, by omega, by omega, rfl, rfl⟩
      case round =>
        obtain ⟨i, hg, hi, rfl, rfl⟩ := hrel
        by_cases him : i < m
        · have hiz : (i : Int) < (m : Int) := by omega
          obtain ⟨key, val, q1, q2⟩ := unhide HC i him
          by_cases h1 : 60 < key.size
          · have hz1 : (60 : Int) < (key.size : Int) := by omega
            go_wp2_with fail
            go_ret
            exact ⟨⟨_, rfl⟩, rfl⟩
          · have hz1 : ¬ ((60 : Int) < (key.size : Int)) := by omega
            by_cases h2 : 60 < val.size
            · have hz2 : (60 : Int) < (val.size : Int) := by omega
              go_wp2_with fail
              go_ret
              exact ⟨⟨_, rfl⟩, rfl⟩
            · have hz2 : ¬ ((60 : Int) < (val.size : Int)) := by omega
              go_wp2_with fail
              go_roundg (m - i)
              case measure => omega
              case rel => exact ⟨i + 1, by omega, by omega, by simp, rfl⟩
        · have hiz : ¬ ((i : Int) < (m : Int)) := by omega
          go_wp2_with fail
          go_ret
          exact ⟨⟨_, rfl⟩, rfl⟩

/-- An act: its key, its name, its number, what kind it is. -/
structure ActD where
  kind : ByteArray
  s : ByteArray
  t : ByteArray
  n : Int
  ch : Value
/-- A row of acts that can be read. -/
def ActsOk (w : World) (v : Value) (n : Nat) (f : Nat → ActD) : Prop :=
  ((∃ p c, v = .slice p 0 c) ∧ n = 0) ∨ ∃ b off c, v = .slice (some ⟨b, off, none⟩) n c ∧ n ≤ 9223372036854775807 ∧ b < w.heap.size ∧ ∀ j, j < n → w.cell? ⟨b, off + j * 6, none⟩ = some (.string (f j).kind) ∧ w.cell? ⟨b, off + j * 6 + 1, none⟩ = some (.string (f j).s) ∧ w.cell? ⟨b, off + j * 6 + 2, none⟩ = some (.string (f j).t) ∧ w.cell? ⟨b, off + j * 6 + 3, none⟩ = some (.int .i64 (f j).n) ∧ (∃ u, w.cell? ⟨b, off + j * 6 + 4, none⟩ = some (.int .u64 u)) ∧ w.cell? ⟨b, off + j * 6 + 5, none⟩ = some (f j).ch ∧ ChOk w (f j).ch

set_option maxRecDepth 100000 in
set_option maxHeartbeats 1000000 in
theorem lightActs_calls (v : Value) (n : Nat) (f : Nat → ActD) (w : World) (h : ActsOk w v n f) (most : Nat) (hm : most ≤ 1000) :
    Calls Try.prog 7 #[v, .int .i64 most] w fun e w' => LightEnd n most e ∧ w' = w := by
  rcases h with ⟨⟨p, c, rfl⟩, rfl⟩ | ⟨b, off, c, rfl, hn63, hb, hc⟩
  · go_enter Try.func7, Try.ntmps7
    have hz : ¬ ((most : Int) < 0) := by omega
    go_wp2_with fail
    go_loopg [5] 1 (fun g vi wr => vi = .int .i64 0 ∧ wr = w)
    case atStart => exact ⟨rfl, rfl⟩
    case round =>
      obtain ⟨rfl, rfl⟩ := hrel
      go_wp2_with fail
      go_ret
      exact ⟨⟨true, rfl, fun _ => Nat.zero_le _⟩, rfl⟩
  · have HC := hide hc
    clear hc
    by_cases hmm : most < n
    · have hz : (most : Int) < (n : Int) := by omega
      go_enter Try.func7, Try.ntmps7
      go_wp2_with fail
      go_ret
      exact ⟨⟨false, rfl, fun h => by cases h⟩, rfl⟩
    · have hz : ¬ ((most : Int) < (n : Int)) := by omega
      go_enter Try.func7, Try.ntmps7
      go_wp2_with fail
      go_loopg [5] (n + 1) (fun g vi wr => ∃ i : Nat, n - i < g ∧ i ≤ n ∧ vi = .int .i64 i ∧ wr = w)
      case atStart => exact ⟨0, by omega, by omega, rfl, rfl⟩
      case round =>
        obtain ⟨i, hg, hi, rfl, rfl⟩ := hrel
        by_cases him : i < n
        · have hiz : (i : Int) < (n : Int) := by omega
          obtain ⟨_, q1, q2, _, _, q5, hch⟩ := unhide HC i him
          have e1 := lightChanges_calls (f i).ch wr hch 16 (by omega)
          have E1 := hide e1
          have hsh : ∃ p m c', (f i).ch = .slice p m c' := by
            rcases hch with ⟨p', c', h⟩ | ⟨b', o', m', c', h, _⟩
            · exact ⟨_, _, _, h⟩
            · exact ⟨_, _, _, h⟩
          obtain ⟨S, hS⟩ : ∃ S, (f i).s = S := ⟨_, rfl⟩
          obtain ⟨T, hT⟩ : ∃ T, (f i).t = T := ⟨_, rfl⟩
          obtain ⟨V, hV⟩ : ∃ V, (f i).ch = V := ⟨_, rfl⟩
          rw [hS] at q1
          rw [hT] at q2
          rw [hV] at q5 E1 hsh
          obtain ⟨p, m', c', rfl⟩ := hsh
          clear e1 hch hS hT hV
          by_cases h1 : 200 < S.size
          · have hz1 : (200 : Int) < (S.size : Int) := by omega
            go_wp2_with fail
            go_ret
            exact ⟨⟨false, rfl, fun h => by cases h⟩, rfl⟩
          · have hz1 : ¬ ((200 : Int) < (S.size : Int)) := by omega
            by_cases h2 : 150 < T.size
            · have hz2 : (150 : Int) < (T.size : Int) := by omega
              go_wp2_with fail
              go_ret
              exact ⟨⟨false, rfl, fun h => by cases h⟩, rfl⟩
            · have hz2 : ¬ ((150 : Int) < (T.size : Int)) := by omega
              go_wp2_with fail
              refine (unhide E1).mono ?_
              rintro e w3 ⟨⟨r, rfl⟩, rfl⟩
              cases r with
              | true =>
                go_wp2_with fail
                go_roundg (n - i)
                case measure => omega
                case rel => exact ⟨i + 1, by omega, by omega, by simp, rfl⟩
              | false =>
                go_wp2_with fail
                go_ret
                exact ⟨⟨false, rfl, fun h => by cases h⟩, rfl⟩
        · have hiz : ¬ ((i : Int) < (n : Int)) := by omega
          go_wp2_with fail
          go_ret
          exact ⟨⟨true, rfl, fun _ => by omega⟩, rfl⟩

#print axioms lightActs_calls
end Go.Proofs.Ytklnonmmamdecab
