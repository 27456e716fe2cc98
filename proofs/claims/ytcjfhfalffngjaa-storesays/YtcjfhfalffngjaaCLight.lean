/-
  The contracts of jobcaselaw.LightChanges and LightActs, over the seat's program: they answer; with yes only of few, and short ones.
-/
import Derived.Test.YtcjfhfalffngjaaCDSmall
import Derived.BigQuiet
import Derived.BigRegion
namespace Go.Proofs.Ytcjfhfalffngjaa
open Go.RowKit
set_option maxRecDepth 100000
set_option linter.unusedVariables false
set_option linter.unusedSimpArgs false

/-- A change. -/
structure ChD where
  key : ByteArray
  val : ByteArray
  gone : Bool
/-- A row of changes that can be read. -/
def ChOk (w : World) (v : Value) (n : Nat) (f : Nat → ChD) : Prop :=
  ((∃ p c, v = .slice p 0 c) ∧ n = 0) ∨ ∃ b off c, v = .slice (some ⟨b, off, none⟩) n c ∧ n ≤ 9223372036854775807 ∧ b < w.heap.size ∧ ∀ j, j < n → w.cell? ⟨b, off + j * 3, none⟩ = some (.string (f j).key) ∧ w.cell? ⟨b, off + j * 3 + 1, none⟩ = some (.string (f j).val) ∧ w.cell? ⟨b, off + j * 3 + 2, none⟩ = some (.bool (f j).gone)
theorem cell_below {B : Nat} {w w' : World} (h : Below B w w') {p : Addr} (hp : p.block < B) : w'.cell? p = w.cell? p := World.cell?_of_block (w := w) (h.block p.block hp)
theorem ChOk.below {w w' : World} {v : Value} {n : Nat} {f : Nat → ChD} (h : ChOk w v n f) (hb : Below w.heap.size w w') : ChOk w' v n f := by
  rcases h with h | ⟨b, off, c, h1, h2, h3, h4⟩
  · exact .inl h
  · have hs := hb.size
    refine .inr ⟨b, off, c, h1, h2, by omega, fun j hj => ?_⟩
    rw [cell_below hb h3, cell_below hb h3, cell_below hb h3]
    exact h4 j hj
theorem ChOk.slice {w : World} {v : Value} {n : Nat} {f : Nat → ChD} (h : ChOk w v n f) : ∃ p c, v = .slice p n c := by
  rcases h with ⟨⟨p, c, h⟩, rfl⟩ | ⟨b, off, c, h, _⟩
  · exact ⟨p, c, h⟩
  · exact ⟨_, c, h⟩

/-- A yes only where there are few, and each is short. -/
def LightC (n most : Nat) (f : Nat → ChD) : Prop := n ≤ most ∧ ∀ j, j < n → (f j).key.size ≤ 60 ∧ (f j).val.size ≤ 60
def LightCEnd (n most : Nat) (f : Nat → ChD) (e : Ending) : Prop := ∃ r : Bool, e = .returned (.bool r) ∧ (r = true → LightC n most f)

theorem lightChanges_calls (v : Value) (n : Nat) (f : Nat → ChD) (w : World) (h : ChOk w v n f) (most : Nat) (hm : most ≤ 1000) :
    Calls Try.prog 27 #[v, .int .i64 most] w fun e w' => LightCEnd n most f e ∧ w' = w := by
  rcases h with ⟨⟨p, c, rfl⟩, rfl⟩ | ⟨b, off, c, rfl, hm63, hb, hc⟩
  · go_enter Try.func27, Try.ntmps27
    have hz : ¬ ((most : Int) < 0) := by omega
    go_wp2_with fail
    go_loopg [5] 1 (fun g vi wr => vi = .int .i64 0 ∧ wr = w)
    case atStart => exact ⟨rfl, rfl⟩
    case round =>
      obtain ⟨rfl, rfl⟩ := hrel
      go_wp2_with fail
      go_ret
      exact ⟨⟨true, rfl, fun _ => ⟨Nat.zero_le _, fun j hj => by omega⟩⟩, rfl⟩
  · have HC := hide hc
    clear hc
    by_cases hmm : most < n
    · have hz : (most : Int) < (n : Int) := by omega
      go_enter Try.func27, Try.ntmps27
      go_wp2_with fail
      go_ret
      exact ⟨⟨false, rfl, fun h => by cases h⟩, rfl⟩
    · have hz : ¬ ((most : Int) < (n : Int)) := by omega
      go_enter Try.func27, Try.ntmps27
      go_wp2_with fail
      go_loopg [5] (n + 1) (fun g vi wr => ∃ i : Nat, n - i < g ∧ i ≤ n ∧ vi = .int .i64 i ∧ wr = w ∧ Hid (∀ j, j < i → (f j).key.size ≤ 60 ∧ (f j).val.size ≤ 60))
      case atStart => exact ⟨0, by omega, by omega, rfl, rfl, fun j hj => by omega⟩
      case round =>
        obtain ⟨i, hg, hi, rfl, rfl, HL⟩ := hrel
        by_cases him : i < n
        · have hiz : (i : Int) < (n : Int) := by omega
          obtain ⟨q1, q2, _⟩ := unhide HC i him
          obtain ⟨key, hkey⟩ : ∃ key, (f i).key = key := ⟨_, rfl⟩
          obtain ⟨val, hval⟩ : ∃ val, (f i).val = val := ⟨_, rfl⟩
          rw [hkey] at q1
          rw [hval] at q2
          have Hk := hide hkey
          have Hv := hide hval
          clear hkey hval
          by_cases h1 : 60 < key.size
          · have hz1 : (60 : Int) < (key.size : Int) := by omega
            go_wp2_with fail
            go_ret
            exact ⟨⟨false, rfl, fun h => by cases h⟩, rfl⟩
          · have hz1 : ¬ ((60 : Int) < (key.size : Int)) := by omega
            by_cases h2 : 60 < val.size
            · have hz2 : (60 : Int) < (val.size : Int) := by omega
              go_wp2_with fail
              go_ret
              exact ⟨⟨false, rfl, fun h => by cases h⟩, rfl⟩
            · have hz2 : ¬ ((60 : Int) < (val.size : Int)) := by omega
              go_wp2_with fail
              go_roundg (n - i)
              case measure => omega
              case rel =>
                refine ⟨i + 1, by omega, by omega, by simp, rfl, fun j hj => ?_⟩
                rcases Nat.lt_or_ge j i with h | h
                · exact unhide HL j h
                · obtain rfl : j = i := by omega
                  rw [unhide Hk, unhide Hv]
                  omega
        · have hiz : ¬ ((i : Int) < (n : Int)) := by omega
          go_wp2_with fail
          go_ret
          exact ⟨⟨true, rfl, fun _ => ⟨by omega, fun j hj => unhide HL j (by omega)⟩⟩, rfl⟩

/-- An act. -/
structure ActD where
  kind : ByteArray
  s : ByteArray
  t : ByteArray
  n : Int
  k : Nat
  ch : Value
  cn : Nat
  cf : Nat → ChD
/-- A row of acts that can be read. -/
def ActsOk (w : World) (v : Value) (n : Nat) (f : Nat → ActD) : Prop :=
  ((∃ p c, v = .slice p 0 c) ∧ n = 0) ∨ ∃ b off c, v = .slice (some ⟨b, off, none⟩) n c ∧ n ≤ 9223372036854775807 ∧ b < w.heap.size ∧ ∀ j, j < n → w.cell? ⟨b, off + j * 6, none⟩ = some (.string (f j).kind) ∧ w.cell? ⟨b, off + j * 6 + 1, none⟩ = some (.string (f j).s) ∧ w.cell? ⟨b, off + j * 6 + 2, none⟩ = some (.string (f j).t) ∧ w.cell? ⟨b, off + j * 6 + 3, none⟩ = some (.int .i64 (f j).n) ∧ w.cell? ⟨b, off + j * 6 + 4, none⟩ = some (.int .u64 ((f j).k : Int)) ∧ w.cell? ⟨b, off + j * 6 + 5, none⟩ = some (f j).ch ∧ ChOk w (f j).ch (f j).cn (f j).cf ∧ (-9223372036854775808 ≤ (f j).n ∧ (f j).n ≤ 9223372036854775807) ∧ (f j).k < 18446744073709551616
theorem ActsOk.below {w w' : World} {v : Value} {n : Nat} {f : Nat → ActD} (h : ActsOk w v n f) (hb : Below w.heap.size w w') : ActsOk w' v n f := by
  rcases h with h | ⟨b, off, c, h1, h2, h3, h4⟩
  · exact .inl h
  · have hs := hb.size
    refine .inr ⟨b, off, c, h1, h2, by omega, fun j hj => ?_⟩
    rw [cell_below hb h3, cell_below hb h3, cell_below hb h3, cell_below hb h3, cell_below hb h3, cell_below hb h3]
    obtain ⟨a1, a2, a3, a4, a5, a6, a7, a8⟩ := h4 j hj
    exact ⟨a1, a2, a3, a4, a5, a6, a7.below hb, a8⟩
theorem ActsOk.slice {w : World} {v : Value} {n : Nat} {f : Nat → ActD} (h : ActsOk w v n f) : ∃ p c, v = .slice p n c := by
  rcases h with ⟨⟨p, c, h⟩, rfl⟩ | ⟨b, off, c, h, _⟩
  · exact ⟨p, c, h⟩
  · exact ⟨_, c, h⟩

def LightA (n most : Nat) (f : Nat → ActD) : Prop := n ≤ most ∧ ∀ j, j < n → (f j).s.size ≤ 200 ∧ (f j).t.size ≤ 150 ∧ LightC (f j).cn 16 (f j).cf
def LightEnd (n most : Nat) (f : Nat → ActD) (e : Ending) : Prop := ∃ r : Bool, e = .returned (.bool r) ∧ (r = true → LightA n most f)

set_option maxHeartbeats 1000000 in
theorem lightActs_calls (v : Value) (n : Nat) (f : Nat → ActD) (w : World) (h : ActsOk w v n f) (most : Nat) (hm : most ≤ 1000) :
    Calls Try.prog 11 #[v, .int .i64 most] w fun e w' => LightEnd n most f e ∧ w' = w := by
  rcases h with ⟨⟨p, c, rfl⟩, rfl⟩ | ⟨b, off, c, rfl, hn63, hb, hc⟩
  · go_enter Try.func11, Try.ntmps11
    have hz : ¬ ((most : Int) < 0) := by omega
    go_wp2_with fail
    go_loopg [5] 1 (fun g vi wr => vi = .int .i64 0 ∧ wr = w)
    case atStart => exact ⟨rfl, rfl⟩
    case round =>
      obtain ⟨rfl, rfl⟩ := hrel
      go_wp2_with fail
      go_ret
      exact ⟨⟨true, rfl, fun _ => ⟨Nat.zero_le _, fun j hj => by omega⟩⟩, rfl⟩
  · have HC := hide hc
    clear hc
    by_cases hmm : most < n
    · have hz : (most : Int) < (n : Int) := by omega
      go_enter Try.func11, Try.ntmps11
      go_wp2_with fail
      go_ret
      exact ⟨⟨false, rfl, fun h => by cases h⟩, rfl⟩
    · have hz : ¬ ((most : Int) < (n : Int)) := by omega
      go_enter Try.func11, Try.ntmps11
      go_wp2_with fail
      go_loopg [5] (n + 1) (fun g vi wr => ∃ i : Nat, n - i < g ∧ i ≤ n ∧ vi = .int .i64 i ∧ wr = w ∧ Hid (∀ j, j < i → (f j).s.size ≤ 200 ∧ (f j).t.size ≤ 150 ∧ LightC (f j).cn 16 (f j).cf))
      case atStart => exact ⟨0, by omega, by omega, rfl, rfl, fun j hj => by omega⟩
      case round =>
        obtain ⟨i, hg, hi, rfl, rfl, HL⟩ := hrel
        by_cases him : i < n
        · have hiz : (i : Int) < (n : Int) := by omega
          obtain ⟨_, q1, q2, _, _, q5, hch, _⟩ := unhide HC i him
          have e1 := lightChanges_calls (f i).ch (f i).cn (f i).cf wr hch 16 (by omega)
          have E1 := hide e1
          have hsh := hch.slice
          obtain ⟨S, hS⟩ : ∃ S, (f i).s = S := ⟨_, rfl⟩
          obtain ⟨T, hT⟩ : ∃ T, (f i).t = T := ⟨_, rfl⟩
          obtain ⟨V, hV⟩ : ∃ V, (f i).ch = V := ⟨_, rfl⟩
          rw [hS] at q1
          rw [hT] at q2
          rw [hV] at q5 E1 hsh
          obtain ⟨p, c', rfl⟩ := hsh
          have HS := hide hS
          have HT := hide hT
          clear e1 hch hS hT hV
          by_cases h1 : 200 < S.size
          · have hz1 : (200 : Int) < (S.size : Int) := by omega
            go_wp2_with fail
            go_ret
            exact ⟨⟨false, rfl, fun h => by cases h⟩, rfl⟩
          · have hz1 : ¬ ((200 : Int) < (S.size : Int)) := by omega
            by_cases h2 : 150 < T.size
            · have hz2 : (150 : Int) < (T.size : Int) := by omega
              go_wp2_with fail
              go_ret
              exact ⟨⟨false, rfl, fun h => by cases h⟩, rfl⟩
            · have hz2 : ¬ ((150 : Int) < (T.size : Int)) := by omega
              go_wp2_with fail
              refine (unhide E1).mono ?_
              rintro e w3 ⟨⟨r, rfl, hr⟩, rfl⟩
              have Hr := hide hr
              clear hr E1
              cases r with
              | true =>
                go_wp2_with fail
                go_roundg (n - i)
                case measure => omega
                case rel =>
                  refine ⟨i + 1, by omega, by omega, by simp, rfl, fun j hj => ?_⟩
                  rcases Nat.lt_or_ge j i with h | h
                  · exact unhide HL j h
                  · obtain rfl : j = i := by omega
                    rw [unhide HS, unhide HT]
                    exact ⟨by omega, by omega, unhide Hr (by trivial)⟩
              | false =>
                go_wp2_with fail
                go_ret
                exact ⟨⟨false, rfl, fun h => by cases h⟩, rfl⟩
        · have hiz : ¬ ((i : Int) < (n : Int)) := by omega
          go_wp2_with fail
          go_ret
          exact ⟨⟨true, rfl, fun _ => ⟨by omega, fun j hj => unhide HL j (by omega)⟩⟩, rfl⟩

#print axioms lightActs_calls
end Go.Proofs.Ytcjfhfalffngjaa
