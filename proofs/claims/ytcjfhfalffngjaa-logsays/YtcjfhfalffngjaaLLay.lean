/-
  The contract of the log's lay: sectors are written, one behind the other, and kept.
-/
import Derived.Test.YtcjfhfalffngjaaLSec
import Derived.Deep.RegionHeldLaw
namespace Go.Proofs.Ytcjfhfalffngjaa
open Go.RowKit Go.Lib
set_option maxRecDepth 100000
set_option linter.unusedVariables false
set_option linter.unusedSimpArgs false

theorem wrap_in (n : Int) (h : -9223372036854775808 ≤ n ∧ n ≤ 9223372036854775807) : IntKind.i64.wrap n = n := by rw [IntKind.wrap_i64]; omega

/-- The error, and the disk behind it. -/
def layP : List (List UInt8) → DK → Nat → Option Int × DK
  | [], d, _ => (d.flushE, d.flushed)
  | s :: r, d, a => match d.writeE (a : Int) s with
    | some e => (some e, d.written (a : Int) s)
    | none => layP r (d.written (a : Int) s) (a + 1)
theorem written_wr (d : DK) (i : Int) (s : List UInt8) : (d.written i s).wr.length ≤ d.wr.length + 1 := by
  unfold DK.written
  split
  · omega
  split
  · rw [stepped_wr]; omega
  · simp only [DK.laid, stepped_wr, List.length_append, List.length_singleton]; omega
def LayEnd (w0 : World) (db : Nat) (d : DK) (l2 : List Res) (a : Nat) (l : List (List UInt8)) (e : Ending) (w' : World) : Prop := e = .returned (errV (layP l d a).1) ∧ DiskIn w0 w' db (layP l d a).2 l2

set_option maxHeartbeats 2000000 in
theorem lay_calls {w0 w : World} {db lb : Nat} {d : DK} {l2 : List Res} {fr many first used : Nat} (h : DiskIn w0 w db d l2) (hL : logR lb db fr many first used ∈ l2) (hfr : fr ≤ 1000) (a : Nat) (ha : a ≤ 1000) (l : List (List UInt8)) (hl : l.length ≤ 1000) (hw : d.wr.length + l.length ≤ 100000)
    (p : Option Addr) (cap : Nat) (hp : 0 < l.length → ∃ b off, p = some ⟨b, off, none⟩ ∧ ∀ w', Hold w0 w' l2 → ∀ j s, l[j]? = some s → w'.cell? ⟨b, off + j, none⟩ = some (.string (mkB s))) :
    Calls Try.prog 83 #[.pointer (some ⟨lb, 0, none⟩), .int .i64 a, .slice p l.length cap] w fun e w' => LayEnd w0 db d l2 (fr + a) l e w' := by
  obtain ⟨n, hn⟩ : ∃ n, l.length = n := ⟨_, rfl⟩
  rw [hn] at hl hw hp ⊢
  have Hn := hide hn
  have HP := hide hp
  have HL := hide hL
  have H0 : Hid (DiskIn w0 w db d l2) := h
  have HE0 : Hid (layP l d (fr + a) = layP (l.drop 0) d (fr + a + 0)) := rfl
  have Hw := hide hw
  clear hp hn hL h
  unfold LayEnd
  go_enter Try.func83, Try.ntmps83
  go_wp2_with fail
  go_loopg [12] (n + 1) (fun g vi wr => ∃ (i : Nat) (di : DK), n - i < g ∧ i ≤ n ∧ vi = .int .i64 i ∧ Hid (DiskIn w0 wr db di l2) ∧ Hid (layP l d (fr + a) = layP (l.drop i) di (fr + a + i)) ∧ Hid (di.wr.length ≤ d.wr.length + i))
  case atStart => exact ⟨0, d, by omega, by omega, rfl, H0, HE0, Nat.le_refl _⟩
  case round =>
    clear H0 HE0
    obtain ⟨i, di, hg, hi, rfl, HD, HE, HW⟩ := hrel
    have k0 : wr.cell? ⟨lb, 0, none⟩ = some (.pointer (some ⟨db, 0, none⟩)) := (unhide HD).cellAt (unhide HL) rfl
    have k1 : wr.cell? ⟨lb, 1, none⟩ = some (.int .i64 fr) := (unhide HD).cellAt (unhide HL) rfl
    by_cases hin : i < n
    · have hiz : (i : Int) < (n : Int) := by omega
      obtain ⟨b, off, hpp, hcs⟩ := unhide HP (by omega)
      subst hpp
      have hil : i < l.length := by rw [unhide Hn]; exact hin
      obtain ⟨s, hs⟩ : ∃ s, l[i]? = some s := ⟨_, List.getElem?_eq_getElem hil⟩
      have q0 := hcs wr (unhide HD).hold i s hs
      have hdrop : l.drop i = s :: l.drop (i + 1) := by
        rw [List.drop_eq_getElem_cons hil]
        rw [List.getElem?_eq_getElem hil] at hs
        rw [Option.some.inj hs]
      have ew := fun wx (hx : DiskIn w0 wx db di l2) => write_calls w0 wx db di l2 hx (by have := unhide HW; have := unhide Hw; omega) ((fr : Int) + (a : Int) + (i : Int)) (mkB s)
      unfold WriteEnd at ew
      have hic : ((fr : Int) + (a : Int) + (i : Int)) = ((fr + a + i : Nat) : Int) := by omega
      have hsl : (mkB s).data.toList = s := mkB_list s
      simp only [hsl] at ew
      have hE := unhide HE
      rw [hdrop, layP] at hE
      have hwr := written_wr di ((fr : Int) + (a : Int) + (i : Int)) s
      rw [← hic] at hE
      have HS0 : Hid (wr.drew.cell? ⟨lb, 0, none⟩ = some (.pointer (some ⟨db, 0, none⟩)) ∧ wr.drew.cell? ⟨lb, 1, none⟩ = some (.int .i64 fr)) := ⟨k0, k1⟩
      have HCells : Hid (∀ wx dx, DiskIn w0 wx db dx l2 → wx.cell? ⟨lb, 0, none⟩ = some (.pointer (some ⟨db, 0, none⟩)) ∧ wx.cell? ⟨lb, 1, none⟩ = some (.int .i64 fr)) := fun wx dx hx => ⟨hx.cellAt (unhide HL) rfl, hx.cellAt (unhide HL) rfl⟩
      obtain ⟨S, hS⟩ : ∃ S, mkB s = S := ⟨_, rfl⟩
      rw [hS] at q0 ew
      have hwz : IntKind.i64.wrap (IntKind.i64.wrap ((fr : Int) + (a : Int)) + (i : Int)) = (fr : Int) + (a : Int) + (i : Int) := by
        rw [wrap_in ((fr : Int) + (a : Int)) (by omega), wrap_in _ (by omega)]
      have HDr := hide (unhide HD).drew
      cases ho : di.writeE ((fr : Int) + (a : Int) + (i : Int)) s with
      | some k =>
        rw [ho] at ew hE
        simp only [errV] at ew hE
        have ew2 : ∀ wx, DiskIn w0 wx db di l2 → Calls Try.prog 16 #[.pointer (some ⟨db, 0, none⟩), .int .i64 (IntKind.i64.wrap (IntKind.i64.wrap ((fr : Int) + (a : Int)) + (i : Int))), .string S] wx fun e w' => e = .returned (.iface 93 (.int .i64 k)) ∧ DiskIn w0 w' db (di.written ((fr : Int) + (a : Int) + (i : Int)) s) l2 := fun wx hx => by rw [hwz]; exact ew wx hx
        have EW := hide ew2
        have HE2 := hide hE
        clear ew ew2 hwz hE ho hdrop hs hcs hsl hS hwr HE HD hil hic
        go_wp2_with fail
        go_region_held (fun w' => w'.cell? ⟨lb, 0, none⟩ = some (.pointer (some ⟨db, 0, none⟩)) ∧ w'.cell? ⟨lb, 1, none⟩ = some (.int .i64 fr)) (first | exact unhide HS0 | exact unhide HS6) ((go_at_call 16; refine (unhide EW _ ?_).mono ?_; exact unhide HDr; rintro e w6 ⟨rfl, hD6⟩; have HS6 : Hid (w6.cell? ⟨lb, 0, none⟩ = some (.pointer (some ⟨db, 0, none⟩)) ∧ w6.cell? ⟨lb, 1, none⟩ = some (.int .i64 fr)) := unhide HCells _ _ hD6; have HD6 := hide hD6; clear hD6))
        all_goals
          go_wp2_with fail
          go_ret
          rw [unhide HE2]
          exact ⟨rfl, unhide HD6⟩
      | none =>
        rw [ho] at ew hE
        simp only [errV] at ew hE
        have ew2 : ∀ wx, DiskIn w0 wx db di l2 → Calls Try.prog 16 #[.pointer (some ⟨db, 0, none⟩), .int .i64 (IntKind.i64.wrap (IntKind.i64.wrap ((fr : Int) + (a : Int)) + (i : Int))), .string S] wx fun e w' => e = .returned .nilIface ∧ DiskIn w0 w' db (di.written ((fr : Int) + (a : Int) + (i : Int)) s) l2 := fun wx hx => by rw [hwz]; exact ew wx hx
        have EW := hide ew2
        have HE2 := hide hE
        have HW2 := hide hwr
        clear ew ew2 hwz hE ho hdrop hs hcs hsl hS hwr HE HD hil hic
        go_wp2_with fail
        go_region_held (fun w' => w'.cell? ⟨lb, 0, none⟩ = some (.pointer (some ⟨db, 0, none⟩)) ∧ w'.cell? ⟨lb, 1, none⟩ = some (.int .i64 fr)) (first | exact unhide HS0 | exact unhide HS6) ((go_at_call 16; refine (unhide EW _ ?_).mono ?_; exact unhide HDr; rintro e w6 ⟨rfl, hD6⟩; have HS6 : Hid (w6.cell? ⟨lb, 0, none⟩ = some (.pointer (some ⟨db, 0, none⟩)) ∧ w6.cell? ⟨lb, 1, none⟩ = some (.int .i64 fr)) := unhide HCells _ _ hD6; have HD6 := hide hD6; clear hD6))
        all_goals
          go_wp2_with fail
          go_roundg (n - i)
          case measure => omega
          case rel => exact ⟨i + 1, _, by omega, by omega, by simp, HD6, HE2, by have := unhide HW; have := unhide HW2; show _ ≤ _; omega⟩
    · have hiz : ¬ (i : Int) < (n : Int) := by omega
      have hie : i = n := by omega
      subst hie
      have hE := unhide HE
      rw [List.drop_of_length_le (by rw [unhide Hn]; exact Nat.le_refl _), layP] at hE
      have ef := flush_calls w0 wr db di l2 (unhide HD)
      unfold FlushEnd at ef
      have EF := hide ef
      have HE2 := hide hE
      clear ef hE HE HD
      go_wp2_with fail
      refine (unhide EF).mono ?_
      rintro e w6 ⟨rfl, hD6⟩
      have HD6 := hide hD6
      clear hD6
      go_wp2_with fail
      go_ret
      rw [unhide HE2]
      exact ⟨rfl, unhide HD6⟩
#print axioms lay_calls
end Go.Proofs.Ytcjfhfalffngjaa
