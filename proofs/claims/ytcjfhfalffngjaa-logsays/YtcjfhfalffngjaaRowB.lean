/-
  The contracts of row.Bytes and of the document's ChangeBytes, over the seat's program.
-/
import Derived.Test.YtcjfhfalffngjaaRowC
import Derived.Deep.RegionHeldLaw
namespace Go.Proofs.Ytcjfhfalffngjaa
open Go.RowKit
set_option maxRecDepth 100000
set_option linter.unusedVariables false
set_option linter.unusedSimpArgs false

/-- I2. -/
def bytesP (c : ChD) : List UInt8 := (if c.gone then 1 else 0) :: UInt8.ofNat c.key.size :: (c.key.data.toList ++ c.val.data.toList)
def bytesE (c : ChD) : List UInt8 := if (checkP c).isSome then [] else bytesP c
theorem mk_list (s : ByteArray) : (⟨s.data.toList.toArray⟩ : ByteArray) = s := by cases s; simp
theorem app_mk (a : List UInt8) (s : ByteArray) : (⟨a.toArray⟩ : ByteArray) ++ s = ⟨(a ++ s.data.toList).toArray⟩ := by
  conv => lhs; rhs; rw [← mk_list s]
  exact ByteArray.mk_append_mk _ _
theorem bytes_eq (c : ChD) (g : UInt8) (hg : g = if c.gone then 1 else 0) (hk : c.key.size ≤ 48) : (⟨#[g]⟩ : ByteArray) ++ ⟨(leB c.key.size 1).toArray⟩ ++ c.key ++ c.val = ⟨(bytesP c).toArray⟩ := by
  have e1 : (⟨#[g]⟩ : ByteArray) ++ ⟨(leB c.key.size 1).toArray⟩ = ⟨([g] ++ leB c.key.size 1).toArray⟩ := ByteArray.mk_append_mk [g] _
  rw [e1, app_mk, app_mk]
  congr 2
  unfold bytesP leB leB
  rw [hg, Nat.mod_eq_of_lt (by omega)]
  rfl

def BytesEnd (c : ChD) (w : World) (e : Ending) (w' : World) : Prop := e = .returned (.tuple #[.string ⟨(bytesE c).toArray⟩, errV (checkP c)]) ∧ Below w.heap.size w w'

set_option maxHeartbeats 1000000 in
theorem bytes_calls (c : ChD) (w : World) : Calls Try.prog 28 #[chV c] w fun e w' => BytesEnd c w e w' := by
  have ec := fun wx => check_calls c wx
  unfold BytesEnd bytesE
  obtain ⟨B, hB⟩ : ∃ B, w.heap.size = B := ⟨_, rfl⟩
  have hbel0 : ∀ o, Below B w (w.alloc o) := fun o => (Below.refl _ _).alloc (by omega) o
  have Hbel0 := hide hbel0
  have hcell : ∀ wx, Below (B + 1) (w.alloc (.cells #[.string c.key, .string c.val, .bool c.gone] 54)) wx → wx.cell? ⟨B, 0, none⟩ = some (.string c.key) ∧ wx.cell? ⟨B, 1, none⟩ = some (.string c.val) ∧ wx.cell? ⟨B, 2, none⟩ = some (.bool c.gone) ∧ Below B w wx := fun wx hx => by
    have h0 : (w.alloc (.cells #[.string c.key, .string c.val, .bool c.gone] 54)).heap[B]? = some (.cells #[.string c.key, .string c.val, .bool c.gone] 54 (0, 0)) := by rw [← hB]; exact heap_alloc_new w _
    refine ⟨?_, ?_, ?_, (hbel0 _).trans (hx.mono (by omega))⟩
    · rw [cell_below hx (by show B < B + 1; omega), cell_of_row _ _ 0 _ _ _ h0]; rfl
    · rw [cell_below hx (by show B < B + 1; omega), cell_of_row _ _ 1 _ _ _ h0]; rfl
    · rw [cell_below hx (by show B < B + 1; omega), cell_of_row _ _ 2 _ _ _ h0]; rfl
  have HC := hide hcell
  cases hp : checkP c with
  | some k =>
    rw [hp] at ec
    simp only [errV, Option.isSome_some, if_true] at ec ⊢
    have EC := hide ec
    unfold chV at EC ⊢
    clear ec hcell hbel0
    go_enter Try.func28, Try.ntmps28
    go_wp2_with fail
    refine (unhide EC _).mono ?_
    rintro e w2 ⟨rfl, hb2⟩
    have hb3 := (unhide HC w2 (by have := hb2; rw [World.size_alloc, hB] at this; exact this)).2.2.2
    have Hb3 := hide hb3
    clear hb2 hb3 EC
    go_wp2_with fail
    go_ret2
    exact ⟨rfl, by rw [hB]; exact unhide Hb3⟩
  | none =>
    rw [hp] at ec
    simp only [errV, Option.isSome_none, Bool.false_eq_true, if_false] at ec ⊢
    obtain ⟨_, _, hk48, hv44⟩ := checkP_none hp
    have EC := hide ec
    have hbe := fun g hg => bytes_eq c g hg hk48
    have EL := hide (fun wx => little_calls c.key.size 1 (by omega) (by omega) wx)
    obtain ⟨L1, hL1⟩ : ∃ L1 : ByteArray, ⟨(leB c.key.size 1).toArray⟩ = L1 := ⟨_, rfl⟩
    have hL1s : L1.size = 1 := by rw [← hL1]; show (leB c.key.size 1).toArray.size = 1; simp [leB_length]
    rw [hL1] at EL hbe
    obtain ⟨BP, hBP⟩ : ∃ BP : ByteArray, ⟨(bytesP c).toArray⟩ = BP := ⟨_, rfl⟩
    rw [hBP] at hbe ⊢
    obtain ⟨key, val, gone⟩ := c
    unfold chV at EC ⊢
    simp only at *
    have hkm : IntKind.u32.wrap (key.size : Int) = (key.size : Int) := by rw [IntKind.wrap_u32]; omega
    have Hbe := hide hbe
    clear ec hcell hbel0 hbe hp hL1 hBP
    go_enter Try.func28, Try.ntmps28
    go_wp2_with fail
    refine (unhide EC _).mono ?_
    rintro e w2 ⟨rfl, hb2⟩
    have hb2' : Below (B + 1) (w.alloc (.cells #[.string key, .string val, .bool gone] 54)) w2 := by have := hb2; rw [World.size_alloc, hB] at this; exact this
    obtain ⟨k0, k1, k2, hb3⟩ := unhide HC w2 hb2'
    have Hb2 := hide hb2'
    have hsz2 : B + 1 ≤ w2.heap.size := by have := hb2'.size; rw [World.size_alloc, hB] at this; exact this
    clear hb2 hb2' EC hb3
    have HS0 : Hid (w2.drew.cell? ⟨B, 0, none⟩ = some (.string key) ∧ w2.drew.cell? ⟨B, 1, none⟩ = some (.string val)) := ⟨k0, k1⟩
    cases gone with
    | true =>
      have hbe := unhide Hbe 1 rfl
      clear Hbe
      go_wp2_with fail
      go_region_held (fun w' => w'.cell? ⟨B, 0, none⟩ = some (.string key) ∧ w'.cell? ⟨B, 1, none⟩ = some (.string val)) (first | exact unhide HS5 | exact unhide HS0) ((go_at_call 61; refine (unhide EL _).mono ?_; rintro e w5 ⟨rfl, hb5⟩; have h5 := (unhide Hb2).drew.trans (hb5.mono hsz2); have HS5 : Hid (w5.cell? ⟨B, 0, none⟩ = some (.string key) ∧ w5.cell? ⟨B, 1, none⟩ = some (.string val)) := ⟨(unhide HC w5 h5).1, (unhide HC w5 h5).2.1⟩; have HB5 := hide (unhide HC w5 h5).2.2.2; clear h5 hb5))
      all_goals
        go_wp2_with fail
        go_ret2
        exact ⟨rfl, by rw [hB]; exact unhide HB5⟩
    | false =>
      have hbe := unhide Hbe 0 rfl
      clear Hbe
      go_wp2_with fail
      go_region_held (fun w' => w'.cell? ⟨B, 0, none⟩ = some (.string key) ∧ w'.cell? ⟨B, 1, none⟩ = some (.string val)) (first | exact unhide HS5 | exact unhide HS0) ((go_at_call 61; refine (unhide EL _).mono ?_; rintro e w5 ⟨rfl, hb5⟩; have h5 := (unhide Hb2).drew.trans (hb5.mono hsz2); have HS5 : Hid (w5.cell? ⟨B, 0, none⟩ = some (.string key) ∧ w5.cell? ⟨B, 1, none⟩ = some (.string val)) := ⟨(unhide HC w5 h5).1, (unhide HC w5 h5).2.1⟩; have HB5 := hide (unhide HC w5 h5).2.2.2; clear h5 hb5))
      all_goals
        go_wp2_with fail
        go_ret2
        exact ⟨rfl, by rw [hB]; exact unhide HB5⟩
#print axioms bytes_calls
end Go.Proofs.Ytcjfhfalffngjaa
