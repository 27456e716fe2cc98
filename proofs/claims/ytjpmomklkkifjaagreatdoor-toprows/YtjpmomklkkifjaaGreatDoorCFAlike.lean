/-
  Names and paths that are written otherwise: what their parts and keys are. Plain facts; no Go text.
-/
import Derived.Test.YtjpmomklkkifjaaGreatDoorCSymMerge
import Derived.Test.YtjpmomklkkifjaaGreatDoorCFWalk
import Derived.Test.YtjpmomklkkifjaaGreatDoorCFoldW
namespace Go.Proofs.YtjpmomklkkifjaaGreatDoor.T
open Go.RowKit
set_option maxRecDepth 100000
set_option linter.unusedVariables false
set_option linter.unusedSimpArgs false

def otherR (rs : List Int) : List Int := (splitL rs).map swapZ

theorem enc_no47 {r : Int} (h : SmallR r) (h47 : r ≠ 47) : (47 : UInt8) ∉ Lib.encodeRune r := by
  obtain ⟨h0, h1⟩ := h
  rcases Int.lt_or_le r 128 with hl | hl
  · rw [enc_one h0 hl]
    intro e
    have e1 : (47 : UInt8) = r.toNat.toUInt8 := by simpa using e
    have e2 := congrArg UInt8.toNat e1
    rw [u8 _ (by omega)] at e2
    have : (47 : UInt8).toNat = 47 := rfl
    omega
  · rw [enc_two hl h1]
    intro e
    have e1 : (47 : UInt8) = (192 + r / 64).toNat.toUInt8 ∨ (47 : UInt8) = (128 + r % 64).toNat.toUInt8 := by simpa using e
    have h47 : (47 : UInt8).toNat = 47 := rfl
    rcases e1 with e1 | e1
    · have e2 := congrArg UInt8.toNat e1
      rw [u8 _ (by omega)] at e2
      omega
    · have e2 := congrArg UInt8.toNat e1
      rw [u8 _ (by omega)] at e2
      omega
theorem encL_no47 {rs : List Int} (h : ∀ r ∈ rs, SmallR r ∧ r ≠ 47) : (47 : UInt8) ∉ encL rs := by
  intro e
  obtain ⟨r, hr, hm⟩ := List.mem_flatMap.1 e
  exact enc_no47 (h r hr).1 (h r hr).2 hm
theorem isZ_47 : isZ 47 = false := by decide +kernel
theorem Name.no47 {rs : List Int} (h : Name rs) : ∀ r ∈ rs, SmallR r ∧ r ≠ 47 := fun r hr => ⟨h.small r hr, fun e => by
  have := h.signs r hr
  rw [e, isZ_47] at this
  cases this⟩
noncomputable def sg (p : ByteArray) : List Int := if p.toList = [46] then [46] else if p.toList = [46, 46] then [46, 46] else signsOf p
theorem toList_inj {a b : ByteArray} (h : a.data.toList = b.data.toList) : a = b := by
  cases a; cases b
  congr 1
  exact Array.toList_inj.1 h
noncomputable def otherPart (p : ByteArray) : ByteArray := encS (otherR (sg p))
end Go.Proofs.YtjpmomklkkifjaaGreatDoor.T
