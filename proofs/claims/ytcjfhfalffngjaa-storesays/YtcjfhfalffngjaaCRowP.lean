/-
  The contracts of the log's count and tell. The contracts of the document's ChangeBytes, of row.Parse and of the document's ChangeOf, over the seat's program.
-/
import Derived.Test.YtcjfhfalffngjaaCCPure
import Derived.Test.YtcjfhfalffngjaaCRowB
namespace Go.Proofs.Ytcjfhfalffngjaa
open Go.RowKit Go.Lib
set_option maxRecDepth 100000
set_option linter.unusedVariables false
set_option linter.unusedSimpArgs false

theorem count_calls (n : Nat) (hn : n ≤ 1000000) (w : World) :
    Calls Try.prog 81 #[.int .i64 n] w fun e w' => e = .returned (.string ⟨(leB n 4).toArray⟩) ∧ Below w.heap.size w w' := by
  have el := little_calls n 4 (by omega) (by omega) w
  have hw : IntKind.u32.wrap (n : Int) = (n : Int) := by rw [IntKind.wrap_u32]; omega
  have EL := hide el
  clear el
  go_enter Try.func81, Try.ntmps81
  go_wp2_with fail
  refine (unhide EL).mono ?_
  rintro e w1 ⟨rfl, hb⟩
  have HB := hide hb
  clear hb EL
  go_wp2_with fail
  go_ret
  exact ⟨rfl, unhide HB⟩

/-- A sector's bytes. -/
def tellP (kind : ByteArray) (n : Nat) (body : ByteArray) : ByteArray := kind ++ ⟨(leB n 4).toArray⟩ ++ ⟨(leB body.size 2).toArray⟩ ++ body
theorem tell_calls (kind : ByteArray) (hk : kind.size ≤ 1000) (n : Nat) (hn : n < 4294967296) (body : ByteArray) (hb : body.size ≤ 1000000) (w : World) :
    Calls Try.prog 82 #[.string kind, .int .u32 n, .string body] w fun e w' => e = .returned (.string (tellP kind n body)) ∧ Below w.heap.size w w' := by
  have el := little_calls n 4 hn (by omega) w
  have el2 := fun wx => little_calls body.size 2 (by omega) (by omega) wx
  have hw : IntKind.u32.wrap (body.size : Int) = (body.size : Int) := by rw [IntKind.wrap_u32]; omega
  have EL := hide el
  have EL2 := hide el2
  unfold tellP
  obtain ⟨b1, hb1⟩ : ∃ b : ByteArray, ⟨(leB n 4).toArray⟩ = b := ⟨_, rfl⟩
  obtain ⟨b2, hb2⟩ : ∃ b : ByteArray, ⟨(leB body.size 2).toArray⟩ = b := ⟨_, rfl⟩
  have z1 : b1.size = 4 := by rw [← hb1]; show (leB n 4).toArray.size = 4; rw [List.size_toArray, leB_length]
  have z2 : b2.size = 2 := by rw [← hb2]; show (leB body.size 2).toArray.size = 2; rw [List.size_toArray, leB_length]
  have z3 : (kind ++ b1).size = kind.size + 4 := by rw [ByteArray.size_append, z1]
  have z4 : (kind ++ b1 ++ b2).size = kind.size + 6 := by rw [ByteArray.size_append, z3, z2]
  rw [hb1] at EL ⊢
  simp only [hb2] at EL2 ⊢
  clear el el2 hb1 hb2
  go_enter Try.func82, Try.ntmps82
  go_wp2_with fail
  refine (unhide EL).mono ?_
  rintro e w1 ⟨rfl, hb1⟩
  have HB := hide hb1
  clear hb1 EL
  go_wp2_with fail
  refine (unhide EL2 _).mono ?_
  rintro e w2 ⟨rfl, hb2⟩
  have HB2 := hide ((unhide HB).trans (hb2.mono (unhide HB).size))
  clear hb2 EL2 HB
  go_wp2_with fail
  go_ret
  exact ⟨rfl, unhide HB2⟩
#print axioms tell_calls
#print axioms count_calls
end Go.Proofs.Ytcjfhfalffngjaa
namespace Go.Proofs.Ytcjfhfalffngjaa
open Go.RowKit
set_option maxRecDepth 100000
set_option linter.unusedVariables false
set_option linter.unusedSimpArgs false

theorem bytes_eq2 (c : ChD) (g : UInt8) (hg : g = if c.gone then 1 else 0) : (⟨[g, UInt8.ofNat c.key.size].toArray⟩ : ByteArray) ++ c.key ++ c.val = ⟨(bytesP c).toArray⟩ := by
  rw [app_mk, app_mk]
  congr 2
  unfold bytesP
  rw [hg]
  simp
theorem conv_two (w : World) (g k : UInt8) : (convert 105 9 (.slice (some ⟨w.heap.size, 0, none⟩) 2 2)).run Try.prog (w.alloc (.cells #[.int .u8 (g.toNat : Int), .int .u8 (k.toNat : Int)] 5)) = .ok (.string ⟨[g, k].toArray⟩) (w.alloc (.cells #[.int .u8 (g.toNat : Int), .int .u8 (k.toNat : Int)] 5)) :=
  conv_bytes _ w.heap.size 0 [g, k] 2 2 rfl (fun j v hv => by
    rw [Nat.zero_add, cell_of_row _ _ j _ 5 (0, 0) (heap_alloc_new w _)]
    simpa [secV] using hv)

def RBytesEnd (c : ChD) (w : World) (e : Ending) (w' : World) : Prop := e = .returned (.tuple #[.string ⟨(bytesE c).toArray⟩, .int .i64 (noE (checkP c))]) ∧ Below w.heap.size w w'

set_option maxHeartbeats 1000000 in
theorem rbytes_calls (c : ChD) (w : World) : Calls Try.prog 29 #[chV c] w fun e w' => RBytesEnd c w e w' := by
  have ec := fun wx => fault_calls c wx
  unfold RBytesEnd bytesE
  obtain ⟨B, hB⟩ : ∃ B, w.heap.size = B := ⟨_, rfl⟩
  have hbel0 : ∀ o, Below B w (w.alloc o) := fun o => (Below.refl _ _).alloc (by omega) o
  have hcell : ∀ wx, Below (B + 1) (w.alloc (.cells #[.string c.key, .string c.val, .bool c.gone] 54)) wx → wx.cell? ⟨B, 0, none⟩ = some (.string c.key) ∧ wx.cell? ⟨B, 1, none⟩ = some (.string c.val) ∧ wx.cell? ⟨B, 2, none⟩ = some (.bool c.gone) ∧ Below B w wx := fun wx hx => by
    have h0 : (w.alloc (.cells #[.string c.key, .string c.val, .bool c.gone] 54)).heap[B]? = some (.cells #[.string c.key, .string c.val, .bool c.gone] 54 (0, 0)) := by rw [← hB]; exact heap_alloc_new w _
    refine ⟨?_, ?_, ?_, (hbel0 _).trans (hx.mono (by omega))⟩
    · rw [cell_below hx (by show B < B + 1; omega), cell_of_row _ _ 0 _ _ _ h0]; rfl
    · rw [cell_below hx (by show B < B + 1; omega), cell_of_row _ _ 1 _ _ _ h0]; rfl
    · rw [cell_below hx (by show B < B + 1; omega), cell_of_row _ _ 2 _ _ _ h0]; rfl
  have HC := hide hcell
  cases hp : checkP c with
  | some k =>
    have hk0 := checkP_pos c k hp
    rw [hp] at ec
    simp only [noE, Option.getD_some, Option.isSome_some, if_true] at ec ⊢
    have EC := hide ec
    unfold chV at EC ⊢
    clear ec hcell hbel0 hp
    go_enter Try.func29, Try.ntmps29
    go_wp2_with fail
    refine (unhide EC _).mono ?_
    rintro e w2 ⟨rfl, hb2⟩
    have hb3 := (unhide HC w2 (by have := hb2; rw [World.size_alloc, hB] at this; exact this)).2.2.2
    have Hb3 := hide hb3
    clear hb2 hb3 EC
    go_wp2_with fail
    go_ret2
    exact ⟨rfl, by rw [hB]; exact unhide Hb3⟩
  | none =>
    rw [hp] at ec
    simp only [noE, Option.getD_none, Option.isSome_none, Bool.false_eq_true, if_false] at ec ⊢
    obtain ⟨_, _, hk48, hv44⟩ := checkP_none hp
    have EC := hide ec
    have hbe := fun g hg => bytes_eq2 c g hg
    obtain ⟨BP, hBP⟩ : ∃ BP : ByteArray, ⟨(bytesP c).toArray⟩ = BP := ⟨_, rfl⟩
    rw [hBP] at hbe ⊢
    obtain ⟨key, val, gone⟩ := c
    unfold chV at EC ⊢
    simp only at *
    have hkm : IntKind.u8.wrap (key.size : Int) = (key.size : Int) := by rw [IntKind.wrap_u8]; omega
    have hkn : ((UInt8.ofNat key.size).toNat : Int) = (key.size : Int) := by
      have : (UInt8.ofNat key.size).toNat = key.size := by
        rw [UInt8.toNat_ofNat']
        exact Nat.mod_eq_of_lt (by simp; omega)
      rw [this]
    have hcv := fun (wx : World) (g : UInt8) => conv_two wx g (UInt8.ofNat key.size)
    rw [hkn] at hcv
    have Hbe := hide hbe
    have Hcv := hide hcv
    clear ec hcell hbel0 hbe hp hBP hcv hkn
    go_enter Try.func29, Try.ntmps29
    go_wp2_with fail
    refine (unhide EC _).mono ?_
    rintro e w2 ⟨rfl, hb2⟩
    have hb2' : Below (B + 1) (w.alloc (.cells #[.string key, .string val, .bool gone] 54)) w2 := by have := hb2; rw [World.size_alloc, hB] at this; exact this
    obtain ⟨k0, k1, k2, hb3⟩ := unhide HC w2 hb2'
    have hsz2 : B + 1 ≤ w2.heap.size := by have := hb2'.size; rw [World.size_alloc, hB] at this; exact this
    have Hbf : Hid (∀ o, Below w.heap.size w (w2.alloc o)) := fun o => by rw [hB]; exact hb3.alloc (by omega) o
    have k0a : ∀ o, (w2.alloc o).cell? ⟨B, 0, none⟩ = some (.string key) := fun o => (unhide HC _ (hb2'.alloc hsz2 o)).1
    have k1a : ∀ o, (w2.alloc o).cell? ⟨B, 1, none⟩ = some (.string val) := fun o => (unhide HC _ (hb2'.alloc hsz2 o)).2.1
    clear hb2 hb2' EC hb3 HC hsz2
    obtain ⟨G, hG⟩ : ∃ G : UInt8, G = if gone then 1 else 0 := ⟨_, rfl⟩
    have hbe := unhide Hbe G hG
    have hcv := unhide Hcv w2 G
    obtain ⟨T2, hT2⟩ : ∃ T2 : ByteArray, ⟨[G, UInt8.ofNat key.size].toArray⟩ = T2 := ⟨_, rfl⟩
    have hT2s : T2.size = 2 := by rw [← hT2]; rfl
    rw [hT2] at hbe hcv
    clear hT2 Hbe Hcv
    cases gone with
    | true =>
      have hG1 : (G.toNat : Int) = 1 := by rw [hG]; rfl
      rw [hG1] at hcv
      clear hG hG1
      go_wp2_with fail
      go_ret2
      exact ⟨rfl, unhide Hbf _⟩
    | false =>
      have hG1 : (G.toNat : Int) = 0 := by rw [hG]; rfl
      rw [hG1] at hcv
      clear hG hG1
      go_wp2_with fail
      go_ret2
      exact ⟨rfl, unhide Hbf _⟩
#print axioms rbytes_calls
end Go.Proofs.Ytcjfhfalffngjaa
