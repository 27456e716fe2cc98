/-
  The contract of key.elementWeight, over the seat's program.
-/
import Derived.Test.YtdflokjpgbeniaaDoorFold
import Derived.WalkMore
import Derived.BigQuiet
import Derived.Outline
namespace Go.Proofs.YtdflokjpgbeniaaDoor
open Go.RowKit

/-- The elements as their weights rise. -/
def orderB : ByteArray := ⟨#[32, 45, 46, 95, 48, 49, 50, 51, 52, 53, 54, 55, 56, 57, 97, 98, 99, 67, 100, 101, 102, 103, 104, 105, 106, 107, 108, 109, 110, 111, 112, 113, 114, 115, 116, 117, 118, 119, 120, 121, 122, 207, 131]⟩

theorem orderB_size : orderB.size = 43 := rfl
/-- .. from the third on. -/
def orderTail : ByteArray := ⟨#[46, 95, 48, 49, 50, 51, 52, 53, 54, 55, 56, 57, 97, 98, 99, 67, 100, 101, 102, 103, 104, 105, 106, 107, 108, 109, 110, 111, 112, 113, 114, 115, 116, 117, 118, 119, 120, 121, 122, 207, 131]⟩

def markB768 : ByteArray := ⟨#[204, 128]⟩
set_option maxRecDepth 100000 in
theorem index_768 (w : World) :
    Calls Tryd.prog 57 #[.string orderB, .int .i32 768] w fun e w' => e = .returned (.int .i64 (-1)) ∧ Below w.heap.size w w' := by
  have hV : ∀ wx, Calls Tryd.prog 68 #[.int .i32 768] wx fun e w' => e = .returned (.bool true) ∧ w' = wx := fun wx => Tryd.utf8_ValidRune 768 wx
  have hix : ∀ wx, (Instr.index 9 (.string orderB) (.int .i64 1)).run Tryd.prog wx = .ok (.int .u8 45) wx := fun wx => by kernel_rfl
  have hsl : ∀ wx, (Instr.slice 9 (.string orderB) (some (.int .i64 2)) none none).run Tryd.prog wx = .ok (.string orderTail) wx := fun wx => by kernel_rfl
  have hsz := orderB_size
  have henc : Utf8.encode 768 = markB768 := by decide +kernel
  have hmsz : markB768.size = 2 := rfl
  have hix2 : ∀ wx, (Instr.index 9 (.string markB768) (.int .i64 1)).run Tryd.prog wx = .ok (.int .u8 128) wx := fun wx => by kernel_rfl
  have hIB : ∀ wx, Calls Tryd.prog 67 #[.string orderTail, .int .u8 128] wx fun e w' => e = .returned (.int .i64 (-1)) ∧ w' = wx := fun wx => Tryd.strings_IndexByte orderTail 128 wx
  go_enter Tryd.func57, Tryd.ntmps57
  go_wp2_with fail
  refine (hV w).mono ?_
  rintro e wx ⟨rfl, hwx⟩
  have hwx := hwx.symm
  subst hwx
  go_wp2_with fail
  go_step3
  go_wp2_with fail
  refine wp_loop_rounds 1 ?_
  rw [rounds_succ]
  go_wp2_with fail
  go_step3
  go_wp2_with fail
  go_quiet (fail)
  have hbq := below_drewN (Below.refl w.heap.size w) nq
  go_wp2_with fail
  generalize w.drewN nq = wq at *
  go_quiet ((go_at_call 67; refine Calls.quiet_of_same (hIB _)))
  go_wp2
  rw [Exit.noGoto_ret]
  go_wp2
  rw [Exit.noGoto_ret]
  go_wp2
  go_ret
  exact ⟨rfl, below_drewN hbq nq⟩
def markB769 : ByteArray := ⟨#[204, 129]⟩
set_option maxRecDepth 100000 in
theorem index_769 (w : World) :
    Calls Tryd.prog 57 #[.string orderB, .int .i32 769] w fun e w' => e = .returned (.int .i64 (-1)) ∧ Below w.heap.size w w' := by
  have hV : ∀ wx, Calls Tryd.prog 68 #[.int .i32 769] wx fun e w' => e = .returned (.bool true) ∧ w' = wx := fun wx => Tryd.utf8_ValidRune 769 wx
  have hix : ∀ wx, (Instr.index 9 (.string orderB) (.int .i64 1)).run Tryd.prog wx = .ok (.int .u8 45) wx := fun wx => by kernel_rfl
  have hsl : ∀ wx, (Instr.slice 9 (.string orderB) (some (.int .i64 2)) none none).run Tryd.prog wx = .ok (.string orderTail) wx := fun wx => by kernel_rfl
  have hsz := orderB_size
  have henc : Utf8.encode 769 = markB769 := by decide +kernel
  have hmsz : markB769.size = 2 := rfl
  have hix2 : ∀ wx, (Instr.index 9 (.string markB769) (.int .i64 1)).run Tryd.prog wx = .ok (.int .u8 129) wx := fun wx => by kernel_rfl
  have hIB : ∀ wx, Calls Tryd.prog 67 #[.string orderTail, .int .u8 129] wx fun e w' => e = .returned (.int .i64 (-1)) ∧ w' = wx := fun wx => Tryd.strings_IndexByte orderTail 129 wx
  go_enter Tryd.func57, Tryd.ntmps57
  go_wp2_with fail
  refine (hV w).mono ?_
  rintro e wx ⟨rfl, hwx⟩
  have hwx := hwx.symm
  subst hwx
  go_wp2_with fail
  go_step3
  go_wp2_with fail
  refine wp_loop_rounds 1 ?_
  rw [rounds_succ]
  go_wp2_with fail
  go_step3
  go_wp2_with fail
  go_quiet (fail)
  have hbq := below_drewN (Below.refl w.heap.size w) nq
  go_wp2_with fail
  generalize w.drewN nq = wq at *
  go_quiet ((go_at_call 67; refine Calls.quiet_of_same (hIB _)))
  go_wp2
  rw [Exit.noGoto_ret]
  go_wp2
  rw [Exit.noGoto_ret]
  go_wp2
  go_ret
  exact ⟨rfl, below_drewN hbq nq⟩
def markB776 : ByteArray := ⟨#[204, 136]⟩
set_option maxRecDepth 100000 in
theorem index_776 (w : World) :
    Calls Tryd.prog 57 #[.string orderB, .int .i32 776] w fun e w' => e = .returned (.int .i64 (-1)) ∧ Below w.heap.size w w' := by
  have hV : ∀ wx, Calls Tryd.prog 68 #[.int .i32 776] wx fun e w' => e = .returned (.bool true) ∧ w' = wx := fun wx => Tryd.utf8_ValidRune 776 wx
  have hix : ∀ wx, (Instr.index 9 (.string orderB) (.int .i64 1)).run Tryd.prog wx = .ok (.int .u8 45) wx := fun wx => by kernel_rfl
  have hsl : ∀ wx, (Instr.slice 9 (.string orderB) (some (.int .i64 2)) none none).run Tryd.prog wx = .ok (.string orderTail) wx := fun wx => by kernel_rfl
  have hsz := orderB_size
  have henc : Utf8.encode 776 = markB776 := by decide +kernel
  have hmsz : markB776.size = 2 := rfl
  have hix2 : ∀ wx, (Instr.index 9 (.string markB776) (.int .i64 1)).run Tryd.prog wx = .ok (.int .u8 136) wx := fun wx => by kernel_rfl
  have hIB : ∀ wx, Calls Tryd.prog 67 #[.string orderTail, .int .u8 136] wx fun e w' => e = .returned (.int .i64 (-1)) ∧ w' = wx := fun wx => Tryd.strings_IndexByte orderTail 136 wx
  go_enter Tryd.func57, Tryd.ntmps57
  go_wp2_with fail
  refine (hV w).mono ?_
  rintro e wx ⟨rfl, hwx⟩
  have hwx := hwx.symm
  subst hwx
  go_wp2_with fail
  go_step3
  go_wp2_with fail
  refine wp_loop_rounds 1 ?_
  rw [rounds_succ]
  go_wp2_with fail
  go_step3
  go_wp2_with fail
  go_quiet (fail)
  have hbq := below_drewN (Below.refl w.heap.size w) nq
  go_wp2_with fail
  generalize w.drewN nq = wq at *
  go_quiet ((go_at_call 67; refine Calls.quiet_of_same (hIB _)))
  go_wp2
  rw [Exit.noGoto_ret]
  go_wp2
  rw [Exit.noGoto_ret]
  go_wp2
  go_ret
  exact ⟨rfl, below_drewN hbq nq⟩
def markB807 : ByteArray := ⟨#[204, 167]⟩
set_option maxRecDepth 100000 in
theorem index_807 (w : World) :
    Calls Tryd.prog 57 #[.string orderB, .int .i32 807] w fun e w' => e = .returned (.int .i64 (-1)) ∧ Below w.heap.size w w' := by
  have hV : ∀ wx, Calls Tryd.prog 68 #[.int .i32 807] wx fun e w' => e = .returned (.bool true) ∧ w' = wx := fun wx => Tryd.utf8_ValidRune 807 wx
  have hix : ∀ wx, (Instr.index 9 (.string orderB) (.int .i64 1)).run Tryd.prog wx = .ok (.int .u8 45) wx := fun wx => by kernel_rfl
  have hsl : ∀ wx, (Instr.slice 9 (.string orderB) (some (.int .i64 2)) none none).run Tryd.prog wx = .ok (.string orderTail) wx := fun wx => by kernel_rfl
  have hsz := orderB_size
  have henc : Utf8.encode 807 = markB807 := by decide +kernel
  have hmsz : markB807.size = 2 := rfl
  have hix2 : ∀ wx, (Instr.index 9 (.string markB807) (.int .i64 1)).run Tryd.prog wx = .ok (.int .u8 167) wx := fun wx => by kernel_rfl
  have hIB : ∀ wx, Calls Tryd.prog 67 #[.string orderTail, .int .u8 167] wx fun e w' => e = .returned (.int .i64 (-1)) ∧ w' = wx := fun wx => Tryd.strings_IndexByte orderTail 167 wx
  go_enter Tryd.func57, Tryd.ntmps57
  go_wp2_with fail
  refine (hV w).mono ?_
  rintro e wx ⟨rfl, hwx⟩
  have hwx := hwx.symm
  subst hwx
  go_wp2_with fail
  go_step3
  go_wp2_with fail
  refine wp_loop_rounds 1 ?_
  rw [rounds_succ]
  go_wp2_with fail
  go_step3
  go_wp2_with fail
  go_quiet (fail)
  have hbq := below_drewN (Below.refl w.heap.size w) nq
  go_wp2_with fail
  generalize w.drewN nq = wq at *
  go_quiet ((go_at_call 67; refine Calls.quiet_of_same (hIB _)))
  go_wp2
  rw [Exit.noGoto_ret]
  go_wp2
  rw [Exit.noGoto_ret]
  go_wp2
  go_ret
  exact ⟨rfl, below_drewN hbq nq⟩
def sigmaB : ByteArray := ⟨#[207, 131]⟩
set_option maxRecDepth 100000 in
theorem index_963 (w : World) :
    Calls Tryd.prog 57 #[.string orderB, .int .i32 963] w fun e w' => e = .returned (.int .i64 41) ∧ Below w.heap.size w w' := by
  have hV : ∀ wx, Calls Tryd.prog 68 #[.int .i32 963] wx fun e w' => e = .returned (.bool true) ∧ w' = wx := fun wx => Tryd.utf8_ValidRune 963 wx
  have hix : ∀ wx, (Instr.index 9 (.string orderB) (.int .i64 1)).run Tryd.prog wx = .ok (.int .u8 45) wx := fun wx => by kernel_rfl
  have hix3 : ∀ wx, (Instr.index 9 (.string orderB) (.int .i64 41)).run Tryd.prog wx = .ok (.int .u8 207) wx := fun wx => by kernel_rfl
  have hsl : ∀ wx, (Instr.slice 9 (.string orderB) (some (.int .i64 2)) none none).run Tryd.prog wx = .ok (.string orderTail) wx := fun wx => by kernel_rfl
  have hsz := orderB_size
  have henc : Utf8.encode 963 = sigmaB := by decide +kernel
  have hmsz : sigmaB.size = 2 := rfl
  have hix2 : ∀ wx, (Instr.index 9 (.string sigmaB) (.int .i64 1)).run Tryd.prog wx = .ok (.int .u8 131) wx := fun wx => by kernel_rfl
  have hix0 : ∀ wx, (Instr.index 9 (.string sigmaB) (.int .i64 0)).run Tryd.prog wx = .ok (.int .u8 207) wx := fun wx => by kernel_rfl
  have hIB : ∀ wx, Calls Tryd.prog 67 #[.string orderTail, .int .u8 131] wx fun e w' => e = .returned (.int .i64 40) ∧ w' = wx := fun wx => Tryd.strings_IndexByte orderTail 131 wx
  go_enter Tryd.func57, Tryd.ntmps57
  go_wp2_with fail
  refine (hV w).mono ?_
  rintro e wx ⟨rfl, hwx⟩
  have hwx := hwx.symm
  subst hwx
  go_wp2_with fail
  go_step3
  go_wp2_with fail
  refine wp_loop_rounds 1 ?_
  rw [rounds_succ]
  go_wp2_with fail
  go_step3
  go_wp2_with fail
  go_quiet (fail)
  have hbq := below_drewN (Below.refl w.heap.size w) nq
  go_wp2_with fail
  generalize w.drewN nq = wq at *
  go_quiet ((go_at_call 67; refine Calls.quiet_of_same (hIB _)))
  have hbq2 := below_drewN hbq nq
  go_wp2_with fail
  generalize wq.drewN nq = wq2 at *
  refine wp_loop_rounds 2 ?_
  rw [rounds_succ]
  go_wp2_with fail
  go_quiet (fail)
  have hbq3 := below_drewN hbq2 nq
  go_wp2_with fail
  generalize wq2.drewN nq = wq3 at *
  rw [rounds_succ]
  go_wp2
  rw [Exit.noGoto_ret]
  go_wp2
  rw [Exit.noGoto_ret]
  go_wp2
  go_ret
  exact ⟨rfl, hbq3⟩
end Go.Proofs.YtdflokjpgbeniaaDoor
