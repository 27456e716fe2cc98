/-
  The contract of slices.SortStableFunc at marks, over the seat's program: fewer than twenty are sorted by their classes, those of one class as they stood.
-/
import Derived.Test.YtdflokjpgbeniaaDoorSign
import Derived.Shelf.SlSortCmp.Insertion
import Derived.Outline
namespace Go.Proofs.YtdflokjpgbeniaaDoor
open Go.Shelf Go.RowKit Go.Lib Go.Sort
set_option linter.unusedVariables false

def insRen : Go.Shelf.Ren := ⟨fun | 20 => 76 | n => n, fun | 22 => 33 | 24 => 21 | 25 => 70 | n => n, fun n => n⟩
theorem insLays : SlLaysF.n20 Tryd.prog insRen := {
  mixed := by kernel_rfl
  f20 := ⟨Tryd.f76.name, by decide +kernel, Tryd.func76.trans (congrArg some (by kernel_rfl))⟩
  t0 := Tryd.underlying0
  a0 := Tryd.isAgg0
  z0 := Tryd.sizeOf0
  v0 := Tryd.zeroValue0
  t3 := Tryd.underlying3
  a3 := Tryd.isAgg3
  z3 := Tryd.sizeOf3
  v3 := Tryd.zeroValue3
  t4 := Tryd.underlying4
  a4 := Tryd.isAgg4
  z4 := Tryd.sizeOf4
  v4 := Tryd.zeroValue4
  t22 := Tryd.underlying33
  a22 := Tryd.isAgg33
  z22 := Tryd.sizeOf33
  v22 := Tryd.zeroValue33
  a24 := Tryd.isAgg21
  z24 := Tryd.sizeOf21
  t25 := Tryd.underlying70
  a25 := Tryd.isAgg70
  z25 := Tryd.sizeOf70
  v25 := Tryd.zeroValue70 }

/-- How marks compare. -/
def cmpZ (x y : Int) : Int := classZ x - classZ y

theorem class_range (r : Int) : 0 ≤ classZ r ∧ classZ r ≤ 230 := by
  unfold classZ
  split
  · omega
  · split <;> omega

theorem cmp_calls (x y : Int) (w : World) :
    Calls Tryd.prog 47 #[.int .i32 x, .int .i32 y] w fun e w' => e = .returned (.int .i64 (cmpZ x y)) ∧ w' = w := by
  have hx := class_range x
  have hy := class_range y
  have h1 := fun wx => class_calls x wx
  have h2 := fun wx => class_calls y wx
  unfold cmpZ
  generalize classZ x = a at *
  generalize classZ y = b at *
  go_enter Tryd.func47, Tryd.ntmps47
  go_wp2_with fail
  refine (h1 w).mono ?_
  rintro e wx ⟨rfl, hwx⟩
  have hwx := hwx.symm
  subst hwx
  go_wp2_with fail
  refine (h2 w).mono ?_
  rintro e wx ⟨rfl, hwx⟩
  have hwx := hwx.symm
  subst hwx
  go_wp2
  go_ret
  exact ⟨rfl, rfl⟩

theorem enter47 : ∀ args w, (callFunc 47 args).run Tryd.prog w = .ok (.enter 47 args) w := fun args w => by kernel_rfl

theorem ins_calls (blk off cap : Nat) (d : Array Int) (w : World) (hH : Holds (Value.int .i32) w blk off d) (hsz : d.size < 4611686018427387904) :
    Calls Tryd.prog 76 #[.slice (some ⟨blk, off, none⟩) d.size cap, .int .i64 (0 : Nat), .int .i64 d.size, .func (.func 47) #[] #[]] w fun e w' =>
      e = .returned (.tuple #[]) ∧ ∃ n, w' = (putRow (Value.int .i32) w blk off (Sort.insertionSort (ltOf cmpZ) d 0 d.size)).drewN n :=
  Any.insertionSortCmpFunc_one insLays (Value.int .i32) (fun _ => rfl) cmpZ 47 #[] blk off cap 0 d.size d w enter47
    (fun m os dk _ x y => (cmp_calls x y _).mono fun e w' ⟨he, hw⟩ => ⟨he, 0, hw⟩) hH (Nat.zero_le _) (Nat.le_refl _) hsz

/-- What the sort leaves. -/
def sorted (d : Array Int) : Array Int := Sort.insertionSort (ltOf cmpZ) d 0 d.size

theorem stable_calls (blk off cap : Nat) (d : Array Int) (w : World) (hH : Holds (Value.int .i32) w blk off d) (hn : d.size < 20) :
    Calls Tryd.prog 60 #[.slice (some ⟨blk, off, none⟩) d.size cap, .int .i64 d.size, .func (.func 47) #[] #[]] w fun e w' =>
      e = .returned (.tuple #[]) ∧ ∃ n, w' = (putRow (Value.int .i32) w blk off (sorted d)).drewN n := by
  have hi := ins_calls blk off cap d w hH (by omega)
  unfold sorted
  generalize Sort.insertionSort (ltOf cmpZ) d 0 d.size = ds at *
  generalize d.size = n at *
  have h1 : ¬ (20 : Int) ≤ (n : Int) := by omega
  have h2 : ¬ (20 : Int) < (n : Int) := by omega
  go_enter Tryd.func60, Tryd.ntmps60
  go_wp2_with fail
  refine wp_loop_rounds 1 ?_
  rw [rounds_succ]
  go_wp2_with fail
  refine hi.mono ?_
  rintro e w1 ⟨rfl, m, hw1⟩
  go_wp2_with fail
  refine wp_loop_rounds 1 ?_
  rw [rounds_succ]
  go_wp2
  go_end0
  exact ⟨rfl, m, rfl⟩

theorem sort_calls (blk off cap : Nat) (d : Array Int) (w : World) (hH : Holds (Value.int .i32) w blk off d) (hn : d.size < 20) :
    Calls Tryd.prog 46 #[.slice (some ⟨blk, off, none⟩) d.size cap, .func (.func 47) #[] #[]] w fun e w' =>
      e = .returned (.tuple #[]) ∧ ∃ n, w' = (putRow (Value.int .i32) w blk off (sorted d)).drewN n := by
  have hi := stable_calls blk off cap d w hH hn
  generalize sorted d = ds at *
  generalize d.size = n at *
  go_enter Tryd.func46, Tryd.ntmps46
  go_wp2_with fail
  refine hi.mono ?_
  rintro e w1 ⟨rfl, m, hw1⟩
  go_wp2
  go_end0
  exact ⟨rfl, m, rfl⟩

theorem ins_none (p : Option Addr) (cap : Nat) (w : World) :
    Calls Tryd.prog 76 #[.slice p 0 cap, .int .i64 0, .int .i64 0, .func (.func 47) #[] #[]] w fun e w' => e = .returned (.tuple #[]) ∧ w' = w := by
  go_enter Tryd.func76, Tryd.ntmps76
  go_wp2_with fail
  refine wp_loop_rounds 1 ?_
  rw [rounds_succ]
  go_wp2
  go_end0
  exact ⟨rfl, rfl⟩
theorem stable_none (p : Option Addr) (cap : Nat) (w : World) :
    Calls Tryd.prog 60 #[.slice p 0 cap, .int .i64 0, .func (.func 47) #[] #[]] w fun e w' => e = .returned (.tuple #[]) ∧ w' = w := by
  have hi := ins_none p cap w
  go_enter Tryd.func60, Tryd.ntmps60
  go_wp2_with fail
  refine wp_loop_rounds 1 ?_
  rw [rounds_succ]
  go_wp2_with fail
  refine hi.mono ?_
  rintro e wx ⟨rfl, hwx⟩
  have hwx := hwx.symm
  subst hwx
  go_wp2_with fail
  refine wp_loop_rounds 1 ?_
  rw [rounds_succ]
  go_wp2
  go_end0
  exact ⟨rfl, rfl⟩
theorem sort_none (p : Option Addr) (cap : Nat) (w : World) :
    Calls Tryd.prog 46 #[.slice p 0 cap, .func (.func 47) #[] #[]] w fun e w' => e = .returned (.tuple #[]) ∧ w' = w := by
  have hi := stable_none p cap w
  go_enter Tryd.func46, Tryd.ntmps46
  go_wp2_with fail
  refine hi.mono ?_
  rintro e wx ⟨rfl, hwx⟩
  have hwx := hwx.symm
  subst hwx
  go_wp2
  go_end0
  exact ⟨rfl, rfl⟩
end Go.Proofs.YtdflokjpgbeniaaDoor
