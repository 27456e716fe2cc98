/-
  The contract of disk.New, over the seat's program.
-/
import Derived.Test.YtcjfhfalffngjaaDRead
import Derived.KernelRfl
namespace Go.Proofs.Ytcjfhfalffngjaa
open Go.RowKit
set_option maxRecDepth 100000
set_option linter.unusedSimpArgs false
set_option linter.unusedVariables false

def nought140 : Array Value := (List.replicate 140 (Value.int .u8 0)).toArray
theorem size140 : nought140.size = 140 := by unfold nought140; rw [List.size_toArray, List.length_replicate]
theorem nought_at (j : Nat) (h : j < nought140.size) : nought140[j] = .int .u8 0 := by
  have h1 : nought140[j] ∈ nought140.toList := Array.getElem_mem_toList h
  exact (List.mem_replicate.1 (show nought140[j] ∈ List.replicate 140 (Value.int .u8 0) from h1)).2
theorem info102 : ∃ i z, Try.prog.info? 102 = some i ∧ i.zero = some z ∧ i.size = 140 ∧ i.bytes = 140 ∧ z.cells = nought140 := by
  have h : (Try.prog.info? 102).map (fun i => (i.zero.map Value.cells, i.size, i.bytes)) = some (some nought140, 140, 140) := by kernel_rfl
  cases hq : Try.prog.info? 102 with
  | none => rw [hq] at h; cases h
  | some i =>
    rw [hq] at h
    simp only [Option.map_some, Option.some.injEq, Prod.mk.injEq] at h
    obtain ⟨h1, h2, h3⟩ := h
    cases hz : i.zero with
    | none => rw [hz] at h1; cases h1
    | some z =>
      rw [hz] at h1
      exact ⟨i, z, rfl, hz, h2, h3, Option.some.inj h1⟩

theorem flatS_nought (n : Nat) : flatS (List.replicate n nought) = List.replicate (n * 140) (.int .u8 0) := by
  unfold flatS
  rw [List.map_replicate]
  apply List.eq_replicate_iff.2
  refine ⟨by rw [chunk_len (k := 140) (fun x hx => by rw [(List.mem_replicate.1 hx).2, secV_length, nought_length]), List.length_replicate], fun b hb => ?_⟩
  obtain ⟨c, hc, hb⟩ := List.mem_flatten.1 hb
  rw [(List.mem_replicate.1 hc).2] at hb
  obtain ⟨x, hx, rfl⟩ := List.mem_map.1 hb
  rw [(List.mem_replicate.1 hx).2]
  rfl
theorem made_noughts (n : Nat) : madeCells nought140 (n * 140) = (flatS (List.replicate n nought)).toArray := by
  rw [flatS_nought]
  unfold madeCells
  apply Array.ext
  · rw [Array.size_map, Array.size_range, List.size_toArray, List.length_replicate]
  · intro i h1 h2
    have hi : i % nought140.size < nought140.size := Nat.mod_lt _ (by rw [size140]; omega)
    simp only [Array.getElem_map, Array.getElem_range, List.getElem_toArray, List.getElem_replicate]
    rw [getElem!_pos nought140 _ hi]
    exact nought_at _ hi
theorem make_run (n : Nat) (hn : n ≤ 130) (w : World) : (Instr.makeSlice 94 (.int .i64 n) (.int .i64 n)).run Try.prog w = .ok (.slice (some ⟨w.heap.size, 0, none⟩) n n) (w.alloc (.cells (flatS (List.replicate n nought)).toArray 102)) := by
  obtain ⟨i, z, h1, h2, h3, h4, h5⟩ := info102
  have := run_make (P := Try.prog) w 94 102 i z Try.underlying94 h1 h2 .i64 .i64 n n (by omega) (Int.le_refl _) (by rw [h4]; omega) (by omega)
  rw [h3, h5, Int.toNat_natCast, made_noughts] at this
  exact this

variable (w0 w : World) (l2 : List Res)

theorem new_bad (n : Int) (hn : n < 1 ∨ 130 < n) :
    Calls Try.prog 12 #[.int .i64 n] w fun e w' => e = .returned (.tuple #[.pointer none, .iface 93 (.int .i64 1)]) ∧ w' = w := by
  by_cases h1 : n < 1
  · go_enter Try.func12, Try.ntmps12
    go_wp2_with fail
    go_ret2
    exact ⟨rfl, rfl⟩
  · have h2 : 130 < n := hn.resolve_left h1
    go_enter Try.func12, Try.ntmps12
    go_wp2_with fail
    go_ret2
    exact ⟨rfl, rfl⟩

def NewEnd (m : Nat) (e : Ending) (w' : World) : Prop := ∃ db, e = .returned (.tuple #[.pointer (some ⟨db, 0, none⟩), .nilIface]) ∧ DiskIn w0 w' db (newP m) l2

set_option maxHeartbeats 1000000 in
theorem new_calls (h : Hold w0 w l2) (m : Nat) (h1 : 0 < m) (h2 : m ≤ 130) :
    Calls Try.prog 12 #[.int .i64 m] w fun e w' => NewEnd w0 l2 m e w' := by
  have hmk := make_run m (by omega)
  obtain ⟨Z, hZ⟩ : ∃ Z, flatS (List.replicate m nought) = Z := ⟨_, rfl⟩
  rw [hZ] at hmk
  have HH := hide h
  have HZ := hide hZ
  have z1 : ¬ (m : Int) < 1 := by omega
  have z2 : ¬ 130 < (m : Int) := by omega
  clear hZ h
  go_enter Try.func12, Try.ntmps12
  go_wp2_with fail
  have h3 := ((unhide HH).nilRow 104 141).lit 102 140 m Z (by rw [← unhide HZ, flatS_nought, List.length_replicate]) (by omega)
  have h4 := h3.lit 102 140 m Z (by rw [← unhide HZ, flatS_nought, List.length_replicate]) (by omega)
  rw [World.size_alloc] at h4
  have h5 := h4.made 97 [.slice (some ⟨w.heap.size, 0, none⟩) m m, .slice (some ⟨w.heap.size + 1, 0, none⟩) m m, .slice none 0 0, .bool false, .int .i64 (-1)]
  have h6 := h4.made 97 [.slice (some ⟨w.heap.size + 1, 0, none⟩) m m, .slice (some ⟨w.heap.size, 0, none⟩) m m, .slice none 0 0, .bool false, .int .i64 (-1)]
  rw [World.size_alloc, World.size_alloc] at h5 h6
  have H5 := hide h5
  have H6 := hide h6
  have hlen : (newP m).now.length = m := by simp [newP]
  have hrow : ∀ v, rowS v (List.replicate m nought) = .row v 102 140 m Z := fun v => by unfold rowS; rw [unhide HZ, List.length_replicate]
  have Hl := hide hlen
  have Hrow := hide hrow
  clear h3 h4 h5 h6 hlen hrow
  go_region
  · go_wp2_with fail
    go_ret2
    refine ⟨_, rfl, newP_ok h1 h2, w.heap.size, m, w.heap.size + 1, m, .slice none 0 0, ?_⟩
    rw [unhide Hl]
    refine ⟨Nat.le_refl _, by omega, Nat.le_refl _, by omega, ?_⟩
    have h7 := (((unhide H5).front [_, _]).front [_]).drew
    show Hold w0 _ (_ :: rowS _ (List.replicate m nought) :: rowS _ (List.replicate m nought) :: _)
    rw [unhide Hrow, unhide Hrow]
    exact h7
  · go_wp2_with fail
    go_ret2
    refine ⟨_, rfl, newP_ok h1 h2, w.heap.size + 1, m, w.heap.size, m, .slice none 0 0, ?_⟩
    rw [unhide Hl]
    refine ⟨Nat.le_refl _, by omega, Nat.le_refl _, by omega, ?_⟩
    have h7 := (unhide H6).drew
    show Hold w0 _ (_ :: rowS _ (List.replicate m nought) :: rowS _ (List.replicate m nought) :: _)
    rw [unhide Hrow, unhide Hrow]
    exact h7
#print axioms new_calls
end Go.Proofs.Ytcjfhfalffngjaa
