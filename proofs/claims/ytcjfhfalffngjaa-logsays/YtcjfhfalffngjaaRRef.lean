/-
  The contracts of the document's disk: noughts, step, Read, Write, Flush, over the seat's program.
-/
import Derived.Test.YtcjfhfalffngjaaRPure
import Derived.Laws.Concat
namespace Go.Proofs.Ytcjfhfalffngjaa
open Go.RowKit
set_option maxRecDepth 100000
set_option linter.unusedVariables false
set_option linter.unusedSimpArgs false

theorem info5 : ∃ i z, Try.prog.info? 5 = some i ∧ i.zero = some z ∧ i.size = 1 ∧ i.bytes = 1 ∧ z.cells = #[Value.int .u8 0] := by
  have h : (Try.prog.info? 5).map (fun i => (i.zero.map Value.cells, i.size, i.bytes)) = some (some #[Value.int .u8 0], 1, 1) := by kernel_rfl
  cases hq : Try.prog.info? 5 with
  | none => rw [hq] at h; cases h
  | some i =>
    rw [hq] at h
    simp only [Option.map_some, Option.some.injEq, Prod.mk.injEq] at h
    obtain ⟨h1, h2, h3⟩ := h
    cases hz : i.zero with
    | none => rw [hz] at h1; cases h1
    | some z =>
      rw [hz] at h1
      exact ⟨i, z, rfl, hz, h2, h3, Option.some.inj h1⟩
def zerosL (n : Nat) : List UInt8 := List.replicate n 0
theorem secV_zeros (n : Nat) : secV (zerosL n) = List.replicate n (.int .u8 0) := by simp [secV, zerosL, List.map_replicate]
theorem made_bytes (n : Nat) : madeCells #[Value.int .u8 0] (n * 1) = (secV (zerosL n)).toArray := by
  rw [secV_zeros]
  unfold madeCells
  apply Array.ext
  · simp
  · intro i h1 h2
    have hi : i % (#[Value.int .u8 0] : Array Value).size < (#[Value.int .u8 0] : Array Value).size := Nat.mod_lt _ (by simp)
    simp only [Array.getElem_map, Array.getElem_range, List.getElem_toArray, List.getElem_replicate]
    rw [getElem!_pos #[Value.int .u8 0] _ hi]
    simp
theorem makeB_run (n : Nat) (hn : n ≤ 1000) (w : World) : (Instr.makeSlice 105 (.int .i64 n) (.int .i64 n)).run Try.prog w = .ok (.slice (some ⟨w.heap.size, 0, none⟩) n n) (w.alloc (.cells (secV (zerosL n)).toArray 5)) := by
  obtain ⟨i, z, h1, h2, h3, h4, h5⟩ := info5
  have := run_make (P := Try.prog) w 105 5 i z Try.underlying105 h1 h2 .i64 .i64 n n (by omega) (Int.le_refl _) (by rw [h4]; omega) (by omega)
  rw [h3, h5, Int.toNat_natCast, made_bytes] at this
  exact this

theorem noughts_calls (n : Nat) (hn : n ≤ 1000) (w : World) : Calls Try.prog 57 #[.int .i64 n] w fun e w' => e = .returned (.string ⟨(zerosL n).toArray⟩) ∧ ∃ o, w' = w.alloc o := by
  have hmk := makeB_run n hn w
  have hcv := conv_bytes (w.alloc (.cells (secV (zerosL n)).toArray 5)) w.heap.size 0 (zerosL n) n n (by simp [zerosL]) (fun j v hv => by
    rw [Nat.zero_add, cell_of_row _ _ j _ 5 (0, 0) (heap_alloc_new w _)]
    simpa using hv)
  obtain ⟨Z, hZ⟩ : ∃ Z, secV (zerosL n) = Z := ⟨_, rfl⟩
  rw [hZ] at hmk hcv
  clear hZ
  go_enter Try.func57, Try.ntmps57
  go_wp2_with fail
  go_ret
  exact ⟨rfl, _, rfl⟩

section
variable {w0 w : World}
theorem RefIn.low {rb : Nat} {r : DK} {l2 : List Res} (h : RefIn w0 w rb r l2) : Below w0.heap.size w0 w := by
  obtain ⟨_, _, _, H⟩ := h.mem
  exact H.below
end

variable (w0 w : World) (rb : Nat) (r : DK) (l2 : List Res)

def RStepEnd (e : Ending) (w' : World) : Prop := e = .returned (.int .i64 (noE r.flushE)) ∧ RefIn w0 w' rb r.rstep l2
theorem rstep_calls (h : RefIn w0 w rb r l2) : Calls Try.prog 60 #[.pointer (some ⟨rb, 0, none⟩)] w fun e w' => RStepEnd w0 rb r l2 e w' := by
  obtain ⟨v0, v1, v2, H⟩ := h.mem
  have hok := h.ok.rstep
  have hlf := h.ok.left
  have q3 : w.cell? ⟨rb, 3, none⟩ = some (.int .i64 r.left) := H.cellAt (.head _) rfl
  have f3 : w.frozen? ⟨rb, 3, none⟩ = false := H.frozenAt (.head _) 3
  have q4 : w.cell? ⟨rb, 4, none⟩ = some (.bool r.down) := H.cellAt (.head _) rfl
  have f4 : w.frozen? ⟨rb, 4, none⟩ = false := H.frozenAt (.head _) 4
  obtain ⟨kept, now, wr, down, left⟩ := r
  simp only at *
  have HH := hide H
  have Hok := hide hok
  clear H h hok
  unfold RStepEnd
  cases down with
  | true =>
    have hst : DK.rstep ⟨kept, now, wr, true, left⟩ = ⟨kept, now, wr, true, left⟩ := rfl
    have hfe : DK.flushE ⟨kept, now, wr, true, left⟩ = some 10 := rfl
    rw [hst] at Hok ⊢
    rw [hfe]
    clear hst hfe
    go_enter Try.func60, Try.ntmps60
    go_wp2_with fail
    go_ret
    exact ⟨rfl, unhide Hok, v0, v1, v2, unhide HH⟩
  | false =>
    by_cases h0 : left = 0
    · subst h0
      have hst : DK.rstep ⟨kept, now, wr, false, 0⟩ = ⟨kept, now, wr, true, -1⟩ := rfl
      have hfe : DK.flushE ⟨kept, now, wr, false, 0⟩ = some 10 := rfl
      rw [hst] at Hok ⊢
      rw [hfe]
      clear hst hfe
      go_enter Try.func60, Try.ntmps60
      go_wp2_with fail
      go_ret
      exact ⟨rfl, unhide Hok, v0, v1, v2, ((unhide HH).store [] 4 (.bool true) _ rfl).store [] 3 (.int .i64 (-1)) _ rfl⟩
    · have hfl : DK.fall ⟨kept, now, wr, false, left⟩ = false := by simp [DK.fall, h0]
      have hfe : DK.flushE ⟨kept, now, wr, false, left⟩ = none := by simp [DK.flushE, hfl]
      rw [hfe]
      by_cases hp : 0 < left
      · have hst : DK.rstep ⟨kept, now, wr, false, left⟩ = ⟨kept, now, wr, false, left - 1⟩ := by simp [DK.rstep, h0, hp]
        rw [hst] at Hok ⊢
        clear hst hfl hfe
        go_enter Try.func60, Try.ntmps60
        go_wp2_with fail
        go_ret
        exact ⟨rfl, unhide Hok, v0, v1, v2, (unhide HH).store [] 3 _ _ rfl⟩
      · have hst : DK.rstep ⟨kept, now, wr, false, left⟩ = ⟨kept, now, wr, false, left⟩ := by simp [DK.rstep, h0, hp]
        rw [hst] at Hok ⊢
        clear hst hfl hfe
        go_enter Try.func60, Try.ntmps60
        go_wp2_with fail
        go_ret
        exact ⟨rfl, unhide Hok, v0, v1, v2, unhide HH⟩

def RReadEnd (i : Int) (e : Ending) (w' : World) : Prop := e = .returned (.tuple #[.string ⟨(r.readB i).toArray⟩, .int .i64 (noE (r.readE i))]) ∧ w' = w
theorem rread_calls (h : RefIn w0 w rb r l2) (i : Int) : Calls Try.prog 19 #[.pointer (some ⟨rb, 0, none⟩), .int .i64 i] w fun e w' => RReadEnd w r i e w' := by
  obtain ⟨v0, v1, v2, H⟩ := h.mem
  have q1 : w.cell? ⟨rb, 1, none⟩ = some v1 := H.cellAt (.head _) rfl
  have q4 : w.cell? ⟨rb, 4, none⟩ = some (.bool r.down) := H.cellAt (.head _) rfl
  have hpos := h.ok.pos
  obtain ⟨g, cap, hv1, _, _⟩ := row_shape (H.rowAt (.tail _ (.tail _ (.head _)))) hpos
  subst hv1
  unfold RReadEnd DK.readE DK.readB
  cases hdn : r.down with
  | true =>
    rw [hdn] at q4
    clear q1 H h
    go_enter Try.func19, Try.ntmps19
    go_wp2_with fail
    go_ret2
    exact ⟨rfl, rfl⟩
  | false =>
    rw [hdn] at q4
    cases hh : r.has i with
    | false =>
      have hi : ¬ (0 ≤ i ∧ i < (r.now.length : Int)) := by intro h; simp [DK.has, h] at hh
      obtain ⟨n, hn⟩ : ∃ n, r.now.length = n := ⟨_, rfl⟩
      rw [hn] at q1 hi
      clear H h hdn hh hpos hn
      by_cases h0 : i < 0
      · clear hi
        go_enter Try.func19, Try.ntmps19
        go_wp2_with fail
        go_ret2
        exact ⟨rfl, rfl⟩
      · have hge : (n : Int) ≤ i := by omega
        clear hi
        go_enter Try.func19, Try.ntmps19
        go_wp2_with fail
        go_ret2
        exact ⟨rfl, rfl⟩
    | true =>
      have hi : 0 ≤ i ∧ i < (r.now.length : Int) := by simpa [DK.has] using hh
      obtain ⟨k, rfl⟩ : ∃ k : Nat, i = k := ⟨i.toNat, by omega⟩
      have hk : k < r.now.length := by omega
      have hkz : (k : Int) < (r.now.length : Int) := by omega
      have hc := H.rowCell (.tail _ (.tail _ (.head _))) (wantV_get hk)
      simp only [Bool.not_true, Bool.or_self, Bool.false_eq_true, if_false, Int.toNat_natCast]
      obtain ⟨n, hn⟩ : ∃ n, r.now.length = n := ⟨_, rfl⟩
      rw [hn] at q1 hk hkz
      clear H h hdn hh hi hn hpos
      go_enter Try.func19, Try.ntmps19
      go_wp2_with fail
      go_ret2
      exact ⟨rfl, rfl⟩
#print axioms rread_calls
end Go.Proofs.Ytcjfhfalffngjaa
