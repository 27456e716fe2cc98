/-
  The contracts of the document's disk: noughts, step, Read, Write, Flush, over the seat's program. Appends to what is owned, whatever the elements; appends and copies as steps of a walk. Plain facts of runs.
-/
import Derived.Test.YtcjfhfalffngjaaCRPure
import Derived.Laws.Concat
namespace Go.Proofs.Ytcjfhfalffngjaa
open Go.RowKit
set_option maxRecDepth 100000
set_option linter.unusedVariables false
set_option linter.unusedSimpArgs false

theorem info5 : ∃ i z, Try.prog.info? 5 = some i ∧ i.zero = some z ∧ i.size = 1 ∧ i.bytes = 1 ∧ z.cells = #[Value.int .u8 0] := by
  have h : (Try.prog.info? 5).map (fun i => (i.zero.map Value.cells, i.size, i.bytes)) = some (some #[Value.int .u8 0], 1, 1) := by kernel_rfl
  cases hq : Try.prog.info? 5 with
  | none => rw [hq] at h; cases h
  | some i =>
    rw [hq] at h
    simp only [Option.map_some, Option.some.injEq, Prod.mk.injEq] at h
    obtain ⟨h1, h2, h3⟩ := h
    cases hz : i.zero with
    | none => rw [hz] at h1; cases h1
    | some z =>
      rw [hz] at h1
      exact ⟨i, z, rfl, hz, h2, h3, Option.some.inj h1⟩
def zerosL (n : Nat) : List UInt8 := List.replicate n 0
theorem secV_zeros (n : Nat) : secV (zerosL n) = List.replicate n (.int .u8 0) := by simp [secV, zerosL, List.map_replicate]
theorem made_bytes (n : Nat) : madeCells #[Value.int .u8 0] (n * 1) = (secV (zerosL n)).toArray := by
  rw [secV_zeros]
  unfold madeCells
  apply Array.ext
  · simp
  · intro i h1 h2
    have hi : i % (#[Value.int .u8 0] : Array Value).size < (#[Value.int .u8 0] : Array Value).size := Nat.mod_lt _ (by simp)
    simp only [Array.getElem_map, Array.getElem_range, List.getElem_toArray, List.getElem_replicate]
    rw [getElem!_pos #[Value.int .u8 0] _ hi]
    simp
theorem makeB_run (n : Nat) (hn : n ≤ 1000) (w : World) : (Instr.makeSlice 105 (.int .i64 n) (.int .i64 n)).run Try.prog w = .ok (.slice (some ⟨w.heap.size, 0, none⟩) n n) (w.alloc (.cells (secV (zerosL n)).toArray 5)) := by
  obtain ⟨i, z, h1, h2, h3, h4, h5⟩ := info5
  have := run_make (P := Try.prog) w 105 5 i z Try.underlying105 h1 h2 .i64 .i64 n n (by omega) (Int.le_refl _) (by rw [h4]; omega) (by omega)
  rw [h3, h5, Int.toNat_natCast, made_bytes] at this
  exact this

theorem noughts_calls (n : Nat) (hn : n ≤ 1000) (w : World) : Calls Try.prog 57 #[.int .i64 n] w fun e w' => e = .returned (.string ⟨(zerosL n).toArray⟩) ∧ ∃ o, w' = w.alloc o := by
  have hmk := makeB_run n hn w
  have hcv := conv_bytes (w.alloc (.cells (secV (zerosL n)).toArray 5)) w.heap.size 0 (zerosL n) n n (by simp [zerosL]) (fun j v hv => by
    rw [Nat.zero_add, cell_of_row _ _ j _ 5 (0, 0) (heap_alloc_new w _)]
    simpa using hv)
  obtain ⟨Z, hZ⟩ : ∃ Z, secV (zerosL n) = Z := ⟨_, rfl⟩
  rw [hZ] at hmk hcv
  clear hZ
  go_enter Try.func57, Try.ntmps57
  go_wp2_with fail
  go_ret
  exact ⟨rfl, _, rfl⟩

section
variable {w0 w : World}
theorem RefIn.low {rb : Nat} {r : DK} {l2 : List Res} (h : RefIn w0 w rb r l2) : Below w0.heap.size w0 w := by
  obtain ⟨_, _, _, H⟩ := h.mem
  exact H.below
end

variable (w0 w : World) (rb : Nat) (r : DK) (l2 : List Res)

def RStepEnd (e : Ending) (w' : World) : Prop := e = .returned (.int .i64 (noE r.flushE)) ∧ RefIn w0 w' rb r.rstep l2
theorem rstep_calls (h : RefIn w0 w rb r l2) : Calls Try.prog 60 #[.pointer (some ⟨rb, 0, none⟩)] w fun e w' => RStepEnd w0 rb r l2 e w' := by
  obtain ⟨v0, v1, v2, H⟩ := h.mem
  have hok := h.ok.rstep
  have hlf := h.ok.left
  have q3 : w.cell? ⟨rb, 3, none⟩ = some (.int .i64 r.left) := H.cellAt (.head _) rfl
  have f3 : w.frozen? ⟨rb, 3, none⟩ = false := H.frozenAt (.head _) 3
  have q4 : w.cell? ⟨rb, 4, none⟩ = some (.bool r.down) := H.cellAt (.head _) rfl
  have f4 : w.frozen? ⟨rb, 4, none⟩ = false := H.frozenAt (.head _) 4
  obtain ⟨kept, now, wr, down, left⟩ := r
  simp only at *
  have HH := hide H
  have Hok := hide hok
  clear H h hok
  unfold RStepEnd
  cases down with
  | true =>
    have hst : DK.rstep ⟨kept, now, wr, true, left⟩ = ⟨kept, now, wr, true, left⟩ := rfl
    have hfe : DK.flushE ⟨kept, now, wr, true, left⟩ = some 10 := rfl
    rw [hst] at Hok ⊢
    rw [hfe]
    clear hst hfe
    go_enter Try.func60, Try.ntmps60
    go_wp2_with fail
    go_ret
    exact ⟨rfl, unhide Hok, v0, v1, v2, unhide HH⟩
  | false =>
    by_cases h0 : left = 0
    · subst h0
      have hst : DK.rstep ⟨kept, now, wr, false, 0⟩ = ⟨kept, now, wr, true, -1⟩ := rfl
      have hfe : DK.flushE ⟨kept, now, wr, false, 0⟩ = some 10 := rfl
      rw [hst] at Hok ⊢
      rw [hfe]
      clear hst hfe
      go_enter Try.func60, Try.ntmps60
      go_wp2_with fail
      go_ret
      exact ⟨rfl, unhide Hok, v0, v1, v2, ((unhide HH).store [] 4 (.bool true) _ rfl).store [] 3 (.int .i64 (-1)) _ rfl⟩
    · have hfl : DK.fall ⟨kept, now, wr, false, left⟩ = false := by simp [DK.fall, h0]
      have hfe : DK.flushE ⟨kept, now, wr, false, left⟩ = none := by simp [DK.flushE, hfl]
      rw [hfe]
      by_cases hp : 0 < left
      · have hst : DK.rstep ⟨kept, now, wr, false, left⟩ = ⟨kept, now, wr, false, left - 1⟩ := by simp [DK.rstep, h0, hp]
        rw [hst] at Hok ⊢
        clear hst hfl hfe
        go_enter Try.func60, Try.ntmps60
        go_wp2_with fail
        go_ret
        exact ⟨rfl, unhide Hok, v0, v1, v2, (unhide HH).store [] 3 _ _ rfl⟩
      · have hst : DK.rstep ⟨kept, now, wr, false, left⟩ = ⟨kept, now, wr, false, left⟩ := by simp [DK.rstep, h0, hp]
        rw [hst] at Hok ⊢
        clear hst hfl hfe
        go_enter Try.func60, Try.ntmps60
        go_wp2_with fail
        go_ret
        exact ⟨rfl, unhide Hok, v0, v1, v2, unhide HH⟩

def RReadEnd (i : Int) (e : Ending) (w' : World) : Prop := e = .returned (.tuple #[.string ⟨(r.readB i).toArray⟩, .int .i64 (noE (r.readE i))]) ∧ w' = w
theorem rread_calls (h : RefIn w0 w rb r l2) (i : Int) : Calls Try.prog 19 #[.pointer (some ⟨rb, 0, none⟩), .int .i64 i] w fun e w' => RReadEnd w r i e w' := by
  obtain ⟨v0, v1, v2, H⟩ := h.mem
  have q1 : w.cell? ⟨rb, 1, none⟩ = some v1 := H.cellAt (.head _) rfl
  have q4 : w.cell? ⟨rb, 4, none⟩ = some (.bool r.down) := H.cellAt (.head _) rfl
  have hpos := h.ok.pos
  obtain ⟨g, cap, hv1, _, _⟩ := row_shape (H.rowAt (.tail _ (.tail _ (.head _)))) hpos
  subst hv1
  unfold RReadEnd DK.readE DK.readB
  cases hdn : r.down with
  | true =>
    rw [hdn] at q4
    clear q1 H h
    go_enter Try.func19, Try.ntmps19
    go_wp2_with fail
    go_ret2
    exact ⟨rfl, rfl⟩
  | false =>
    rw [hdn] at q4
    cases hh : r.has i with
    | false =>
      have hi : ¬ (0 ≤ i ∧ i < (r.now.length : Int)) := by intro h; simp [DK.has, h] at hh
      obtain ⟨n, hn⟩ : ∃ n, r.now.length = n := ⟨_, rfl⟩
      rw [hn] at q1 hi
      clear H h hdn hh hpos hn
      by_cases h0 : i < 0
      · clear hi
        go_enter Try.func19, Try.ntmps19
        go_wp2_with fail
        go_ret2
        exact ⟨rfl, rfl⟩
      · have hge : (n : Int) ≤ i := by omega
        clear hi
        go_enter Try.func19, Try.ntmps19
        go_wp2_with fail
        go_ret2
        exact ⟨rfl, rfl⟩
    | true =>
      have hi : 0 ≤ i ∧ i < (r.now.length : Int) := by simpa [DK.has] using hh
      obtain ⟨k, rfl⟩ : ∃ k : Nat, i = k := ⟨i.toNat, by omega⟩
      have hk : k < r.now.length := by omega
      have hkz : (k : Int) < (r.now.length : Int) := by omega
      have hc := H.rowCell (.tail _ (.tail _ (.head _))) (wantV_get hk)
      simp only [Bool.not_true, Bool.or_self, Bool.false_eq_true, if_false, Int.toNat_natCast]
      obtain ⟨n, hn⟩ : ∃ n, r.now.length = n := ⟨_, rfl⟩
      rw [hn] at q1 hk hkz
      clear H h hdn hh hi hn hpos
      go_enter Try.func19, Try.ntmps19
      go_wp2_with fail
      go_ret2
      exact ⟨rfl, rfl⟩
#print axioms rread_calls
end Go.Proofs.Ytcjfhfalffngjaa
namespace Go.Proofs.Ytcjfhfalffngjaa
open Go.RowKit
set_option maxRecDepth 100000
set_option linter.unusedVariables false
set_option linter.unusedSimpArgs false

/-- What the table of types says of an element. -/
def Info (e : TypeId) (k bytes : Nat) : Prop := ∃ i z, Try.prog.info? e = some i ∧ i.zero = some z ∧ i.size = k ∧ i.bytes = bytes ∧ z.cells.size = k
theorem info_of {e : TypeId} {k bytes : Nat} (h : (Try.prog.info? e).map (fun i => (i.zero.map fun z => z.cells.size, i.size, i.bytes)) = some (some k, k, bytes)) : Info e k bytes := by
  cases hq : Try.prog.info? e with
  | none => rw [hq] at h; cases h
  | some i =>
    rw [hq] at h
    simp only [Option.map_some, Option.some.injEq, Prod.mk.injEq] at h
    obtain ⟨h1, h2, h3⟩ := h
    cases hz : i.zero with
    | none => rw [hz] at h1; cases h1
    | some z =>
      rw [hz] at h1
      exact ⟨i, z, hq, hz, h2, h3, Option.some.inj h1⟩
theorem infoS : Info 9 1 16 := info_of (by kernel_rfl)
theorem infoT : Info 107 2 24 := info_of (by kernel_rfl)
theorem infoC : Info 54 3 40 := info_of (by kernel_rfl)
theorem infoD : Info 36 1 24 := info_of (by kernel_rfl)

section
variable {w0 w : World}
/-- What a slice names is laid behind a row. -/
theorem Hold.append (l1 : List Res) {v : Value} {e : TypeId} {k n bytes : Nat} {xs : List Value} {l2 : List Res} (H : Hold w0 w (l1 ++ .row v e k n xs :: l2)) (t ty : TypeId) (ht : Try.prog.underlying t = some (.slice e)) (hi : Info e k bytes) (hk : 0 < k) (hb : bytes ≤ 1000) (p : Option Addr) (m c : Nat) (news : List Value) (hl : news.length = m * k)
    (hp : 0 < m → ∃ b off, p = some ⟨b, off, none⟩ ∧ ∀ j u, news[j]? = some u → w.cell? ⟨b, off + j, none⟩ = some u) (hp0 : p = none → m = 0 ∧ c = 0) (h1 : ∀ u ∈ news, u.oneCell' = true) (hn : n + m ≤ 1000000) :
    ∃ v' w', (Builtin.append_ #[t, t] ty #[v, .slice p m c]).run Try.prog w = .ok v' w' ∧ Hold w0 w' (l1 ++ .row v' e k (n + m) (xs ++ news) :: l2) ∧ Kept (fun x => 0 < blkN v x) w w' := by
  obtain ⟨i, z, hi1, hz, hsz, hby, hzs⟩ := hi
  have hown : w.ownsRow w0.heap.size e k v n xs := H.rowAt (by simp)
  cases p with
  | none =>
    obtain ⟨rfl, rfl⟩ := hp0 rfl
    have hn0 : news = [] := List.eq_nil_of_length_eq_zero (by simpa using hl)
    subst hn0
    refine ⟨v, w, ?_, by simpa using H, Kept.refl _ w⟩
    obtain ⟨p', c', rfl, hnc, _⟩ := row_slice hown
    cases p' <;> simp [Builtin.append_, run_underlying ht, sizeOf, typeInfo, hi1, Builtin.lenOf, Builtin.firstCells, hnc, storeCells]
  | some a =>
    have ha : ∀ j u, news[j]? = some u → w.cell? (a.add j) = some u := fun j u hj => by
      have hm : 0 < m := by
        rcases Nat.eq_zero_or_pos m with h0 | h0
        · subst h0
          have : news = [] := List.eq_nil_of_length_eq_zero (by simpa using hl)
          subst this
          simp at hj
        · exact h0
      obtain ⟨b, off, hpa, hc⟩ := hp hm
      injection hpa with hpa
      subst hpa
      rw [add_plain]
      exact hc j u hj
    obtain ⟨v', w', hr, ho, hg, _, hat⟩ := run_append_own_at (P := Try.prog) w w0.heap.size t ty e i z k bytes ht hi1 hz hsz hby hzs hk v n xs hown a m c news hl ha h1 (by unfold maxLen; omega) (by have : (n + m) * bytes ≤ 1000000 * 1000 := Nat.mul_le_mul hn hb; omega) H.size
    refine ⟨v', w', hr, H.grow l1 hg ho (hat.imp id fun h => ⟨_, h, Nat.le_refl _⟩), (Kept.refl _ w).grown hg fun x hx _ => blkN_pos.2 hx⟩
end

/-- An append whose run is known, as one operation of a plain region. -/
theorem wpList_appendI {P : Program} {ops : Array Oper} {rest : List Oper} {o : Oper} {a : Act} {w : World} {Q : Exit → Act → World → Prop} (hgd : o.guard = none) (d x : Operand) (dT sT : TypeId) (ho : o.op = Op.call { callee := Callee.builtin Builtin.append, args := #[d, x], argTypes := #[dT, sT] })
    (v u : Value) (hd : a.eval d = v) (hx : a.eval x = u) {v' : Value} {w' : World} (hr : (Builtin.append_ #[dT, sT] o.type #[v, u]).run P w = .ok v' w') (h : wpList P ops Q rest (a.put o.dst v') w') : wpList P ops Q (o :: rest) a w := by
  refine wpList_plain hgd fun K hK => ?_
  unfold Oper.wp
  simp [execOp, ho, resolve, invoke, builtin, hd, hx, hr, Result.andThen]
  exact hK _ _ h
#print axioms Hold.append
#print axioms wpList_appendI
end Go.Proofs.Ytcjfhfalffngjaa
