/-
  Whole sectors and writes: loaded, stored, built, copied. Plain facts of runs.
-/
import Derived.Test.YtcjfhfalffngjaaCDNew
import Derived.Great.BuildSlice
import Derived.Deep.WholeRow
namespace Go.Proofs.Ytcjfhfalffngjaa
open Go.RowKit
set_option maxRecDepth 100000
set_option linter.unusedSimpArgs false
set_option linter.unusedVariables false

theorem add_plain (b o j : Nat) : (⟨b, o, none⟩ : Addr).add j = ⟨b, o + j, none⟩ := by unfold Addr.add; split <;> simp_all
theorem info104 : ∃ i z, Try.prog.info? 104 = some i ∧ i.zero = some z ∧ i.size = 141 ∧ i.bytes = 152 ∧ z.cells = (Value.int .i64 0 :: List.replicate 140 (Value.int .u8 0)).toArray := by
  have h : (Try.prog.info? 104).map (fun i => (i.zero.map Value.cells, i.size, i.bytes)) = some (some (Value.int .i64 0 :: List.replicate 140 (Value.int .u8 0)).toArray, 141, 152) := by kernel_rfl
  cases hq : Try.prog.info? 104 with
  | none => rw [hq] at h; cases h
  | some i =>
    rw [hq] at h
    simp only [Option.map_some, Option.some.injEq, Prod.mk.injEq] at h
    obtain ⟨h1, h2, h3⟩ := h
    cases hz : i.zero with
    | none => rw [hz] at h1; cases h1
    | some z =>
      rw [hz] at h1
      exact ⟨i, z, rfl, hz, h2, h3, Option.some.inj h1⟩
theorem size102 : (Try.prog.info? 102).map (·.size) = some 140 := by obtain ⟨i, z, h, _, h2, _⟩ := info102; rw [h]; simp [h2]
theorem size104 : (Try.prog.info? 104).map (·.size) = some 141 := by obtain ⟨i, z, h, _, h2, _⟩ := info104; rw [h]; simp [h2]

/-- A whole value out of a row. -/
theorem loadAt_run {P : Program} (w : World) (t : TypeId) (n : Nat) (b off : Nat) (cs : List Value) (hsz : (P.info? t).map (·.size) = some n) (hag : ∀ w, (isAgg t).run P w = .ok true w) (hl : cs.length = n) (hc : ∀ j v, cs[j]? = some v → w.cell? ⟨b, off + j, none⟩ = some v) :
    (Instr.loadAt t (.pointer (some ⟨b, off, none⟩))).run P w = .ok (.agg cs.toArray) w := by
  have h1 := run_loadCells_list (P := P) w ⟨b, off, none⟩ cs (fun j v hv => by rw [add_plain]; exact hc j v hv)
  rw [hl] at h1
  cases hq : P.info? t with
  | none => rw [hq] at hsz; cases hsz
  | some i =>
    rw [hq] at hsz
    have h2 : i.size = n := by simpa using hsz
    simp [Instr.loadAt, Instr.sureAddr, loadVar, hag, sizeOf, typeInfo, hq, h2, h1]
/-- A whole value into a row. -/
theorem storeAt_run {P : Program} (w w' : World) (t : TypeId) (n : Nat) (b off : Nat) (cs : List Value) (hsz : (P.info? t).map (·.size) = some n) (hl : cs.length = n) (hs : (storeCells ⟨b, off, none⟩ cs 0).run P w = .ok () w') :
    (Instr.storeAt t (.pointer (some ⟨b, off, none⟩)) (.agg cs.toArray)).run P w = .ok () w' := by
  cases hq : P.info? t with
  | none => rw [hq] at hsz; cases hsz
  | some i =>
    rw [hq] at hsz
    have h2 : i.size = n := by simpa using hsz
    have h3 : (Value.agg cs.toArray).cells = cs.toArray := rfl
    simp [Instr.storeAt, Instr.sureAddr, storeVar, sizeOf, typeInfo, hq, h2, h3, hl, hs]
theorem agg102 (w : World) : (isAgg 102).run Try.prog w = .ok true w := by simp [isAgg, run_underlying Try.underlying102]
theorem agg104 (w : World) : (isAgg 104).run Try.prog w = .ok true w := by simp [isAgg, run_underlying Try.underlying104]

/-- Rows of elements of any size are copied. -/
theorem copy_run {P : Program} (w w' : World) (dT sT ty elem : TypeId) (k : Nat) (g o dLen dCap : Nat) (b off : Nat) (sLen sCap : Nat) (cs : List Value)
    (hu : P.underlying dT = some (.slice elem)) (hs : (P.info? elem).map (·.size) = some k) (hn : cs.length = Nat.min sLen dLen * k)
    (hsrc : ∀ j v, cs[j]? = some v → w.cell? ⟨b, off + j, none⟩ = some v) (hst : (storeCells ⟨g, o, none⟩ cs 0).run P w = .ok () w') :
    (Builtin.copy_ #[dT, sT] ty #[.slice (some ⟨g, o, none⟩) dLen dCap, .slice (some ⟨b, off, none⟩) sLen sCap]).run P w = .ok (goInt (Nat.min sLen dLen : Nat)) w' := by
  have hl := run_loadCells_list (P := P) w ⟨b, off, none⟩ cs (fun j v hv => by rw [add_plain]; exact hsrc j v hv)
  rw [hn] at hl
  cases hq : P.info? elem with
  | none => rw [hq] at hs; cases hs
  | some i =>
    have hi : i.size = k := by simpa [hq] using hs
    subst hi
    simp [Builtin.copy_, run_underlying hu, Builtin.lenOf, Builtin.firstCells, sizeOf, typeInfo, hq, hl, hst]
/-- A text is copied. -/
theorem copyStr_run {P : Program} (w w' : World) (dT sT ty elem : TypeId) (g o dLen dCap : Nat) (s : ByteArray)
    (hu : P.underlying dT = some (.slice elem)) (hs : (P.info? elem).map (·.size) = some 1) (hle : s.size ≤ dLen) (hst : (storeCells ⟨g, o, none⟩ (secV s.data.toList) 0).run P w = .ok () w') :
    (Builtin.copy_ #[dT, sT] ty #[.slice (some ⟨g, o, none⟩) dLen dCap, .string s]).run P w = .ok (goInt s.size) w' := by
  have hmin : Nat.min s.size dLen = s.size := Nat.min_eq_left hle
  have htk : List.take s.size (List.map (fun b : UInt8 => Value.int IntKind.u8 (b.toNat : Int)) s.data.toList) = secV s.data.toList := by
    rw [List.take_of_length_le (by rw [List.length_map]; exact Nat.le_refl _)]
    rfl
  cases hq : P.info? elem with
  | none => rw [hq] at hs; cases hs
  | some i =>
    simp [Builtin.copy_, run_underlying hu, Builtin.lenOf, Builtin.firstCells, sizeOf, typeInfo, hq, hmin]
    rw [htk, hst]
    simp [Result.andThen]

theorem foldl_set : ∀ (l : List Value) (k : Nat) (cs : Array Value), k + l.length ≤ cs.size → ((l.zipIdx k).foldl (fun (cs : Array Value) (x : Value × Nat) => cs.setIfInBounds x.2 x.1) cs).toList = cs.toList.take k ++ l ++ cs.toList.drop (k + l.length)
  | [], k, cs, _ => by simp
  | v :: l, k, cs, h => by
    rw [List.zipIdx_cons, List.foldl_cons, foldl_set l (k + 1) _ (by simp at h ⊢; omega), Array.toList_setIfInBounds]
    have := list_seg_step cs.toList k v l (by simp at h ⊢; omega)
    simpa [Nat.add_assoc, Nat.add_comm 1] using this
theorem fill_whole (cs v : Array Value) (n : Nat) (h1 : cs.size = n) (h2 : v.size = n) : Instr.fill (fun i => some (i * n, n)) cs [(0, .agg v)] = some v := by
  have h3 : (Value.agg v).cells = v := rfl
  simp only [Instr.fill, h3, h1, h2, ne_eq, not_true_eq_false, decide_false, Nat.zero_mul, Nat.zero_add, gt_iff_lt, Nat.lt_irrefl, Bool.or_self, Bool.false_eq_true, if_false]
  congr 1
  apply Array.toList_inj.1
  have h4 := foldl_set v.toList 0 cs (by simp; omega)
  rw [← Array.foldl_toList, Array.toList_zipIdx]
  refine h4.trans ?_
  rw [List.take_zero, List.nil_append, List.drop_eq_nil_of_le (by simp; omega), List.append_nil]
/-- A slice of one write. -/
theorem one_run (w : World) (cs : List Value) (hl : cs.length = 141) : (Instr.buildSlice 95 1 #[(0, .agg cs.toArray)]).run Try.prog w = .ok (.slice (some ⟨w.heap.size, 0, none⟩) 1 1) (w.alloc (.cells cs.toArray 104)) := by
  obtain ⟨i, z, h1, h2, h3, h4, h5⟩ := info104
  refine run_buildSlice w 95 104 1 _ _ i z Try.underlying95 h1 h2 (by rw [h3]; omega) (by rw [h3]; omega) ?_
  rw [h3]
  exact fill_whole _ _ 141 (by simp) (by simpa using hl)
theorem build104 (k : Int) (w : World) : (Instr.build 104 #[(0, .int .i64 k)]).run Try.prog w = .ok (.agg (Value.int .i64 k :: List.replicate 140 (Value.int .u8 0)).toArray) w :=
  run_build w 104 _ _ (by kernel_rfl)
theorem zero104 (w : World) : (zeroValue 104).run Try.prog w = .ok (.agg (Value.int .i64 0 :: List.replicate 140 (Value.int .u8 0)).toArray) w :=
  (zero_of_info (P := Try.prog) (t := 104) (n := 141) (by kernel_rfl)).1 w
/-- append, as one step of a region that draws. -/
theorem step_append_runI {P : Program} {ops : Array Oper} {o : Oper} {a : Act} {w : World} {K : Act → World → Prop} {Q : Exit → Act → World → Prop} {E : Prop}
    (hg : o.guard = none) (d x : Operand) (dT sT : TypeId) (hop : o.op = Op.call { callee := Callee.builtin Builtin.append, args := #[d, x], argTypes := #[dT, sT] })
    (v u : Value) (hd : a.eval d = v) (hx : a.eval x = u) {v' : Value} {w' : World} (hr : (Builtin.append_ #[dT, sT] o.type #[v, u]).run P w = .ok v' w') (hK : K (a.put o.dst v') w') :
    if Region.wanted o (yielded ops a.tmps) = true then Oper.wp P o a w K Q else E := by
  have hw : Region.wanted o (yielded ops a.tmps) = true := by simp [Region.wanted, hg]
  rw [if_pos hw]
  unfold Oper.wp
  simp [execOp, hop, resolve, invoke, builtin, hd, hx, hr, Result.andThen]
  exact hK


/-- A slice of one write, as one step. -/
theorem wp_one {o : Oper} {a : Act} {w : World} {K : Act → World → Prop} {Q : Exit → Act → World → Prop} (x : Operand) (ho : o.op = .buildSlice 95 1 #[(0, x)]) (cs : List Value) (hx : a.eval x = .agg cs.toArray) (hl : cs.length = 141)
    (h : K (a.put o.dst (.slice (some ⟨w.heap.size, 0, none⟩) 1 1)) (w.alloc (.cells cs.toArray 104))) : o.wp Try.prog a w K Q := by
  unfold Oper.wp execOp
  simp only [ho, List.map_toArray, List.map_cons, List.map_nil, hx, Sem.run_bind, one_run w cs hl, Result.andThen_ok]
  exact h
#print axioms one_run
#print axioms wp_one
#print axioms build104
#print axioms zero104
#print axioms copy_run
end Go.Proofs.Ytcjfhfalffngjaa
