/-
  The contracts of the store's take and of a head's tell. The contracts of a strings.Builder's copyCheck and WriteString, over the seat's program. Contracts of the library at the seat's program, laid in plain words: the bodies and types here are those that each contract was proved of.
-/
import Derived.Test.YtcjfhfalffngjaaCCGood
import Derived.Shelf.Strings.Builder1
import Derived.Shelf.Small.Strs
import Derived.Shelf.Small.Wraps
import Derived.Shelf.Strings.BuilderF
import Derived.Shelf.Strings.BuilderK
import Derived.Shelf.Strings.Prefix
import Derived.Test.YtcjfhfalffngjaaProg
namespace Go.Proofs.Ytcjfhfalffngjaa
open Go.RowKit Go.Lib
set_option maxRecDepth 100000
set_option linter.unusedVariables false
set_option linter.unusedSimpArgs false

theorem number97_later (s : ByteArray) (hs : s.size ≤ 4) (w : World) : Calls Try.prog 97 #[.string s] w fun e w' => e = .returned (.int .u32 (numB s.data.toList : Int)) ∧ Below w.heap.size w w' :=
  (number97_calls s hs w).mono fun e w' ⟨he, n, hw⟩ => ⟨he, by rw [hw]; exact ((Hold.init w).drewN n).below⟩

set_option maxHeartbeats 1000000 in
theorem take_calls (s : ByteArray) (b : Nat) (hb : b ≤ 4) (hs : b ≤ s.size) (hs2 : s.size ≤ 1000000) (w : World) :
    Calls Try.prog 85 #[.string s, .int .i64 b] w fun e w' => e = .returned (.tuple #[.int .i64 (numB (s.extract 0 b).data.toList : Int), .string (s.extract b s.size)]) ∧ Below w.heap.size w w' := by
  have hz : (s.extract 0 b).size ≤ 4 := by rw [ByteArray.size_extract]; omega
  have en := fun u : Later w => number97_later (s.extract 0 b) hz u.wld
  have hlt := numB_lt (s.extract 0 b).data.toList
  have hll : (s.extract 0 b).data.toList.length ≤ 4 := by rw [Array.length_toList]; exact hz
  have hq : numB (s.extract 0 b).data.toList < 4294967296 := Nat.lt_of_lt_of_le hlt (Nat.le_trans (Nat.pow_le_pow_right (by omega) hll) (by decide))
  obtain ⟨q, hqq⟩ : ∃ q, numB (s.extract 0 b).data.toList = q := ⟨_, rfl⟩
  rw [hqq] at hq ⊢
  simp only [hqq] at en
  have EN := hide en
  have hbz : (b : Int) ≤ (s.size : Int) := by omega
  have hb0 : (0 : Int) ≤ (b : Int) := by omega
  clear en hlt hll hqq hz
  go_enter Try.func85, Try.ntmps85
  go_wp2_with fail
  refine wp_region_later (by kernel_rfl) (by kernel_rfl) ?_
  repeat (go_big_quiet_step (first | (go_at_call 97; refine Calls.later (unhide EN _))))
  refine wpQuiet_nil ?_
  intro _ hw'
  obtain ⟨uq, hw''⟩ := hw'
  subst hw''
  have HB := hide uq.bel
  go_wp2_with fail
  go_ret2
  exact ⟨rfl, unhide HB⟩
#print axioms take_calls

def markL : List UInt8 := [106, 111, 98, 99, 97, 115, 101, 32, 115, 116, 111, 114, 101, 10]
/-- A head's bytes; f1: the number ahead of the log's first. -/
def headL (half bytes f1 : Nat) : List UInt8 := markL ++ leB half 1 ++ leB bytes 2 ++ leB f1 4
set_option maxHeartbeats 1000000 in
theorem tell94_calls (half bytes f1 : Nat) (hh : half ≤ 1) (hb : bytes ≤ 65535) (hf : f1 ≤ 1000000) (w : World) :
    Calls Try.prog 94 #[.agg #[.int .i64 half, .int .i64 bytes, .int .i64 ((f1 : Int) + 1)]] w fun e w' => e = .returned (.string (mkB (headL half bytes f1))) ∧ Below w.heap.size w w' := by
  have h1 := (Hold.init w).made 126 [.int .i64 half, .int .i64 bytes, .int .i64 ((f1 : Int) + 1)]
  obtain ⟨B, hB⟩ : ∃ B, w.heap.size = B := ⟨_, rfl⟩
  rw [hB] at h1
  obtain ⟨w1, hw1⟩ : ∃ w1, w.alloc (.cells #[.int .i64 half, .int .i64 bytes, .int .i64 ((f1 : Int) + 1)] 126) = w1 := ⟨_, rfl⟩
  have h1' : Hold w w1 [.cell B 126 [.int .i64 half, .int .i64 bytes, .int .i64 ((f1 : Int) + 1)]] := by rw [← hw1]; exact h1
  have c0 := fun u : Later w1 => (h1'.over u.bel).cellAt (.head _) (j := 0) rfl
  have c1 := fun u : Later w1 => (h1'.over u.bel).cellAt (.head _) (j := 1) rfl
  have c2 := fun u : Later w1 => (h1'.over u.bel).cellAt (.head _) (j := 2) rfl
  have l1 := fun u : Later w1 => little_calls half 1 (by omega) (by decide) u.wld
  have l2 := fun u : Later w1 => little_calls bytes 2 (by omega) (by decide) u.wld
  have l4 := fun u : Later w1 => little_calls f1 4 (by omega) (by decide) u.wld
  have k1 : IntKind.u32.wrap (half : Int) = (half : Int) := by rw [IntKind.wrap_u32]; omega
  have k2 : IntKind.u32.wrap (bytes : Int) = (bytes : Int) := by rw [IntKind.wrap_u32]; omega
  have k4 : IntKind.u32.wrap (f1 : Int) = (f1 : Int) := by rw [IntKind.wrap_u32]; omega
  obtain ⟨s1, hs1⟩ : ∃ b : ByteArray, ⟨(leB half 1).toArray⟩ = b := ⟨_, rfl⟩
  obtain ⟨s2, hs2⟩ : ∃ b : ByteArray, ⟨(leB bytes 2).toArray⟩ = b := ⟨_, rfl⟩
  obtain ⟨s4, hs4⟩ : ∃ b : ByteArray, ⟨(leB f1 4).toArray⟩ = b := ⟨_, rfl⟩
  have hall : mkB (headL half bytes f1) = (⟨#[106, 111, 98, 99, 97, 115, 101, 32, 115, 116, 111, 114, 101, 10]⟩ : ByteArray) ++ s1 ++ s2 ++ s4 := by
    rw [← hs1, ← hs2, ← hs4]
    have e1 : (⟨#[106, 111, 98, 99, 97, 115, 101, 32, 115, 116, 111, 114, 101, 10]⟩ : ByteArray) ++ ⟨(leB half 1).toArray⟩ = mkB (markL ++ leB half 1) := ByteArray.mk_append_mk markL _
    have e2 : mkB (markL ++ leB half 1) ++ ⟨(leB bytes 2).toArray⟩ = mkB (markL ++ leB half 1 ++ leB bytes 2) := ByteArray.mk_append_mk _ _
    have e3 : mkB (markL ++ leB half 1 ++ leB bytes 2) ++ ⟨(leB f1 4).toArray⟩ = mkB (markL ++ leB half 1 ++ leB bytes 2 ++ leB f1 4) := ByteArray.mk_append_mk _ _
    rw [e1, e2, e3]
    rfl
  have z1 : s1.size = 1 := by rw [← hs1]; show (leB half 1).toArray.size = 1; rw [List.size_toArray, leB_length]
  have z2 : s2.size = 2 := by rw [← hs2]; show (leB bytes 2).toArray.size = 2; rw [List.size_toArray, leB_length]
  have z4 : s4.size = 4 := by rw [← hs4]; show (leB f1 4).toArray.size = 4; rw [List.size_toArray, leB_length]
  rw [hs1] at l1
  rw [hs2] at l2
  rw [hs4] at l4
  rw [hall]
  have L1 := hide l1
  have L2 := hide l2
  have L4 := hide l4
  have HB := hide h1'.below
  clear h1 h1' l1 l2 l4 hs1 hs2 hs4 hall
  go_enter Try.func94, Try.ntmps94
  go_wp2_with fail
  refine wp_region_later (by kernel_rfl) (by kernel_rfl) ?_
  repeat (go_big_quiet_step (first | (go_at_call_of 61 (Value.int .i64 1); refine Calls.later (unhide L1 _)) | (go_at_call_of 61 (Value.int .i64 2); refine Calls.later (unhide L2 _)) | (go_at_call_of 61 (Value.int .i64 4); refine Calls.later (unhide L4 _))))
  refine wpQuiet_nil ?_
  intro _ hw'
  obtain ⟨uq, hw''⟩ := hw'
  subst hw''
  have HB2 := hide ((unhide HB).trans (uq.bel.mono (unhide HB).size))
  go_wp2_with fail
  go_ret
  exact ⟨rfl, unhide HB2⟩
#print axioms tell94_calls
end Go.Proofs.Ytcjfhfalffngjaa
namespace Go.Proofs.Ytcjfhfalffngjaa
open Go.RowKit Go.Lib
set_option maxRecDepth 100000
set_option linter.unusedVariables false
set_option linter.unusedSimpArgs false

theorem size147 : (Try.prog.info? 147).map (·.size) = some 2 := by kernel_rfl
theorem lies147 : liesAt Try.prog Try.prog.depth 147 (2 / Try.prog.cellsOf 147) 0 147 1 = true := by kernel_rfl
theorem byte5 : (Try.prog.info? 5).map (fun i => (i.zero, i.size, i.bytes)) = some (some (.int .u8 0), 1, 1) := by kernel_rfl

set_option maxHeartbeats 1000000 in
theorem copyCheck_used (b : Nat) (w : World) (h0 : w.cell? ⟨b, 0, none⟩ = some (.pointer (some ⟨b, 0, none⟩))) :
    Calls Try.prog 99 #[.pointer (some ⟨b, 0, none⟩)] w fun e w' => e = .returned (.tuple #[]) ∧ w' = w := by
  obtain ⟨j, hj, _⟩ := Option.map_eq_some_iff.1 size147
  have hne := Lib.run_neq_ptr_same w ⟨b, 0, none⟩ Try.underlying145 hj
  go_enter Try.func99, Try.ntmps99
  go_wp2_with fail
  go_end0
  exact ⟨rfl, rfl⟩
set_option maxHeartbeats 1000000 in
theorem copyCheck_fresh (b : Nat) (w : World) (h0 : w.cell? ⟨b, 0, none⟩ = some (.pointer none)) (hsh : w.shape? b = some (147, 2)) (hfz : w.frozen? ⟨b, 0, none⟩ = false) :
    Calls Try.prog 99 #[.pointer (some ⟨b, 0, none⟩)] w fun e w' => e = .returned (.tuple #[]) ∧ w' = w.setCell ⟨b, 0, none⟩ (.pointer (some ⟨b, 0, none⟩)) := by
  obtain ⟨j, hj, hjs⟩ := Option.map_eq_some_iff.1 size147
  have hu := Lib.run_to_unsafe w ⟨b, 0, none⟩ Try.underlying145 Try.underlying164 hj (by rw [hjs]; decide) hsh (Nat.zero_lt_succ 1)
  have hf := Lib.run_from_unsafe w ⟨b, 0, none⟩ Try.underlying164 Try.underlying145 hj hsh lies147
  go_enter Try.func99, Try.ntmps99
  go_wp2_with fail
  rw [run_callFunc_extern Try.func103 (by kernel_rfl) (by kernel_rfl) (by kernel_rfl) (e := Extern.AbiNoEscape.same) (by kernel_rfl), Lib.run_noEscape]
  simp only [Result.andThen]
  rw [Oper.upon_value]
  go_wp2_with fail
  go_end0
  exact ⟨rfl, rfl⟩
#print axioms copyCheck_used
#print axioms copyCheck_fresh

theorem copyCheck_calls (B b : Nat) (bs : List Value) (w : World) (h : Lib.IsBuilder 147 5 B b bs w) :
    Calls Try.prog 99 #[.pointer (some ⟨b, 0, none⟩)] w fun e w' => e = .returned (.tuple #[]) ∧ (Lib.BuilderAt 147 5 B b (.pointer (some ⟨b, 0, none⟩)) bs w' ∧ Below B w w') := by
  rcases h with h | h
  · refine (copyCheck_fresh b w h.cell0 h.shape h.frozen0).mono ?_
    rintro e w' ⟨rfl, rfl⟩
    exact ⟨rfl, h.used _, (Below.refl B w).setCell (p := ⟨b, 0, none⟩) h.1 _⟩
  · refine (copyCheck_used b w h.cell0).mono ?_
    rintro e w' ⟨rfl, rfl⟩
    exact ⟨rfl, h, Below.refl B _⟩

def WriteEnd2 (B b : Nat) (l : List UInt8) (n : Nat) (w : World) (e : Ending) (w' : World) : Prop := e = .returned (.tuple #[.int .i64 n, .nilIface]) ∧ Lib.IsBuilder 147 5 B b (secV l) w' ∧ Below B w w'
set_option maxHeartbeats 2000000 in
theorem writeString_calls (B b : Nat) (l : List UInt8) (s : ByteArray) (w : World) (h : Lib.IsBuilder 147 5 B b (secV l) w) (hlen : l.length + s.size ≤ 1000000) (hBw : B ≤ w.heap.size) :
    Calls Try.prog 88 #[.pointer (some ⟨b, 0, none⟩), .string s] w fun e w' => WriteEnd2 B b (l ++ s.data.toList) s.size w e w' := by
  obtain ⟨i0, hi, hz0, hz1, hz2⟩ := info_parts byte5
  have ec := copyCheck_calls B b (secV l) w h
  have EC := hide ec
  clear ec h
  unfold WriteEnd2
  go_enter Try.func88, Try.ntmps88
  go_wp2_with fail
  refine (unhide EC).mono ?_
  rintro e w1 ⟨rfl, h1, hb1⟩
  obtain ⟨hB, v, hbk, hown, hne⟩ := h1
  have c1 : w1.cell? ⟨b, 1, none⟩ = some v := by rw [Lib.cell_of_heap hbk]; rfl
  have HB1 := hide hb1
  clear hb1 EC
  go_wp2_with (at_builtin; refine Lib.wpList_append_own_string _ rfl _ _ 105 9 rfl B 5 i0 Try.underlying105 Try.underlying9 hi hz0 hz1 hz2 _ _ _ rfl hown s rfl ?c3 ?c4 ?c5 ?_)
  case c3 => rw [secV_length]; unfold maxLen; omega
  case c4 => rw [secV_length]; omega
  case c5 => have := (unhide HB1).size; omega
  intro v' w2 hown' hgrow _
  have hlt : b < w1.heap.size := (Array.getElem?_eq_some_iff.1 hbk).1
  have hb2 : w2.heap[b]? = some (.cells #[.pointer (some ⟨b, 0, none⟩), v] 147 (0, 0)) := by
    rw [hgrow.block b hlt (fun e => hne e.symm)]
    exact hbk
  have d1 : w2.cell? ⟨b, 1, none⟩ = some v := by rw [Lib.cell_of_heap hb2]; rfl
  have f1 : w2.frozen? ⟨b, 1, none⟩ = false := Lib.frozen_of_heap hb2 1
  obtain ⟨ao, cap, hv', _⟩ := row_slice hown'
  subst hv'
  have Ho := hide hown'
  have Hg := hide hgrow
  have Hk := hide hown
  clear hown' hgrow hown
  go_wp2_with fail
  go_ret2
  refine ⟨rfl, .inr ?_, ?_⟩
  · have e1 : secV (l ++ s.data.toList) = secV l ++ Lib.strCells s := by
      unfold secV Lib.strCells
      rw [List.map_append]
    rw [e1]
    exact Lib.BuilderAt.put (T := 147) (e := 5) hB hb2 (bs' := secV l ++ Lib.strCells s) (by simpa [Lib.strCells_length] using unhide Ho) (by decide)
  · exact ((unhide HB1).grown (unhide Hg) (by have := (unhide HB1).size; omega) (fun k hk => ((unhide Hk).lt k hk).1)).setCell (p := ⟨b, 1, none⟩) hB _
#print axioms writeString_calls
end Go.Proofs.Ytcjfhfalffngjaa
namespace Go.Proofs
open Go.Shelf
def Try.lays170_ren : Go.Shelf.Ren := ⟨fun | 170 => 86 | n => n, fun | 70 => 145 | 3 => 3 | 0 => 0 | 72 => 147 | 37 => 105 | 5 => 5 | n => n, fun | n => n⟩
theorem Try.lays170 : Go.Proofs.Lays.n170 Try.prog Try.lays170_ren := {
  mixed := by kernel_rfl
  f170 := Try.func86.trans (congrArg some (by kernel_rfl))
  t0 := Try.underlying0
  a0 := Try.isAgg0
  z0 := Try.sizeOf0
  v0 := Try.zeroValue0
  t3 := Try.underlying3
  a3 := Try.isAgg3
  z3 := Try.sizeOf3
  v3 := Try.zeroValue3
  t37 := Try.underlying105
  a37 := Try.isAgg105
  z37 := Try.sizeOf105
  v37 := Try.zeroValue105
  t70 := Try.underlying145
  a70 := Try.isAgg145
  z70 := Try.sizeOf145
  v70 := Try.zeroValue145
  t72 := Try.underlying147
  a72 := Try.isAgg147
  z72 := Try.sizeOf147
  v72 := Try.zeroValue147 }
open Go.RowKit in
theorem Try.Builder_Len (B b : Nat) (bs : List Value) (w : World) (h : Lib.IsBuilder 147 5 B b bs w) :
    Calls Try.prog 86 #[.pointer (some ⟨b, 0, none⟩)] w fun e w' => e = .returned (.int .i64 bs.length) ∧ w' = w := Any.Builder_Len Try.lays170 B b bs w h
def Try.lays169_ren : Go.Shelf.Ren := ⟨fun | 169 => 90 | n => n, fun | 70 => 145 | 9 => 9 | 0 => 0 | 72 => 147 | 37 => 105 | 127 => 160 | 3 => 3 | 5 => 5 | n => n, fun | n => n⟩
theorem Try.lays169 : Go.Proofs.Lays.n169 Try.prog Try.lays169_ren := {
  mixed := by kernel_rfl
  f169 := Try.func90.trans (congrArg some (by kernel_rfl))
  t0 := Try.underlying0
  a0 := Try.isAgg0
  z0 := Try.sizeOf0
  v0 := Try.zeroValue0
  t3 := Try.underlying3
  a3 := Try.isAgg3
  z3 := Try.sizeOf3
  v3 := Try.zeroValue3
  t9 := Try.underlying9
  a9 := Try.isAgg9
  z9 := Try.sizeOf9
  v9 := Try.zeroValue9
  t37 := Try.underlying105
  a37 := Try.isAgg105
  z37 := Try.sizeOf105
  v37 := Try.zeroValue105
  t70 := Try.underlying145
  a70 := Try.isAgg145
  z70 := Try.sizeOf145
  v70 := Try.zeroValue145
  t72 := Try.underlying147
  a72 := Try.isAgg147
  z72 := Try.sizeOf147
  v72 := Try.zeroValue147
  t127 := Try.underlying160
  a127 := Try.isAgg160
  z127 := Try.sizeOf160
  v127 := Try.zeroValue160 }
theorem Try.Builder_Extra_169 : Builder.Extra Try.prog Try.lays169_ren := {
  sizeBuilder := by kernel_rfl
  liesBuilder := by kernel_rfl
  t5 := Try.underlying5
  a5 := Try.isAgg5
  z5 := Try.sizeOf5
  v5 := Try.zeroValue5
  infoByte := by kernel_rfl
  cellsByte := by kernel_rfl
  sizeByte := by kernel_rfl
  neB5 := by decide }
open Go.RowKit in
theorem Try.Builder_String_any (B b : Nat) (l : List UInt8) (w : World) (h : Lib.IsBuilder 147 5 B b (Lib.byteCells l) w) (hBw : B ≤ w.heap.size) :
    Calls Try.prog 90 #[.pointer (some ⟨b, 0, none⟩)] w fun e w' => e = .returned (.string ⟨l.toArray⟩) ∧ Below B w w' := Any.Builder_String_any Try.lays169 Try.Builder_Extra_169 B b l w h hBw
def Try.lays103_ren : Go.Shelf.Ren := ⟨fun | 103 => 84 | 210 => 98 | 206 => 102 | n => n, fun | 9 => 9 | 4 => 4 | 24 => 141 | 3 => 3 | n => n, fun | n => n⟩
theorem Try.lays103 : Go.Proofs.Lays.n103 Try.prog Try.lays103_ren := {
  mixed := by kernel_rfl
  f103 := Try.func84.trans (congrArg some (by kernel_rfl))
  f206 := Try.func102.trans (congrArg some (by kernel_rfl))
  f210 := Try.func98.trans (congrArg some (by kernel_rfl))
  t3 := Try.underlying3
  a3 := Try.isAgg3
  z3 := Try.sizeOf3
  v3 := Try.zeroValue3
  t4 := Try.underlying4
  a4 := Try.isAgg4
  z4 := Try.sizeOf4
  v4 := Try.zeroValue4
  t9 := Try.underlying9
  a9 := Try.isAgg9
  z9 := Try.sizeOf9
  v9 := Try.zeroValue9
  t24 := Try.underlying141
  a24 := Try.isAgg141
  z24 := Try.sizeOf141
  v24 := Try.zeroValue141 }
open Go.RowKit in
theorem Try.strings_CutPrefix (s p : ByteArray) (w : World) :
    Calls Try.prog 84 #[.string s, .string p] w fun e w' => e = .returned (.tuple #[.string ⟨(Lib.trimPrefix s.data.toList p.data.toList).toArray⟩, .bool (Lib.hasPrefix s.data.toList p.data.toList)]) ∧ w' = w := Any.strings_CutPrefix Try.lays103 s p w
end Go.Proofs
