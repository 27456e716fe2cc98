/-
  The contract of a disk's Flush, over the seat's program. The contract of a disk's Restart, over the seat's program.
-/
import Derived.Test.YtcjfhfalffngjaaCDWrite
namespace Go.Proofs.Ytcjfhfalffngjaa
open Go.RowKit
set_option maxRecDepth 100000
set_option linter.unusedSimpArgs false
set_option linter.unusedVariables false

/-- copy, as one step of a region that draws. -/
theorem step_copy_runI {P : Program} {ops : Array Oper} {o : Oper} {a : Act} {w : World} {K : Act → World → Prop} {Q : Exit → Act → World → Prop} {E : Prop}
    (hg : o.guard = none) (d x : Operand) (dT sT : TypeId) (hop : o.op = Op.call { callee := Callee.builtin Builtin.copy, args := #[d, x], argTypes := #[dT, sT] })
    (v u : Value) (hd : a.eval d = v) (hx : a.eval x = u) {v' : Value} {w' : World} (hr : (Builtin.copy_ #[dT, sT] o.type #[v, u]).run P w = .ok v' w') (hK : K (a.put o.dst v') w') :
    if Region.wanted o (yielded ops a.tmps) = true then Oper.wp P o a w K Q else E := by
  have hw : Region.wanted o (yielded ops a.tmps) = true := by simp [Region.wanted, hg]
  rw [if_pos hw]
  unfold Oper.wp
  simp [execOp, hop, resolve, invoke, builtin, hd, hx, hr, Result.andThen]
  exact hK

/-- All of one row over all of another. -/
theorem Hold.copyRow {w0 w : World} (l1 : List Res) {g g' n cap cap' : Nat} {A B : List (List UInt8)} {l2 : List Res} (hA : A.length = n) (hB : B.length = n) (sA : Secs A) (sB : Secs B)
    (H : Hold w0 w (l1 ++ rowS (.slice (some ⟨g, 0, none⟩) n cap) A :: l2)) (hm : rowS (.slice (some ⟨g', 0, none⟩) n cap') B ∈ l1 ++ l2) (ty : TypeId) :
    ∃ w', (Builtin.copy_ #[94, 94] ty #[.slice (some ⟨g, 0, none⟩) n cap, .slice (some ⟨g', 0, none⟩) n cap']).run Try.prog w = .ok (goInt n) w' ∧ Hold w0 w' (l1 ++ rowS (.slice (some ⟨g, 0, none⟩) n cap) B :: l2) := by
  unfold rowS at H hm ⊢
  rw [hA] at H
  rw [hB] at hm ⊢
  have hlB := flatS_length sB
  have hlA := flatS_length sA
  obtain ⟨w', h1, h2, _⟩ := H.lay l1 0 (flatS B) (by omega) (flatS_one B)
  have e : Go.splice (flatS A) 0 (flatS B) = flatS B := by
    unfold Go.splice
    rw [List.take_zero, List.nil_append, List.drop_eq_nil_of_le (by omega), List.append_nil]
  rw [e] at h2
  refine ⟨w', ?_, h2⟩
  have hmin : Nat.min n n = n := Nat.min_self n
  have := copy_run (P := Try.prog) w w' 94 94 ty 102 140 g 0 n cap g' 0 n cap' (flatS B) Try.underlying94 size102 (by rw [hmin, hlB, hB]) (fun j v hv => by
    rw [Nat.zero_add]
    refine H.rowCell (xs := flatS B) (k := 140) (e := 102) (n := n) (cap := cap') ?_ hv
    rcases List.mem_append.1 hm with h | h
    · exact List.mem_append.2 (.inl h)
    · exact List.mem_append.2 (.inr (.tail _ h))) (h1 Try.prog)
  rw [hmin] at this
  exact this

variable (w0 w : World) (db : Nat) (d : DK) (l2 : List Res)

def FlushEnd (e : Ending) (w' : World) : Prop := e = .returned (errV d.flushE) ∧ DiskIn w0 w' db d.flushed l2

set_option maxHeartbeats 4000000 in
theorem flush_calls (h : DiskIn w0 w db d l2) :
    Calls Try.prog 20 #[.pointer (some ⟨db, 0, none⟩)] w fun e w' => FlushEnd w0 db d l2 e w' := by
  have e2 := step_calls w0 w db d l2 h
  unfold FlushEnd
  unfold StepEnd at e2
  cases hf : d.fall with
  | true =>
    have hfe : d.flushE = some 10 := by unfold DK.flushE; rw [hf]; rfl
    have hfd : d.flushed = d.stepped := by unfold DK.flushed; rw [hf]; rfl
    rw [hfe] at e2 ⊢
    rw [hfd]
    simp only [errV] at e2 ⊢
    have E2 := hide e2
    clear e2 h hf hfe hfd
    go_enter Try.func20, Try.ntmps20
    go_wp2_with fail
    refine (unhide E2).mono ?_
    rintro e w2 ⟨rfl, hD⟩
    have HD := hide hD
    clear hD E2
    go_wp2_with fail
    go_ret
    exact ⟨rfl, unhide HD⟩
  | false =>
    have hfe : d.flushE = none := by unfold DK.flushE; rw [hf]; rfl
    have hfd : d.flushed = d.stepped.firm := by unfold DK.flushed; rw [hf]; rfl
    rw [hfe] at e2 ⊢
    rw [hfd]
    simp only [errV] at e2 ⊢
    have E2 := hide e2
    clear e2 h hf hfe hfd
    generalize d.stepped = d2 at *
    go_enter Try.func20, Try.ntmps20
    go_wp2_with fail
    refine (unhide E2).mono ?_
    rintro e w2 ⟨rfl, hD⟩
    clear E2
    have hok := hD.ok
    obtain ⟨g0, c0, g1, c1, v2, hc0, hc01, hc1, hc11, H⟩ := hD.mem
    obtain ⟨w3, hcp, H3⟩ := H.drew.copyRow [_] (g := g0) (g' := g1) (cap := c0) (cap' := c1) hok.same rfl hok.kept hok.now (by simp) 3
    have q0 : w2.cell? ⟨db, 0, none⟩ = some (.slice (some ⟨g0, 0, none⟩) d2.now.length c0) := H.cellAt (.head _) rfl
    have q1 : w2.cell? ⟨db, 1, none⟩ = some (.slice (some ⟨g1, 0, none⟩) d2.now.length c1) := H.cellAt (.head _) rfl
    have q2 : w3.cell? ⟨db, 2, none⟩ = some v2 := H3.cellAt (.head _) rfl
    have f2 : w3.frozen? ⟨db, 2, none⟩ = false := H3.frozenAt (.head _) 2
    have HF : Hid (DiskIn w0 (w3.setCell ⟨db, 2, none⟩ (.slice none 0 0)) db d2.firm l2) := by
      refine ⟨hok.firm, g0, c0, g1, c1, .slice none 0 0, hc0, hc01, hc1, hc11, ?_⟩
      have h4 := H3.store [] 2 (.slice none 0 0) _ rfl
      exact ((h4.forget [_, _, _]).nilRow 104 141).back [_, _, _]
    obtain ⟨n, hn⟩ : ∃ n, d2.now.length = n := ⟨_, rfl⟩
    rw [hn] at q0 q1 hcp
    clear hD hok H H3 hc0 hc01 hc1 hc11 hn
    go_wp2_with fail
    go_region_law (refine step_copy_runI rfl _ _ 94 94 rfl (.slice (some ⟨g0, 0, none⟩) n c0) (.slice (some ⟨g1, 0, none⟩) n c1) (by simp [Act.eval, Act.put]) (by simp [Act.eval, Act.put]) hcp ?_)
    all_goals (go_wp2_with fail; go_ret; exact ⟨rfl, unhide HF⟩)
#print axioms flush_calls
end Go.Proofs.Ytcjfhfalffngjaa
namespace Go.Proofs.Ytcjfhfalffngjaa
open Go.RowKit
set_option maxRecDepth 100000
set_option linter.unusedSimpArgs false
set_option linter.unusedVariables false

variable (w0 w : World) (db : Nat) (d : DK) (l2 : List Res)

/-- A disk while it is started again. -/
def MidIn (w : World) (K : List (List UInt8)) (g0 c0 g1 c1 : Nat) (v2 : Value) : Prop :=
  Hold w0 w (diskR db (.slice (some ⟨g0, 0, none⟩) d.now.length c0) (.slice (some ⟨g1, 0, none⟩) d.now.length c1) v2 d.down d.left :: rowS (.slice (some ⟨g0, 0, none⟩) d.now.length c0) K :: rowS (.slice (some ⟨g1, 0, none⟩) d.now.length c1) d.now :: rowW v2 d.wr :: l2)

theorem bit_test (k j : Nat) (hk : k < 18446744073709551616) : (bits .and .u64 ((k : Int) / 2 ^ j) 1 == 1) = k.testBit j := by
  have e1 : ((k : Int) / 2 ^ j) = ((k / 2 ^ j : Nat) : Int) := by
    rw [Int.natCast_ediv, Int.natCast_pow]
    rfl
  have hle : k / 2 ^ j ≤ k := Nat.div_le_self _ _
  have e2 := u64_and_nat (k / 2 ^ j) 1 (by omega) (by omega)
  rw [e1]
  rw [show ((1 : Nat) : Int) = 1 from rfl] at e2
  rw [e2, Nat.and_one_is_mod, Nat.testBit_eq_decide_div_mod_eq]
  have h2 : k / 2 ^ j % 2 < 2 := Nat.mod_lt _ (by omega)
  by_cases h : k / 2 ^ j % 2 = 1
  · rw [h]; rfl
  · rw [decide_eq_false h]
    have : k / 2 ^ j % 2 = 0 := by omega
    rw [this]
    rfl

theorem keepL_next (k i : Nat) {l : List (Nat × List UInt8)} {x : Nat × List UInt8} (hx : l[i]? = some x) (K : List (List UInt8)) : keepL k 0 (l.take (i + 1)) K = if k.testBit (i % 64) then (keepL k 0 (l.take i) K).set x.1 x.2 else keepL k 0 (l.take i) K := by
  obtain ⟨hi, rfl⟩ := List.getElem?_eq_some_iff.1 hx
  rw [List.take_add_one, hx, Option.toList_some, keepL_append, Nat.zero_add, List.length_take, Nat.min_eq_left (by omega)]
  rfl

set_option maxHeartbeats 4000000 in
theorem restart_calls (h : DiskIn w0 w db d l2) (hm : d.wr.length ≤ 100000) (k : Nat) (hk : k < 18446744073709551616) :
    Calls Try.prog 23 #[.pointer (some ⟨db, 0, none⟩), .int .u64 (k : Int)] w fun e w' => e = .returned (.tuple #[]) ∧ DiskIn w0 w' db (d.again k) l2 := by
  have hok := h.ok
  obtain ⟨g0, c0, g1, c1, v2, hc0, hc01, hc1, hc11, H⟩ := h.mem
  have hM : MidIn w0 db d l2 w d.kept g0 c0 g1 c1 v2 := H
  have q2 : w.cell? ⟨db, 2, none⟩ = some v2 := H.cellAt (.head _) rfl
  obtain ⟨p2, cp2, hv2, hn2, hn3⟩ := row_slice (H.rowAt (.tail _ (.tail _ (.tail _ (.head _)))))
  have Hok := hide hok
  have Hc : Hid (d.now.length ≤ c0 ∧ c0 ≤ 9223372036854775807 ∧ d.now.length ≤ c1 ∧ c1 ≤ 9223372036854775807) := ⟨hc0, hc01, hc1, hc11⟩
  have HM := hide hM
  subst hv2
  clear H hM h hok hc0 hc01 hc1 hc11 hn2 hn3
  obtain ⟨Z, hZ⟩ : ∃ Z : List Value, (Value.int .i64 0 :: List.replicate 140 (Value.int .u8 0)) = Z := ⟨_, rfl⟩
  have hz := zero104
  rw [hZ] at hz
  have hz1 : ¬ Z = [] := by rw [← hZ]; simp
  have hz2 : Z.length = 141 := by rw [← hZ]; simp
  clear hZ
  go_enter Try.func23, Try.ntmps23
  go_wp2_with fail
  go_loopg [11] (d.wr.length + 1) (fun g vi wr => ∃ (i : Nat), d.wr.length - i < g ∧ i ≤ d.wr.length ∧ vi = .int .i64 i ∧ Hid (MidIn w0 db d l2 wr (keepL k 0 (d.wr.take i) d.kept) g0 c0 g1 c1 (.slice p2 d.wr.length cp2)))
  case atStart => exact ⟨0, by omega, by omega, rfl, HM⟩
  case round =>
    obtain ⟨i, hg, hi, rfl, HMi⟩ := hrel
    by_cases hin : i < d.wr.length
    · have hiz : (i : Int) < (d.wr.length : Int) := by omega
      have hM := unhide HMi
      unfold MidIn at hM
      obtain ⟨⟨at_, s⟩, hx⟩ : ∃ x, d.wr[i]? = some x := ⟨_, List.getElem?_eq_getElem hin⟩
      have hwl : ∀ x ∈ d.wr, x.2.length = 140 := fun x hx => ((unhide Hok).wr x hx).1
      have hxo := (unhide Hok).wr _ (List.mem_of_getElem? hx)
      simp only at hxo
      have hkn := keepL_next k i hx d.kept
      simp only at hkn
      have hbt := bit_test k (i % 64) hk
      have hrow := hM.rowAt (.tail _ (.tail _ (.tail _ (.head _))))
      obtain ⟨g2, cap2, hp2, _, _⟩ := row_shape hrow (by omega)
      injection hp2 with hp2 _ hcc
      subst hp2 hcc
      obtain ⟨V, hV⟩ : ∃ V, secV s = V := ⟨_, rfl⟩
      obtain ⟨X, hX⟩ : ∃ X, wrV (at_, s) = X := ⟨_, rfl⟩
      have hVl : V.length = 140 := by rw [← hV, secV_length, hxo.1]
      have hV1 : ∀ v ∈ V, v.oneCell' = true := by rw [← hV]; exact secV_one _
      have hXV : X = .int .i64 (at_ : Int) :: V := by rw [← hX, ← hV]; rfl
      have hXl : X.length = 141 := by rw [hXV]; simp [hVl]
      have hra : wr.rangeAt g2 (i * 141) X := fun j v hv => hM.rowCell (xs := flatW d.wr) (k := 141) (e := 104) (n := d.wr.length) (cap := cp2) (.tail _ (.tail _ (.tail _ (.head _)))) (flatW_get hwl hx (by rw [hX]; exact hv))
      have hX1 : ∀ v ∈ X, v.oneCell' = true := by
        rw [hXV]; intro v hv; rcases List.mem_cons.1 hv with rfl | hv
        · rfl
        · exact hV1 v hv
      have hst : (storeCells ⟨wr.heap.size, 0, none⟩ X 0).run Try.prog (wr.alloc (.cells Z.toArray 104)) = .ok () (wr.alloc (.cells X.toArray 104)) := by
        rw [run_storeCells_at Try.prog wr.heap.size 0 104 X 0 Z.toArray _ (heap_alloc_new wr _) (by simp [hXl, hz2]) hX1, World.setRow_alloc_new]
        congr 3
        rw [Nat.add_zero, List.take_zero, List.nil_append, Nat.zero_add, List.drop_eq_nil_of_le (by simp [hXl, hz2]), List.append_nil]
      have H3 := hM.made 104 X
      cases hb : k.testBit (i % 64) with
      | false =>
        rw [hb] at hbt hkn
        simp only [Bool.false_eq_true, if_false] at hkn
        have HF : Hid (MidIn w0 db d l2 (wr.alloc (.cells X.toArray 104)) (keepL k 0 (d.wr.take (i + 1)) d.kept) g0 c0 g1 c1 (.slice (some ⟨g2, 0, none⟩) d.wr.length cp2)) := by rw [hkn]; exact H3.forget []
        clear hM hrow hX hx hxo hV hXV H3 hkn hb HMi
        go_wp2_with (refine wpList_load_mid rfl 104 (.tmp 14) rfl g2 (i * 141) rfl X _ hra Try.underlying104 rfl (by rw [hXl]; exact size104) ?_)
        go_roundg (d.wr.length - i)
        case measure => omega
        case rel => exact ⟨i + 1, by omega, by omega, by simp, HF⟩
      | true =>
        rw [hb] at hbt hkn
        simp only [if_true] at hkn
        have hKs : Secs (keepL k 0 (d.wr.take i) d.kept) := keepL_secs k _ 0 _ (fun x hx => hwl x (List.mem_of_mem_take hx)) (unhide Hok).kept
        have hKl : (keepL k 0 (d.wr.take i) d.kept).length = d.now.length := by rw [keepL_len, (unhide Hok).same]
        have hxo1 := hxo.2
        have hxo2 := hxo.1
        have HXV := hide hXV
        have Hkn := hide hkn
        have HKl := hide hKl
        have HV := hide hV
        clear hM hrow hX hx hxo hb HMi hXV hkn hKl hV
        go_wp2_with (refine wpList_load_mid rfl 104 (.tmp 14) rfl g2 (i * 141) rfl X _ hra Try.underlying104 rfl (by rw [hXl]; exact size104) ?_)
        obtain ⟨B, hB⟩ : ∃ B, wr.heap.size = B := ⟨_, rfl⟩
        obtain ⟨w3, hw3⟩ : ∃ w3, wr.alloc (.cells X.toArray 104) = w3 := ⟨_, rfl⟩
        rw [hB, hw3] at H3 ⊢
        have hXV := unhide HXV
        have hkn := unhide Hkn
        have hKl := unhide HKl
        have hV := unhide HV
        clear hst hra hw3 hB HXV Hkn HKl HV
        have H3f := H3.drew.front [_, _]
        rw [show rowS (.slice (some ⟨g0, 0, none⟩) d.now.length c0) (keepL k 0 (d.wr.take i) d.kept) = .row (.slice (some ⟨g0, 0, none⟩) d.now.length c0) 102 140 d.now.length (flatS (keepL k 0 (d.wr.take i) d.kept)) from by unfold rowS; rw [hKl]] at H3f
        obtain ⟨w4, hs4, H4, hg4⟩ := H3f.lay [] (at_ * 140) V (by rw [flatS_length hKs, hVl, hKl]; omega) hV1
        have hrB : ∀ wx l, Hold w0 wx l → Res.cell B 104 X ∈ l → wx.rangeAt B 1 V ∧ wx.cell? ⟨B, 0, none⟩ = some (.int .i64 (at_ : Int)) := fun wx l hx hm => ⟨fun j v hv => hx.cellAt hm (by rw [hXV, Nat.add_comm]; exact hv), hx.cellAt hm (by rw [hXV]; rfl)⟩
        have hth : ∀ wx l L, Hold w0 wx l → rowS (.slice (some ⟨g0, 0, none⟩) d.now.length c0) L ∈ l → L.length = d.now.length → Secs L → wx.there g0 (at_ * 140) 140 := fun wx l L hx hm hL hS j hj => by
          have hlt : at_ * 140 + j < (flatS L).length := by rw [flatS_length hS]; omega
          have hm' : Res.row (.slice (some ⟨g0, 0, none⟩) d.now.length c0) 102 140 d.now.length (flatS L) ∈ l := by rw [← hL] at hm ⊢; exact hm
          exact ⟨by rw [hx.rowCell hm' (List.getElem?_eq_getElem hlt)]; rfl, hx.rowFrozen hm' _⟩
        have hth3 := hth _ _ _ H3.drew (.tail _ (.tail _ (.head _))) hKl hKs
        have hw4 : w4 = w3.drew.setCells g0 (at_ * 140) V := by
          have h1 := run_storeCells_cells (P := Try.prog) g0 (at_ * 140) V 0 w3.drew (fun j hj => by rw [Nat.add_zero]; exact (hth3 j (by omega)).1) (fun j hj => by rw [Nat.add_zero]; exact (hth3 j (by omega)).2) hV1
          have h2 := hs4 Try.prog
          rw [h1] at h2
          injection h2 with _ h2
          exact h2.symm
        rw [← hV, flatS_splice hKs (by rw [hKl]; exact hxo1) hxo2] at H4
        have hln : (keepL k 0 (d.wr.take i) d.kept).length = ((keepL k 0 (d.wr.take i) d.kept).set at_ s).length := by simp
        have H5 : Hold w0 w4 (rowS (.slice (some ⟨g0, 0, none⟩) d.now.length c0) (keepL k 0 (d.wr.take (i + 1)) d.kept) :: Res.cell B 104 X :: diskR db (.slice (some ⟨g0, 0, none⟩) d.now.length c0) (.slice (some ⟨g1, 0, none⟩) d.now.length c1) (.slice (some ⟨g2, 0, none⟩) d.wr.length cp2) d.down d.left :: rowS (.slice (some ⟨g1, 0, none⟩) d.now.length c1) d.now :: rowW (.slice (some ⟨g2, 0, none⟩) d.wr.length cp2) d.wr :: l2) := by
          rw [hkn, show ∀ v, rowS v ((keepL k 0 (d.wr.take i) d.kept).set at_ s) = .row v 102 140 d.now.length (flatS ((keepL k 0 (d.wr.take i) d.kept).set at_ s)) from fun v => by unfold rowS; rw [← hln, hKl]]
          exact H4
        have HF : Hid (MidIn w0 db d l2 w4 (keepL k 0 (d.wr.take (i + 1)) d.kept) g0 c0 g1 c1 (.slice (some ⟨g2, 0, none⟩) d.wr.length cp2)) := (H5.forget [_]).back [_]
        have hth4 := hth w4 _ _ H5 (.head _) (by rw [hkn, ← hln, hKl]) (by rw [hkn]; exact hKs.set at_ hxo2)
        obtain ⟨hra3, hB3⟩ := hrB _ _ H3.drew (.head _)
        obtain ⟨hra4, hB4⟩ := hrB _ _ H5 (.tail _ (.head _))
        have q3 : w3.drew.cell? ⟨db, 0, none⟩ = some (.slice (some ⟨g0, 0, none⟩) d.now.length c0) := H3.drew.cellAt (.tail _ (.head _)) rfl
        have q4 : w4.cell? ⟨db, 0, none⟩ = some (.slice (some ⟨g0, 0, none⟩) d.now.length c0) := H5.cellAt (.tail _ (.tail _ (.head _))) rfl
        have HS3 : Hid (w3.drew.cell? ⟨db, 0, none⟩ = some (.slice (some ⟨g0, 0, none⟩) d.now.length c0) ∧ w3.drew.cell? ⟨B, 0, none⟩ = some (.int .i64 (at_ : Int)) ∧ w3.drew.rangeAt B 1 V ∧ w3.drew.there g0 (at_ * 140) 140) := ⟨q3, hB3, hra3, hth3⟩
        have HS4 : Hid (w4.cell? ⟨db, 0, none⟩ = some (.slice (some ⟨g0, 0, none⟩) d.now.length c0) ∧ w4.cell? ⟨B, 0, none⟩ = some (.int .i64 (at_ : Int)) ∧ w4.rangeAt B 1 V ∧ w4.there g0 (at_ * 140) 140) := ⟨q4, hB4, hra4, hth4⟩
        rw [hw4] at HS4
        have Hw4 := hide hw4
        have hkz : (at_ : Int) < (d.now.length : Int) := by omega
        have u102 := Try.underlying102
        have i102 : (Try.prog.info? 102).map (·.size) = some V.length := by rw [hVl]; exact size102
        clear H3 H3f hXV hs4 H4 hg4 hV hw4 hrB hth hth3 hth4 hra3 hra4 hB3 hB4 q3 q4 H5 hKs hKl hkn hln hxo1 hxo2 hwl
        go_region_held (fun w' => w'.cell? ⟨db, 0, none⟩ = some (.slice (some ⟨g0, 0, none⟩) d.now.length c0) ∧ w'.cell? ⟨B, 0, none⟩ = some (.int .i64 (at_ : Int)) ∧ w'.rangeAt B 1 V ∧ w'.there g0 (at_ * 140) 140) (first | exact unhide HS3 | exact unhide HS4) (fail)
        rw [← unhide Hw4]
        simp only [List.getElem_toArray, List.getElem_cons_zero, List.getElem_cons_succ]
        clear Hw4 HS3 HS4 i102 u102
        go_wp2_with fail
        go_roundg (d.wr.length - i)
        case measure => omega
        case rel => exact ⟨i + 1, by omega, by omega, by simp, HF⟩
    · have hiz : ¬ (i : Int) < (d.wr.length : Int) := by omega
      have hie : i = d.wr.length := by omega
      subst hie
      have hM := unhide HMi
      unfold MidIn at hM
      rw [List.take_length] at hM
      have hagain := (unhide Hok).again k
      have hKs : Secs (keepL k 0 d.wr d.kept) := hagain.now
      have hKl : (keepL k 0 d.wr d.kept).length = d.now.length := by rw [keepL_len, (unhide Hok).same]
      obtain ⟨w3, hcp, H3⟩ := hM.drew.copyRow [_, _] (g := g1) (g' := g0) (cap := c1) (cap' := c0) rfl hKl (unhide Hok).now hKs (by simp) 3
      have q0 : wr.cell? ⟨db, 0, none⟩ = some (.slice (some ⟨g0, 0, none⟩) d.now.length c0) := hM.cellAt (.head _) rfl
      have q1 : wr.cell? ⟨db, 1, none⟩ = some (.slice (some ⟨g1, 0, none⟩) d.now.length c1) := hM.cellAt (.head _) rfl
      have q2 : w3.cell? ⟨db, 2, none⟩ = some (.slice p2 d.wr.length cp2) := H3.cellAt (.head _) rfl
      have f2 : w3.frozen? ⟨db, 2, none⟩ = false := H3.frozenAt (.head _) 2
      have q3 : w3.cell? ⟨db, 3, none⟩ = some (.bool d.down) := H3.cellAt (.head _) rfl
      have f3 : w3.frozen? ⟨db, 3, none⟩ = false := H3.frozenAt (.head _) 3
      have q4 : w3.cell? ⟨db, 4, none⟩ = some (.int .i64 d.left) := H3.cellAt (.head _) rfl
      have f4 : w3.frozen? ⟨db, 4, none⟩ = false := H3.frozenAt (.head _) 4
      have h4 := ((H3.store [] 2 (.slice none 0 0) _ rfl).store [] 3 (.bool false) _ rfl).store [] 4 (.int .i64 (-1)) _ rfl
      have h5 := ((h4.forget [_, _, _]).nilRow 104 141).back [_, _, _]
      have HF : Hid (DiskIn w0 (((w3.setCell ⟨db, 2, none⟩ (.slice none 0 0)).setCell ⟨db, 3, none⟩ (.bool false)).setCell ⟨db, 4, none⟩ (.int .i64 (-1))) db (d.again k) l2) := by
        obtain ⟨a1, a2, a3, a4⟩ := unhide Hc
        refine ⟨hagain, g0, c0, g1, c1, .slice none 0 0, ?_⟩
        have hl : (d.again k).now.length = d.now.length := hKl
        rw [hl]
        exact ⟨a1, a2, a3, a4, h5⟩
      clear hM hagain hKs hKl H3 h4 h5 HMi
      go_wp2_with fail
      go_region_law (refine step_copy_runI rfl _ _ 94 94 rfl (.slice (some ⟨g1, 0, none⟩) d.now.length c1) (.slice (some ⟨g0, 0, none⟩) d.now.length c0) (by simp [Act.eval, Act.put]) (by simp [Act.eval, Act.put]) hcp ?_)
      all_goals (go_wp2_with fail; go_end0; exact ⟨rfl, unhide HF⟩)
#print axioms restart_calls
end Go.Proofs.Ytcjfhfalffngjaa
