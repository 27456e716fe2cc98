/-
  The contract of a disk's Write, over the seat's program.
-/
import Derived.Test.YtcjfhfalffngjaaCDLaws
import Derived.Deep.RegionHeldLaw
namespace Go.Proofs.Ytcjfhfalffngjaa
open Go.RowKit
set_option maxRecDepth 100000
set_option linter.unusedSimpArgs false
set_option linter.unusedVariables false

def WriteEnd (w0 : World) (db : Nat) (d : DK) (l2 : List Res) (i : Int) (s : ByteArray) (e : Ending) (w' : World) : Prop := e = .returned (errV (d.writeE i s.data.toList)) ∧ DiskIn w0 w' db (d.written i s.data.toList) l2

/-- A write as it is laid: built, and its data copied into it. -/
theorem lay_write (w : World) (k : Nat) (s : ByteArray) (hs : s.size ≤ 140) :
    (Builtin.copy_ #[105, 9] 3 #[.slice (some ⟨w.heap.size, 1, none⟩) 140 140, .string s]).run Try.prog (w.alloc (.cells (Value.int .i64 (k : Int) :: List.replicate 140 (Value.int .u8 0)).toArray 104)) = .ok (goInt s.size) (w.alloc (.cells (wrV (k, padL s.data.toList)).toArray 104)) := by
  have hl : s.data.toList.length = s.size := rfl
  refine copyStr_run _ _ 105 9 3 5 w.heap.size 1 140 140 s Try.underlying105 (by kernel_rfl) hs ?_
  rw [run_storeCells_at Try.prog w.heap.size 1 104 (secV s.data.toList) 0 _ _ (heap_alloc_new w _) (by rw [secV_length, hl]; simp; omega) (secV_one _), World.setRow_alloc_new]
  congr 3
  simp only [Nat.add_zero, secV_length, hl]
  have e1 : (Value.int IntKind.i64 (k : Int) :: List.replicate 140 (Value.int IntKind.u8 0)).take 1 = [.int .i64 (k : Int)] := rfl
  have e2 : (Value.int IntKind.i64 (k : Int) :: List.replicate 140 (Value.int IntKind.u8 0)).drop (1 + s.size) = List.replicate (140 - s.size) (.int .u8 0) := by
    rw [Nat.add_comm, List.drop_succ_cons, List.drop_replicate]
  rw [e1, e2]
  unfold wrV padL secV
  rw [List.map_append, List.map_replicate, hl]
  rfl

theorem writeE_bad (d : DK) (i : Int) (s : List UInt8) (h : (!d.has i || decide (140 < s.length)) = true) : d.writeE i s = some 1 ∧ d.written i s = d := by
  unfold DK.writeE DK.written
  rw [h]
  exact ⟨rfl, rfl⟩
theorem writeE_good (d : DK) (i : Int) (s : List UInt8) (h : (!d.has i || decide (140 < s.length)) = false) : d.writeE i s = d.flushE ∧ d.written i s = if d.fall then d.stepped else d.stepped.laid i.toNat (padL s) := by
  unfold DK.writeE DK.written DK.flushE
  rw [h]
  exact ⟨rfl, rfl⟩

variable (w0 w : World) (db : Nat) (d : DK) (l2 : List Res)

set_option maxHeartbeats 4000000 in
theorem write_calls (h : DiskIn w0 w db d l2) (hm : d.wr.length ≤ 100000) (i : Int) (s : ByteArray) :
    Calls Try.prog 16 #[.pointer (some ⟨db, 0, none⟩), .int .i64 i, .string s] w fun e w' => WriteEnd w0 db d l2 i s e w' := by
  have e1 := has_calls w0 w db d l2 h i
  have e2 := step_calls w0 w db d l2 h
  unfold WriteEnd
  have hl : s.data.toList.length = s.size := rfl
  cases hh : d.has i with
  | false =>
    obtain ⟨b1, b2⟩ := writeE_bad d i s.data.toList (by rw [hh]; rfl)
    rw [b1, b2]
    rw [hh] at e1
    have E1 := hide e1
    have HD := hide h
    clear e1 e2 h b1 b2 hh hm hl
    go_enter Try.func16, Try.ntmps16
    go_wp2_with fail
    refine (unhide E1).mono ?_
    rintro e w1 ⟨rfl, rfl⟩
    go_wp2_with fail
    go_ret
    exact ⟨rfl, unhide HD⟩
  | true =>
  rw [hh] at e1
  by_cases hbig : 140 < s.size
  · obtain ⟨b1, b2⟩ := writeE_bad d i s.data.toList (by rw [hh, hl, decide_eq_true hbig]; rfl)
    rw [b1, b2]
    have hbz : (140 : Int) < (s.size : Int) := by omega
    have E1 := hide e1
    have HD := hide h
    clear e1 e2 h b1 b2 hh hm hl
    go_enter Try.func16, Try.ntmps16
    go_wp2_with fail
    refine (unhide E1).mono ?_
    rintro e w1 ⟨rfl, rfl⟩
    go_wp2_with fail
    go_ret
    exact ⟨rfl, unhide HD⟩
  obtain ⟨b1, b2⟩ := writeE_good d i s.data.toList (by rw [hh, hl, decide_eq_false hbig]; rfl)
  rw [b1, b2]
  have hbz : ¬ (140 : Int) < (s.size : Int) := by omega
  have hi : 0 ≤ i ∧ i < (d.now.length : Int) := by simpa [DK.has] using hh
  obtain ⟨k, rfl⟩ : ∃ k : Nat, i = k := ⟨i.toNat, by omega⟩
  have hk : k < d.now.length := by omega
  have hkz : (k : Int) < (d.now.length : Int) := by omega
  rw [Int.toNat_natCast]
  have hwr2 : d.stepped.wr.length ≤ 100000 := by rw [stepped_wr]; exact hm
  have hk2 : k < d.stepped.now.length := by rw [stepped_now]; exact hk
  cases hf : d.fall with
  | true =>
    have hfe : d.flushE = some 10 := by unfold DK.flushE; rw [hf]; rfl
    unfold StepEnd at e2
    rw [hfe] at e2 ⊢
    simp only [errV] at e2 ⊢
    have E1 := hide e1
    have E2 := hide e2
    clear e1 e2 h b1 b2 hh hm hl hi hk hkz hf hfe
    go_enter Try.func16, Try.ntmps16
    go_wp2_with fail
    refine (unhide E1).mono ?_
    rintro e w1 ⟨rfl, rfl⟩
    go_wp2_with fail
    refine (unhide E2).mono ?_
    rintro e w2 ⟨rfl, hD⟩
    have HD := hide hD
    clear hD E2
    go_wp2_with fail
    go_ret
    exact ⟨rfl, unhide HD⟩
  | false =>
    have hfe : d.flushE = none := by unfold DK.flushE; rw [hf]; rfl
    unfold StepEnd at e2
    rw [hfe] at e2 ⊢
    simp only [errV, Bool.false_eq_true, if_false] at e2 ⊢
    have E1 := hide e1
    have E2 := hide e2
    clear e1 e2 h b1 b2 hh hm hl hi hk hkz hf hfe
    generalize d.stepped = d2 at *
    obtain ⟨Z, hZ⟩ : ∃ Z : List Value, (Value.int .i64 0 :: List.replicate 140 (Value.int .u8 0)) = Z := ⟨_, rfl⟩
    obtain ⟨Y, hY⟩ : ∃ Y : List Value, (Value.int .i64 (k : Int) :: List.replicate 140 (Value.int .u8 0)) = Y := ⟨_, rfl⟩
    obtain ⟨X, hX⟩ : ∃ X : List Value, wrV (k, padL s.data.toList) = X := ⟨_, rfl⟩
    have hb := build104 (k : Int)
    have hz := zero104
    rw [hZ] at hz
    rw [hY] at hb
    have HZ := hide hZ
    have HY := hide hY
    have HX := hide hX
    clear hZ hY hX
    go_enter Try.func16, Try.ntmps16
    go_wp2_with fail
    refine (unhide E1).mono ?_
    rintro e w1 ⟨rfl, rfl⟩
    go_wp2_with fail
    refine (unhide E2).mono ?_
    rintro e w2 ⟨rfl, hD⟩
    have HD := hide hD
    clear hD E2 E1
    have hcp := lay_write w2 k s (by omega)
    rw [unhide HY, unhide HX] at hcp
    have hst : (storeCells ⟨w2.heap.size, 0, none⟩ Y 0).run Try.prog (w2.alloc (.cells Z.toArray 104)) = .ok () (w2.alloc (.cells Y.toArray 104)) := by
      rw [run_storeCells_at Try.prog w2.heap.size 0 104 Y 0 Z.toArray _ (heap_alloc_new w2 _) (by rw [← unhide HY, ← unhide HZ]; simp) (by rw [← unhide HY]; simp [Value.oneCell']), World.setRow_alloc_new]
      congr 3
      rw [← unhide HY, ← unhide HZ]
      simp
    have hz1 : ¬ Z = [] := by rw [← unhide HZ]; simp
    have hz2 : Z.length = 141 := by rw [← unhide HZ]; simp
    have hz3 : Z.set 0 (.int .i64 (k : Int)) = Y := by rw [← unhide HZ, ← unhide HY]; rfl
    have hy2 : Y.length = 141 := by rw [← unhide HY]; simp
    go_wp2_with fail
    clear hcp hst hz1 hz2 hz3 hy2 hb hz HZ HY
    obtain ⟨B, hB⟩ : ∃ B, w2.heap.size = B := ⟨_, rfl⟩
    have hok := (unhide HD).ok
    obtain ⟨g0, c0, g1, c1, v2, hc0, hc01, hc1, hc11, H⟩ := (unhide HD).mem
    have H3 := H.made 104 X
    rw [hB] at H3 ⊢
    generalize w2.alloc (.cells X.toArray 104) = w3 at H3 ⊢
    clear hB H HD
    obtain ⟨V, hV⟩ : ∃ V, secV (padL s.data.toList) = V := ⟨_, rfl⟩
    have hXV : X = .int .i64 (k : Int) :: V := by rw [← unhide HX, ← hV]; rfl
    have hpl : (padL s.data.toList).length = 140 := padL_length (by show s.size ≤ 140; omega)
    have hVl : V.length = 140 := by rw [← hV, secV_length, hpl]
    have hV1 : ∀ v ∈ V, v.oneCell' = true := by rw [← hV]; exact secV_one _
    have q1 : w3.cell? ⟨db, 1, none⟩ = some (.slice (some ⟨g1, 0, none⟩) d2.now.length c1) := H3.cellAt (.tail _ (.head _)) rfl
    obtain ⟨w4, hs4, H4, hg4⟩ := (H3.drew.front [_, _, _]).lay [] (k * 140) V (by rw [flatS_length hok.now, hVl]; omega) hV1
    have hra : ∀ wx l, Hold w0 wx l → Res.cell B 104 X ∈ l → wx.rangeAt B 1 V := fun wx l hx hm j v hv => hx.cellAt hm (by rw [hXV, Nat.add_comm]; exact hv)
    have hth : ∀ wx l L, Hold w0 wx l → rowS (.slice (some ⟨g1, 0, none⟩) d2.now.length c1) L ∈ l → L.length = d2.now.length → Secs L → wx.there g1 (k * 140) 140 := fun wx l L hx hm hL hS j hj => by
      have hlt : k * 140 + j < (flatS L).length := by rw [flatS_length hS]; omega
      have hm' : Res.row (.slice (some ⟨g1, 0, none⟩) d2.now.length c1) 102 140 d2.now.length (flatS L) ∈ l := by rw [← hL] at hm ⊢; exact hm
      exact ⟨by rw [hx.rowCell hm' (List.getElem?_eq_getElem hlt)]; rfl, hx.rowFrozen hm' _⟩
    have hth3 := hth _ _ _ H3.drew (.tail _ (.tail _ (.tail _ (.head _)))) rfl hok.now
    have hw4 : w4 = w3.drew.setCells g1 (k * 140) V := by
      have h1 := run_storeCells_cells (P := Try.prog) g1 (k * 140) V 0 w3.drew (fun j hj => by rw [Nat.add_zero]; exact (hth3 j (by omega)).1) (fun j hj => by rw [Nat.add_zero]; exact (hth3 j (by omega)).2) hV1
      have h2 := hs4 Try.prog
      rw [h1] at h2
      injection h2 with _ h2
      exact h2.symm
    rw [← hV, flatS_splice hok.now hk2 hpl] at H4
    have hth4 := hth w4 _ (d2.now.set k (padL s.data.toList)) H4 (by unfold rowS; rw [List.length_set]; exact .head _) (by simp) (hok.now.set k hpl)
    have hra3 := hra _ _ H3.drew (.head _)
    have hra4 := hra _ _ H4 (.tail _ (.head _))
    have hq4 : w4.cell? ⟨db, 1, none⟩ = some (.slice (some ⟨g1, 0, none⟩) d2.now.length c1) := H4.cellAt (.tail _ (.tail _ (.head _))) rfl
    obtain ⟨n, hn⟩ : ∃ n, d2.now.length = n := ⟨_, rfl⟩
    rw [hn] at q1 hq4
    have HS3 : Hid (w3.drew.cell? ⟨db, 1, none⟩ = some (.slice (some ⟨g1, 0, none⟩) n c1) ∧ w3.drew.rangeAt B 1 V ∧ w3.drew.there g1 (k * 140) 140) := ⟨q1, hra3, hth3⟩
    have HS4 : Hid (w4.cell? ⟨db, 1, none⟩ = some (.slice (some ⟨g1, 0, none⟩) n c1) ∧ w4.rangeAt B 1 V ∧ w4.there g1 (k * 140) 140) := ⟨hq4, hra4, hth4⟩
    rw [hw4] at HS4
    have Hw4 := hide hw4
    have hkn : k < n := by omega
    have hkz : (k : Int) < (n : Int) := by omega
    have HH4 := hide H4
    have u102 := Try.underlying102
    have i102 : (Try.prog.info? 102).map (·.size) = some V.length := by rw [hVl]; exact size102
    have Hk2 := hide hk2
    have Hok := hide hok
    have Hwr2 := hide hwr2
    have Hc : Hid (d2.now.length ≤ c0 ∧ c0 ≤ 9223372036854775807 ∧ d2.now.length ≤ c1 ∧ c1 ≤ 9223372036854775807) := ⟨hc0, hc01, hc1, hc11⟩
    have Hpl := hide hpl
    have HXV := hide hXV
    have HV := hide hV
    clear H3 hXV hpl hs4 H4 hg4 hkn hok hc0 hc01 hc1 hc11 hV hk2 hwr2 hw4 hra hth hth3 hth4 hra3 hra4 hq4
    go_region_held (fun w' => w'.cell? ⟨db, 1, none⟩ = some (.slice (some ⟨g1, 0, none⟩) n c1) ∧ w'.rangeAt B 1 V ∧ w'.there g1 (k * 140) 140) (first | exact unhide HS3 | exact unhide HS4) (fail)
    rw [← unhide Hw4]
    clear Hw4 HS3 HS4 q1 i102 u102
    have h4 := unhide HH4
    clear HH4
    go_wp2_with fail
    -- the append, ahead of it
    have h5 := h4.drew.made 104 X
    obtain ⟨C, hC⟩ : ∃ C, w4.heap.size = C := ⟨_, rfl⟩
    have hsz : w4.drew.heap.size = C := hC
    rw [hsz] at h5
    have hX1 : ∀ v ∈ X, v.oneCell' = true := by
      rw [unhide HXV]; intro v hv; rcases List.mem_cons.1 hv with rfl | hv
      · rfl
      · exact hV1 v hv
    have hXl : X.length = 141 := by rw [unhide HXV]; simp [hVl]
    have hwl : ∀ x ∈ d2.wr, x.2.length = 140 := fun x hx => ((unhide Hok).wr x hx).1
    have hown : (w4.drew.alloc (.cells X.toArray 104)).ownsRow w0.heap.size 104 141 v2 d2.wr.length (flatW d2.wr) := h5.rowAt (.tail _ (.tail _ (.tail _ (.tail _ (.tail _ (.head _))))))
    obtain ⟨i0, z0, hi0, hz0, hsz0, hby0, hzc⟩ := info104
    obtain ⟨v', w6, hap, hown6, hg6, _, hat6⟩ := run_append_own_at (P := Try.prog) (w4.drew.alloc (.cells X.toArray 104)) w0.heap.size 95 95 104 i0 z0 141 152 Try.underlying95 hi0 hz0 hsz0 hby0 (by rw [hzc]; simp) (by decide) v2 d2.wr.length (flatW d2.wr) hown ⟨C, 0, none⟩ 1 1 X (by rw [hXl]) (fun j u hj => by rw [add_plain, Nat.zero_add]; exact h5.cellAt (.head _) hj) hX1 (by unfold maxLen; have := unhide Hwr2; omega) (by have := unhide Hwr2; omega) h5.size
    have h6 := (h5.forget []).grow [_, _, _, _] hg6 hown6 (hat6.imp id fun h => ⟨_, h, Nat.le_refl _⟩)
    have q2 : w4.cell? ⟨db, 2, none⟩ = some v2 := h4.cellAt (.tail _ (.tail _ (.head _))) rfl
    have q2b : (w4.drew.alloc (.cells X.toArray 104)).cell? ⟨db, 2, none⟩ = some v2 := h5.cellAt (.tail _ (.tail _ (.tail _ (.head _)))) rfl
    have q6 : w6.cell? ⟨db, 2, none⟩ = some v2 := h6.cellAt (.tail _ (.tail _ (.head _))) rfl
    have f6 : w6.frozen? ⟨db, 2, none⟩ = false := h6.frozenAt (.tail _ (.tail _ (.head _))) 2
    have r4 : w4.drew.rangeAt B 0 X := fun j v hv => by rw [Nat.zero_add]; exact h4.drew.cellAt (.tail _ (.head _)) hv
    have r5 : (w4.drew.alloc (.cells X.toArray 104)).rangeAt B 0 X := World.rangeAt_alloc r4 _
    have r6 : w6.rangeAt B 0 X := fun j v hv => by rw [Nat.zero_add]; exact h6.cellAt (.tail _ (.head _)) hv
    have h7 := h6.store [_, _] 2 v' _ rfl
    have q2c : (w4.alloc (.cells X.toArray 104)).cell? ⟨db, 2, none⟩ = some v2 := q2b
    obtain ⟨p', c', hv'⟩ : ∃ p' c', v' = .slice p' (d2.wr.length + 1) c' := by obtain ⟨p, c, h, _⟩ := row_slice hown6; exact ⟨p, c, h⟩
    subst hv'
    have HF : Hid (DiskIn w0 (w6.setCell ⟨db, 2, none⟩ (.slice p' (d2.wr.length + 1) c')) db (d2.laid k (padL s.data.toList)) l2) := by
      obtain ⟨a1, a2, a3, a4⟩ := unhide Hc
      refine ⟨(unhide Hok).laid (unhide Hk2) (unhide Hpl), g0, c0, g1, c1, .slice p' (d2.wr.length + 1) c', ?_⟩
      have hl1 : (d2.laid k (padL s.data.toList)).now.length = d2.now.length := by simp [DK.laid]
      have hl2 : (d2.laid k (padL s.data.toList)).wr.length = d2.wr.length + 1 := by simp [DK.laid]
      have e1 : rowW (.slice p' (d2.wr.length + 1) c') (d2.laid k (padL s.data.toList)).wr = .row (.slice p' (d2.wr.length + 1) c') 104 141 (d2.wr.length + 1) (flatW d2.wr ++ X) := by
        unfold rowW
        rw [hl2]
        show Res.row _ _ _ _ (flatW (d2.wr ++ [(k, padL s.data.toList)])) = _
        rw [flatW_snoc, unhide HX]
      have e2 : ∀ v, rowS v (d2.laid k (padL s.data.toList)).now = .row v 102 140 d2.now.length (flatS (d2.now.set k (padL s.data.toList))) := fun v => by unfold rowS; rw [hl1]; rfl
      rw [hl1, e1, e2]
      exact ⟨a1, a2, a3, a4, (h7.forget [_]).back [_, _]⟩
    have r7 : (w6.setCell ⟨db, 2, none⟩ (.slice p' (d2.wr.length + 1) c')).rangeAt B 0 X := fun j v hv => by rw [Nat.zero_add]; exact h7.cellAt (.tail _ (.head _)) hv
    refine wp_region_held_drew (S := fun w' => w'.rangeAt B 0 X) (by kernel_rfl) r4 (fun hHeld => ?_)
    refine wpAnyH_take (i := 0) (v := .pointer (some ⟨db, 0, none⟩)) rfl (by kernel_rfl) (by kernel_rfl) (by kernel_rfl) (fun _ _ _ h => h) (Or.inl ⟨by rfl, fun w hS => by go_simp⟩) hHeld ?_
    simp only [List.getElem_toArray, List.getElem_cons_zero, List.getElem_cons_succ, Act.put, List.setIfInBounds_toArray, List.set_cons_zero, List.set_cons_succ]
    refine wpAnyH_take (i := 1) (v := .pointer (some ⟨db, 0, none⟩)) rfl (by kernel_rfl) (by kernel_rfl) (by kernel_rfl) (fun _ _ _ h => h) (Or.inl ⟨by rfl, fun w hS => by go_simp⟩) hHeld ?_
    simp only [List.getElem_toArray, List.getElem_cons_zero, List.getElem_cons_succ, Act.put, List.setIfInBounds_toArray, List.set_cons_zero, List.set_cons_succ]
    refine wpAnyH_take (i := 2) (v := .pointer (some ⟨db, 0, none⟩)) rfl (by kernel_rfl) (by kernel_rfl) (by kernel_rfl) (fun _ _ _ h => h) (Or.inl ⟨by rfl, fun w hS => by go_simp⟩) hHeld ?_
    simp only [List.getElem_toArray, List.getElem_cons_zero, List.getElem_cons_succ, Act.put, List.setIfInBounds_toArray, List.set_cons_zero, List.set_cons_succ]
    refine wpAnyH_take (i := 3) (v := .pointer (some ⟨db, 2, none⟩)) rfl (by kernel_rfl) (by kernel_rfl) (by kernel_rfl) (fun _ _ _ h => h) (Or.inl ⟨by rfl, fun w hS => by go_simp⟩) hHeld ?_
    simp only [List.getElem_toArray, List.getElem_cons_zero, List.getElem_cons_succ, Act.put, List.setIfInBounds_toArray, List.set_cons_zero, List.set_cons_succ]
    refine wpAnyH_take (i := 5) rfl (by kernel_rfl) (by kernel_rfl) (by kernel_rfl) (fun _ _ _ h => h) (yieldsIf_load_mid (by rfl) _ _ rfl B 0 rfl X _ (fun w h => h) Try.underlying104 rfl (by rw [hXl]; exact size104)) hHeld ?_
    simp only [List.getElem_toArray, List.getElem_cons_zero, List.getElem_cons_succ, Act.put, List.setIfInBounds_toArray, List.set_cons_zero, List.set_cons_succ]
    have hone : ∀ cs : List Value, cs.length = 141 → cs = X → True := fun _ _ _ => trivial
    refine wpAnyH_ready (rs := [4, 6]) (by kernel_rfl) (by simp) ?_
    refine AllReadyH.cons rfl (fun K hK => ?_) (AllReadyH.cons rfl (fun K hK => ?_) AllReadyH.nil)
    · go_simp
      refine hK.out _ _ r4 (fun hHeld => ?_)
      clear hK K
      refine wpAnyH_ready (rs := [6]) (by kernel_rfl) (by simp) ?_
      refine AllReadyH.cons rfl (fun K hK => ?_) AllReadyH.nil
      rw [if_pos (by rfl)]
      refine wp_one _ rfl X rfl hXl ?_
      refine hK.out _ _ r5 (fun hHeld => ?_)
      clear hK K
      simp only [List.getElem_toArray, List.getElem_cons_zero, List.getElem_cons_succ, Act.put, List.setIfInBounds_toArray, List.set_cons_zero, List.set_cons_succ]
      refine wpAnyH_ready (rs := [7]) (by kernel_rfl) (by simp) ?_
      refine AllReadyH.cons rfl (fun K hK => ?_) AllReadyH.nil
      refine step_append_runI rfl _ _ 95 95 rfl v2 (.slice (some ⟨C, 0, none⟩) 1 1) rfl (by first | rfl | (rw [← hC]; rfl)) hap ?_
      refine hK.out _ _ r6 (fun hHeld => ?_)
      clear hK K
      simp only [List.getElem_toArray, List.getElem_cons_zero, List.getElem_cons_succ, Act.put, List.setIfInBounds_toArray, List.set_cons_zero, List.set_cons_succ]
      refine wpAnyH_take (i := 8) (v := .pointer (some ⟨db, 0, none⟩)) rfl (by kernel_rfl) (by kernel_rfl) (by kernel_rfl) (fun _ _ _ h => h) (Or.inl ⟨by rfl, fun w hS => by go_simp⟩) hHeld ?_
      simp only [List.getElem_toArray, List.getElem_cons_zero, List.getElem_cons_succ, Act.put, List.setIfInBounds_toArray, List.set_cons_zero, List.set_cons_succ]
      refine wpAnyH_take (i := 9) (v := .pointer (some ⟨db, 2, none⟩)) rfl (by kernel_rfl) (by kernel_rfl) (by kernel_rfl) (fun _ _ _ h => h) (Or.inl ⟨by rfl, fun w hS => by go_simp⟩) hHeld ?_
      simp only [List.getElem_toArray, List.getElem_cons_zero, List.getElem_cons_succ, Act.put, List.setIfInBounds_toArray, List.set_cons_zero, List.set_cons_succ]
      refine wpAnyH_ready (rs := [10]) (by kernel_rfl) (by simp) ?_
      refine AllReadyH.cons rfl (fun K hK => ?_) AllReadyH.nil
      go_simp
      refine hK.out _ _ r7 (fun hHeld => ?_)
      clear hK K
      refine wpAnyH_done (by kernel_rfl) ?_ _
      go_wp2_with fail
      go_ret
      exact ⟨rfl, unhide HF⟩
    · rw [if_pos (by rfl)]
      refine wp_one _ rfl X rfl hXl ?_
      refine hK.out _ _ r5 (fun hHeld => ?_)
      clear hK K
      simp only [List.getElem_toArray, List.getElem_cons_zero, List.getElem_cons_succ, Act.put, List.setIfInBounds_toArray, List.set_cons_zero, List.set_cons_succ]
      refine wpAnyH_ready (rs := [4]) (by kernel_rfl) (by simp) ?_
      refine AllReadyH.cons rfl (fun K hK => ?_) AllReadyH.nil
      go_simp
      refine hK.out _ _ r5 (fun hHeld => ?_)
      clear hK K
      refine wpAnyH_ready (rs := [7]) (by kernel_rfl) (by simp) ?_
      refine AllReadyH.cons rfl (fun K hK => ?_) AllReadyH.nil
      refine step_append_runI rfl _ _ 95 95 rfl v2 (.slice (some ⟨C, 0, none⟩) 1 1) rfl (by first | rfl | (rw [← hC]; rfl)) hap ?_
      refine hK.out _ _ r6 (fun hHeld => ?_)
      clear hK K
      simp only [List.getElem_toArray, List.getElem_cons_zero, List.getElem_cons_succ, Act.put, List.setIfInBounds_toArray, List.set_cons_zero, List.set_cons_succ]
      refine wpAnyH_take (i := 8) (v := .pointer (some ⟨db, 0, none⟩)) rfl (by kernel_rfl) (by kernel_rfl) (by kernel_rfl) (fun _ _ _ h => h) (Or.inl ⟨by rfl, fun w hS => by go_simp⟩) hHeld ?_
      simp only [List.getElem_toArray, List.getElem_cons_zero, List.getElem_cons_succ, Act.put, List.setIfInBounds_toArray, List.set_cons_zero, List.set_cons_succ]
      refine wpAnyH_take (i := 9) (v := .pointer (some ⟨db, 2, none⟩)) rfl (by kernel_rfl) (by kernel_rfl) (by kernel_rfl) (fun _ _ _ h => h) (Or.inl ⟨by rfl, fun w hS => by go_simp⟩) hHeld ?_
      simp only [List.getElem_toArray, List.getElem_cons_zero, List.getElem_cons_succ, Act.put, List.setIfInBounds_toArray, List.set_cons_zero, List.set_cons_succ]
      refine wpAnyH_ready (rs := [10]) (by kernel_rfl) (by simp) ?_
      refine AllReadyH.cons rfl (fun K hK => ?_) AllReadyH.nil
      go_simp
      refine hK.out _ _ r7 (fun hHeld => ?_)
      clear hK K
      refine wpAnyH_done (by kernel_rfl) ?_ _
      go_wp2_with fail
      go_ret
      exact ⟨rfl, unhide HF⟩
#print axioms write_calls
end Go.Proofs.Ytcjfhfalffngjaa
