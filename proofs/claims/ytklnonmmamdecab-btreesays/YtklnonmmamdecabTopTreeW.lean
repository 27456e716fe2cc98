/-
  The walk of TopTree: it answers true for all acts.
-/
import Derived.Test.YtklnonmmamdecabTreeFacts
import Derived.Deep.CutRange
import Derived.Deep.RegionHeld3
namespace Go.Proofs.Ytklnonmmamdecab
open Go.RowKit Go.Lib
set_option linter.unusedVariables false
set_option linter.unusedSimpArgs false

def bItem : Item := ⟨⟨#[97]⟩, ⟨#[]⟩, 1⟩
theorem bItem_full : bItem.key.toList.isEmpty = false := by rw [Go.Lib.toList_data]; rfl

theorem TreeIn.made {base : Nat} {w0 w : World} {K0 : Nat → Nat} {tb : Nat} {L : List Item} {l2 : List Res} (h : TreeIn base w0 K0 w tb L l2) (t : TypeId) (vs : List Value) : TreeIn base w0 K0 (w.alloc (.cells vs.toArray t)) tb L (.cell w.heap.size t vs :: l2) := by
  have hb := h.low
  obtain ⟨h1, h2, k, h3, h4, h5, H⟩ := h
  exact ⟨h1, h2, k, h3, h4, h5, ((H.made hb t vs).front [_, _]).front [_, _]⟩
theorem TreeIn.cellAt {base : Nat} {w0 w : World} {K0 : Nat → Nat} {tb : Nat} {L : List Item} {l2 : List Res} (h : TreeIn base w0 K0 w tb L l2) {b : Nat} {t : TypeId} {vs : List Value} (hm : Res.cell b t vs ∈ l2) {j : Nat} {v : Value} (hv : vs[j]? = some v) : w.cell? ⟨b, j, none⟩ = some v := by
  obtain ⟨_, _, _, _, _, _, H⟩ := h
  exact H.cellAt (t := t) (vs := vs) (by simp only [List.mem_cons]; exact .inr (.inr hm)) hv

theorem TreeIn.alloc {base : Nat} {w0 w : World} {K0 : Nat → Nat} {tb : Nat} {L : List Item} {l2 : List Res} (h : TreeIn base w0 K0 w tb L l2) (o : Obj) : TreeIn base w0 K0 (w.alloc o) tb L l2 := by
  obtain ⟨h1, h2, k, h3, h4, h5, H⟩ := h
  exact ⟨h1, h2, k, h3, h4, h5, H.alloc o⟩
/-- What Get hands back, opened. -/
theorem getV_open (o : Option Item) : ∃ nm nd was, getV o = .tuple #[.agg #[.string nm, .int .i64 nd], .bool was] ∧ o.isSome = was := by
  cases o with
  | none => exact ⟨_, _, _, rfl, rfl⟩
  | some x => exact ⟨_, _, _, rfl, rfl⟩

set_option maxRecDepth 100000 in
set_option maxHeartbeats 4000000 in
theorem topTree_walk (v : Value) (n : Nat) (f : Nat → ActD) (W : World) (h : ActsOk W v n f) :
    Calls Try.prog 4 #[v] W fun e w' => e = .returned (.bool true) ∧ Below W.heap.size W w' := by
  have e1 := new_calls W.heap.size W (fun _ => 0) W [] (Hold.init W) (Nat.le_refl _)
  have E1 := hide e1
  have HA := hide h
  have hvs : ∃ p c, v = .slice p n c := by
    rcases h with ⟨⟨p, c, h1⟩, h2⟩ | ⟨b, off, c, h1, _⟩
    · exact ⟨p, c, by rw [h1, h2]⟩
    · exact ⟨_, c, h1⟩
  obtain ⟨p, cv, hv⟩ := hvs
  rw [hv]
  rw [hv] at HA
  clear e1 h hv
  go_enter Try.func4, Try.ntmps4
  go_wp2_with fail
  refine (unhide E1).mono ?_
  rintro e w1 ⟨tb, rfl, hT⟩
  have e2 := treePut_calls W.heap.size W (fun _ => 0) w1 tb [] bItem [] hT bItem_full
  have E2 := hide e2
  clear e2 hT E1
  go_wp2_with fail
  refine (unhide E2).mono ?_
  rintro e w2 ⟨rfl, hT⟩
  have hL1 : putL [] bItem = [bItem] := rfl
  rw [hL1] at hT
  have e3 := treeDrop_calls W.heap.size W (fun _ => 0) w2 tb [bItem] [] ⟨#[97]⟩ hT
  have E3 := hide e3
  clear e3 hT E2 hL1
  go_wp2_with fail
  refine (unhide E3).mono ?_
  rintro e w3 ⟨rfl, hT⟩
  have h31 : (getL [bItem] ⟨#[97]⟩).isSome = true := by decide +kernel
  have h30 : dropL [bItem] ⟨#[97]⟩ = [] := by decide +kernel
  rw [h31]
  rw [h30] at hT
  have e4 := many_calls W.heap.size W (fun _ => 0) w3 tb [] [] hT (fun x hx => by simp at hx) (by simp)
  have E4 := hide e4
  clear e4 hT E3 h31 h30
  go_wp2_with fail
  refine (unhide E4).mono ?_
  rintro e w4 ⟨rfl, hT⟩
  have e5 := treeDeep_calls W.heap.size W (fun _ => 0) w4 tb [] [] hT (by simp)
  have E5 := hide e5
  clear e5 hT E4
  go_wp2_with fail
  refine (unhide E5).mono ?_
  rintro e w5 ⟨h, rfl, h5, hT⟩
  have h50 : h = 0 := by
    rcases h5 with h5 | h5
    · exact h5
    · have := Nat.pow_le_pow_right (n := 2) (by omega) (show 1 ≤ h + 1 by omega)
      simp at h5
  subst h50
  have e6 := lightActs_calls (.slice p n cv) n f w5 ((unhide HA).below hT.below) 150 (by omega)
  have E6 := hide e6
  have HT := hide hT
  clear e6 hT E5 h5
  go_wp2_with fail
  refine (unhide E6).mono ?_
  rintro e w6 ⟨⟨r, rfl, hr⟩, rfl⟩
  cases r with
  | false =>
    go_wp2_with fail
    go_ret
    exact ⟨rfl, (unhide HT).below⟩
  | true =>
  have hn150 : n ≤ 150 := hr rfl
  clear hr E6
  go_wp2_with fail
  go_loopg [4] (n + 1) (fun g vi wr => ∃ (i : Nat) (L : List Item), n - i < g ∧ i ≤ n ∧ vi = .int .i64 i ∧ L.length ≤ i ∧ Hid (Full L) ∧ Hid (TreeIn W.heap.size W (fun _ => 0) wr tb L []))
  case atStart => exact ⟨0, [], by omega, by omega, rfl, by simp, fun x hx => by simp at hx, HT⟩
  case round =>
    obtain ⟨i, L, hg, hi, rfl, hL, HF, HT2⟩ := hrel
    by_cases hin : i < n
    · have hiz : (i : Int) < (n : Int) := by omega
      have hA := (unhide HA).below (unhide HT2).below
      rcases hA with ⟨_, h0⟩ | ⟨b, off, c, hv, hn63, hb, hcells⟩
      · omega
      · injection hv with hp _ hcc
        subst hp hcc
        obtain ⟨q0, q1, q2, q3, ⟨u4, q4⟩, q5, hch⟩ := hcells i hin
        obtain ⟨⟨kind, S, T, N, ch⟩, hS⟩ : ∃ d, (f i) = d := ⟨_, rfl⟩
        rw [hS] at q0 q1 q2 q3 q5 hch
        simp only at q0 q1 q2 q3 q5 hch
        obtain ⟨cp, cl, cc, hchv⟩ : ∃ cp cl cc, ch = .slice cp cl cc := by
          rcases hch with ⟨p, c, h1⟩ | ⟨b, off, m, c, h1, _⟩
          · exact ⟨_, _, _, h1⟩
          · exact ⟨_, _, _, h1⟩
        subst hchv
        clear hcells hS hch
        by_cases hse : S.toList.isEmpty = true
        · have hse2 : (S.toList == []) = true := by simpa using hse
          go_wp2_with fail
          go_roundg (n - i)
          case measure => omega
          case rel => exact ⟨i + 1, L, by omega, by omega, by simp, by omega, HF, by have h1 := ((unhide HT2).made 31 [.string kind, .string S, .string T, .int .i64 N, .int .u64 u4, .slice cp cl cc]).forget []; exact h1⟩
        · have hse1 : S.toList.isEmpty = false := by simpa using hse
          have hse2 : (S.toList == []) = false := by simpa using hse1
          obtain ⟨ab, hab⟩ : ∃ ab, wr.heap.size = ab := ⟨_, rfl⟩
          obtain ⟨wa, hwa⟩ : ∃ wa, wr.alloc (.cells #[.string kind, .string S, .string T, .int .i64 N, .int .u64 u4, .slice cp cl cc] 31) = wa := ⟨_, rfl⟩
          have hTa : TreeIn W.heap.size W (fun _ => 0) wa tb L [.cell ab 31 [.string kind, .string S, .string T, .int .i64 N, .int .u64 u4, .slice cp cl cc]] := by rw [← hab, ← hwa]; exact (unhide HT2).made 31 [.string kind, .string S, .string T, .int .i64 N, .int .u64 u4, .slice cp cl cc]
          have c0 : wa.cell? ⟨ab, 0, none⟩ = some (.string kind) := hTa.cellAt (List.mem_singleton.2 rfl) rfl
          have c1 : wa.cell? ⟨ab, 1, none⟩ = some (.string S) := hTa.cellAt (List.mem_singleton.2 rfl) rfl
          have HTa := hide hTa
          clear hTa hse
          obtain ⟨m0, hm0⟩ : ∃ m0, L.length = m0 := ⟨_, rfl⟩
          have e7 := many_calls W.heap.size W (fun _ => 0) wa tb L _ (unhide HTa) (unhide HF) (by omega)
          rw [hm0] at e7
          have E7 := hide e7
          have Hm0 := hide hm0
          have hm150 : m0 ≤ 150 := by omega
          have Hmi := hide (show m0 ≤ i by omega)
          clear e7 hm0 hL
          go_wp2_with fail
          refine (unhide E7).mono ?_
          rintro e w7 ⟨rfl, hT⟩
          have c1 : w7.cell? ⟨ab, 1, none⟩ = some (.string S) := hT.cellAt (List.mem_singleton.2 rfl) rfl
          obtain ⟨nm, nd, was, hgv, hwas⟩ := getV_open (getL L S)
          have e8 := get_calls W.heap.size W (fun _ => 0) w7 tb L _ S hT
          unfold GetEnd at e8
          rw [hgv] at e8
          have E8 := hide e8
          have Hwas := hide hwas
          have HS := hide hT.sorted
          clear e8 hT E7 hgv hwas HTa HT2 hwa hab q0 q1 q2 q3 q4 q5
          go_wp2_with fail
          refine (unhide E8).mono ?_
          rintro e w8 ⟨rfl, hT⟩
          have c0 : ∀ o, (w8.alloc o).cell? ⟨ab, 0, none⟩ = some (.string kind) := fun o => (hT.alloc o).cellAt (List.mem_singleton.2 rfl) rfl
          have c1 : ∀ o, (w8.alloc o).cell? ⟨ab, 1, none⟩ = some (.string S) := fun o => (hT.alloc o).cellAt (List.mem_singleton.2 rfl) rfl
          have c2 : ∀ o, (w8.alloc o).cell? ⟨ab, 2, none⟩ = some (.string T) := fun o => (hT.alloc o).cellAt (List.mem_singleton.2 rfl) rfl
          have c3 : ∀ o, (w8.alloc o).cell? ⟨ab, 3, none⟩ = some (.int .i64 N) := fun o => (hT.alloc o).cellAt (List.mem_singleton.2 rfl) rfl
          have HT8 := hide hT
          clear hT E8
          obtain ⟨bk, hbk⟩ : ∃ bk, (kind.toList == [100, 114, 111, 112]) = bk := ⟨_, rfl⟩
          go_upto_if 59 with fail
          go_cut [5, 6, 7, 8, 9, 10, 11, 12, 13, 14] from 35 to 164 (fun _ _ _ _ _ _ _ _ _ _ wx => ∃ L' : List Item, L'.length ≤ i + 1 ∧ Hid (Full L') ∧ Hid (TreeIn W.heap.size W (fun _ => 0) wx tb L' []))
          case first =>
            cases bk with
            | true =>
              have e9 : ∀ o, Calls Try.prog 12 #[.pointer (some ⟨tb, 0, none⟩), .string S] (w8.alloc o) fun e w' => TreeDropEnd W.heap.size W (fun _ => 0) tb L S _ e w' := fun o => treeDrop_calls W.heap.size W (fun _ => 0) _ tb L _ S ((unhide HT8).alloc o)
              have E9 := hide e9
              clear e9
              go_wp2_with fail
              refine (unhide E9 _).mono ?_
              rintro e w9 ⟨rfl, hT⟩
              rw [unhide Hwas]
              have d1 : w9.cell? ⟨ab, 1, none⟩ = some (.string S) := hT.cellAt (List.mem_singleton.2 rfl) rfl
              have e10 := get_calls W.heap.size W (fun _ => 0) w9 tb _ _ S hT
              unfold GetEnd at e10
              rw [getL_drop] at e10
              unfold getV at e10
              have E10 := hide e10
              clear e10 hT E9 c0 c1 c2 c3
              go_wp2_with fail
              refine (unhide E10).mono ?_
              rintro e w10 ⟨rfl, hT⟩
              obtain ⟨m1, hm1⟩ : ∃ m1, (dropL L S).length = m1 := ⟨_, rfl⟩
              have hm1le : m1 ≤ m0 := by rw [← hm1, ← unhide Hm0]; exact List.length_filter_le _ _
              have e11 : ∀ o, Calls Try.prog 16 #[.pointer (some ⟨tb, 0, none⟩)] (w10.alloc o) fun e w' => e = .returned (.int .i64 m1) ∧ TreeIn W.heap.size W (fun _ => 0) w' tb (dropL L S) _ := fun o => by
                have := many_calls W.heap.size W (fun _ => 0) _ tb (dropL L S) _ (hT.alloc o) (dropL_full (unhide HF)) (by omega)
                rw [hm1] at this
                exact this
              have E11 := hide e11
              have Hm1 := hide hm1
              clear e11 hT E10 d1 hm1
              cases was with
              | true =>
                have hd : (m0 : Int) - 1 = (m1 : Int) := by
                  have := dropL_some (unhide HS) (unhide Hwas)
                  rw [unhide Hm0, unhide Hm1] at this
                  omega
                go_wp2_with fail
                refine (unhide E11 _).mono ?_
                rintro e w11 ⟨rfl, hT⟩
                have HT11 := hide (hT.forget [])
                clear hT E11
                go_wp2_with fail
                go_meet
                exact ⟨dropL L S, by have := unhide Hm1; have := unhide Hmi; omega, dropL_full (unhide HF), HT11⟩
              | false =>
                have hd : m1 = m0 := by
                  rw [← unhide Hm0, ← unhide Hm1, dropL_no (unhide Hwas)]
                subst hd
                go_wp2_with fail
                refine (unhide E11 _).mono ?_
                rintro e w11 ⟨rfl, hT⟩
                have HT11 := hide (hT.forget [])
                clear hT E11
                go_wp2_with fail
                go_meet
                exact ⟨dropL L S, by have := unhide Hm1; have := unhide Hmi; omega, dropL_full (unhide HF), HT11⟩
            | false =>
              have e9 : ∀ o, Calls Try.prog 9 #[.pointer (some ⟨tb, 0, none⟩), .string S, .agg #[.string T, .int .i64 N]] (w8.alloc o) fun e w' => TreePutEnd W.heap.size W (fun _ => 0) tb L ⟨S, T, N⟩ _ e w' := fun o => treePut_calls W.heap.size W (fun _ => 0) _ tb L ⟨S, T, N⟩ _ ((unhide HT8).alloc o) hse1
              have E9 := hide e9
              clear e9
              go_wp2_with fail
              refine (unhide E9 _).mono ?_
              rintro e w9 ⟨rfl, hT⟩
              have d1 : w9.cell? ⟨ab, 1, none⟩ = some (.string S) := hT.cellAt (List.mem_singleton.2 rfl) rfl
              have e10 := get_calls W.heap.size W (fun _ => 0) w9 tb _ _ S hT
              unfold GetEnd at e10
              rw [getL_put ⟨S, T, N⟩ (unhide HS)] at e10
              unfold getV at e10
              have E10 := hide e10
              clear e10 hT E9 c0 c1 c2 c3
              go_wp2_with fail
              refine (unhide E10).mono ?_
              rintro e w10 ⟨rfl, hT⟩
              obtain ⟨m1, hm1⟩ : ∃ m1, (putL L ⟨S, T, N⟩).length = m1 := ⟨_, rfl⟩
              have hm1le : m1 ≤ m0 + 1 := by rw [← hm1, ← unhide Hm0]; exact putL_length _ _
              have e11 : ∀ o, Calls Try.prog 16 #[.pointer (some ⟨tb, 0, none⟩)] (w10.alloc o) fun e w' => e = .returned (.int .i64 m1) ∧ TreeIn W.heap.size W (fun _ => 0) w' tb (putL L ⟨S, T, N⟩) _ := fun o => by
                have := many_calls W.heap.size W (fun _ => 0) _ tb (putL L ⟨S, T, N⟩) _ (hT.alloc o) ((unhide HF).put hse1) (by omega)
                rw [hm1] at this
                exact this
              have d2 : ∀ o, (w10.alloc o).cell? ⟨ab, 2, none⟩ = some (.string T) := fun o => (hT.alloc o).cellAt (List.mem_singleton.2 rfl) rfl
              have d3 : ∀ o, (w10.alloc o).cell? ⟨ab, 3, none⟩ = some (.int .i64 N) := fun o => (hT.alloc o).cellAt (List.mem_singleton.2 rfl) rfl
              have E11 := hide e11
              have Hm1 := hide hm1
              clear e11 hT E10 d1 hm1
              cases was with
              | true =>
                have hd : m1 = m0 := by
                  rw [← unhide Hm0, ← unhide Hm1, putL_len_some (it := ⟨S, T, N⟩) (unhide HS) (unhide Hwas)]
                subst hd
                go_wp2_with fail
                refine (unhide E11 _).mono ?_
                rintro e w11 ⟨rfl, hT⟩
                have HT11 := hide (hT.forget [])
                clear hT E11
                go_wp2_with fail
                go_meet
                exact ⟨putL L ⟨S, T, N⟩, by have := unhide Hm1; have := unhide Hmi; omega, (unhide HF).put hse1, HT11⟩
              | false =>
                have hd : m1 = m0 + 1 := by
                  rw [← unhide Hm0, ← unhide Hm1, putL_len_no (it := ⟨S, T, N⟩) (unhide Hwas)]
                subst hd
                go_wp2_with fail
                refine (unhide E11 _).mono ?_
                rintro e w11 ⟨rfl, hT⟩
                have HT11 := hide (hT.forget [])
                clear hT E11
                go_wp2_with fail
                go_meet
                exact ⟨putL L ⟨S, T, N⟩, by have := unhide Hm1; have := unhide Hmi; omega, (unhide HF).put hse1, HT11⟩
          case rest =>
            obtain ⟨L', hL', HF', HT'⟩ := hcut
            have e12 := treeDeep_calls W.heap.size W (fun _ => 0) wc tb L' _ (unhide HT') (by omega)
            have E12 := hide e12
            clear e12 HT' HT8
            go_wp2_with fail
            refine (unhide E12).mono ?_
            rintro e w12 ⟨h, rfl, hh, hT⟩
            obtain ⟨m1, hm1⟩ : ∃ m1, L'.length = m1 := ⟨_, rfl⟩
            have hm151 : m1 ≤ 150 := by omega
            rw [hm1] at hh hL'
            have h7 : h ≤ 6 := by
              rcases hh with h1 | h1
              · omega
              · have h2 : 2 ^ (h + 1) < 2 ^ 8 := by omega
                have := (Nat.pow_lt_pow_iff_right (by omega : 1 < 2)).1 h2
                omega
            have e13 : ∀ wx, TreeIn W.heap.size W (fun _ => 0) wx tb L' [] → Calls Try.prog 16 #[.pointer (some ⟨tb, 0, none⟩)] wx fun e w' => e = .returned (.int .i64 m1) ∧ TreeIn W.heap.size W (fun _ => 0) w' tb L' [] := fun wx hx => by
              have := many_calls W.heap.size W (fun _ => 0) wx tb L' [] hx (unhide HF') (by omega)
              rw [hm1] at this
              exact this
            have E13 := hide e13
            have Hm1 := hide hm1
            have HT12 := hide hT
            clear e13 hm1 hT E12
            rcases Nat.eq_zero_or_pos h with h0 | h0
            · subst h0
              go_wp2_with fail
              go_quiet (fail)
              go_wp2_with fail
              go_roundg (n - i)
              case measure => omega
              case rel => exact ⟨i + 1, L', by omega, by omega, by simp, by have := unhide Hm1; omega, HF', (unhide HT12).drewN _⟩
            · obtain ⟨P, hP⟩ : ∃ P : Int, (h = 1 ∧ P = 4 ∨ h = 2 ∧ P = 8 ∨ h = 3 ∧ P = 16 ∨ h = 4 ∧ P = 32 ∨ h = 5 ∧ P = 64 ∨ h = 6 ∧ P = 128) := by
                have : h = 1 ∨ h = 2 ∨ h = 3 ∨ h = 4 ∨ h = 5 ∨ h = 6 := by omega
                rcases this with h | h | h | h | h | h <;> subst h
                · exact ⟨4, by simp⟩
                · exact ⟨8, by simp⟩
                · exact ⟨16, by simp⟩
                · exact ⟨32, by simp⟩
                · exact ⟨64, by simp⟩
                · exact ⟨128, by simp⟩
              have hpow : ¬ ((m1 : Int) + 1 < P) := by
                have h1 := hh.resolve_left (by omega)
                rcases hP with ⟨h, h'⟩ | ⟨h, h'⟩ | ⟨h, h'⟩ | ⟨h, h'⟩ | ⟨h, h'⟩ | ⟨h, h'⟩ <;> subst h <;> simp at h1 <;> omega
              have hbq : decide ((m1 : Int) + 1 < P) = false := decide_eq_false hpow
              have hwP : IntKind.i64.wrap P = P := by rcases hP with ⟨_, h'⟩ | ⟨_, h'⟩ | ⟨_, h'⟩ | ⟨_, h'⟩ | ⟨_, h'⟩ | ⟨_, h'⟩ <;> subst h' <;> rfl
              have hwm : IntKind.i64.wrap ((m1 : Int) + 1) = (m1 : Int) + 1 := by rw [IntKind.wrap_i64]; omega
              have HLi : Hid (L'.length ≤ i + 1) := by have := unhide Hm1; exact (show L'.length ≤ i + 1 by omega)
              clear hh h7 h0 hL' hm151
              rcases hP with ⟨h, h'⟩ | ⟨h, h'⟩ | ⟨h, h'⟩ | ⟨h, h'⟩ | ⟨h, h'⟩ | ⟨h, h'⟩ <;> subst h h'
              all_goals
                go_wp2_with fail
                go_region_held3 (fun _ => True) (go_keep) ((go_at_call 16; refine (unhide E13 _ ?_).mono ?_; exact (unhide HT12).drew; rintro e w13 ⟨rfl, hT13⟩; have HT13 := hide hT13; clear hT13))
                go_wp2_with fail
                go_roundg (n - i)
                case measure => omega
                case rel => exact ⟨i + 1, L', by omega, by omega, by simp, unhide HLi, HF', HT13⟩
    · have hiz : ¬ ((i : Int) < (n : Int)) := by omega
      go_wp2_with fail
      go_ret
      exact ⟨rfl, (unhide HT2).below⟩
#print axioms topTree_walk
end Go.Proofs.Ytklnonmmamdecab
