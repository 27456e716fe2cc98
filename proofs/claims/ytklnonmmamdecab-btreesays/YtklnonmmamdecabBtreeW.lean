/-
  The walk of BtreeSays: it answers true for all acts, every text and every number.
-/
import Derived.Test.YtklnonmmamdecabTreeRef
import Derived.Deep.CutRange
import Derived.Deep.CutBlock
namespace Go.Proofs.Ytklnonmmamdecab
open Go.RowKit Go.Lib
set_option linter.unusedVariables false
set_option linter.unusedSimpArgs false

set_option maxRecDepth 100000 in
set_option maxHeartbeats 4000000 in
theorem btree_walk (v : Value) (n : Nat) (f : Nat → ActD) (after : ByteArray) (many : Int) (W : World) (h : ActsOk W v n f) (hm1 : -9223372036854775808 ≤ many) (hm2 : many ≤ 9223372036854775807) :
    Calls Try.prog 3 #[v, .string after, .int .i64 many] W fun e w' => e = .returned (.bool true) ∧ Below W.heap.size W w' := by
  have e1 := trees_calls W.heap.size W (fun _ => 0) W [] (Hold.init W) (Nat.le_refl _)
  have E1 := hide e1
  have HA := hide h
  have hvs : ∃ p c, v = .slice p n c := by
    rcases h with ⟨⟨p, c, h1⟩, h2⟩ | ⟨b, off, c, h1, _⟩
    · exact ⟨p, c, by rw [h1, h2]⟩
    · exact ⟨_, c, h1⟩
  obtain ⟨p, cv, hv⟩ := hvs
  rw [hv]
  rw [hv] at HA
  clear e1 h hv
  go_enter Try.func3, Try.ntmps3
  go_wp2_with fail
  refine (unhide E1).mono ?_
  rintro e w1 ⟨rfl, hb1, H1⟩
  have e2 := lightActs_calls (.slice p n cv) n f w1 ((unhide HA).below H1.belowW) 120 (by omega)
  have E2 := hide e2
  have HH1 := hide H1
  clear e2 H1 E1
  go_wp2_with fail
  refine (unhide E2).mono ?_
  rintro e w2 ⟨⟨r, rfl, hr⟩, rfl⟩
  cases r with
  | false =>
    go_wp2_with fail
    go_ret
    exact ⟨rfl, (unhide HH1).belowW⟩
  | true =>
  have hn120 : n ≤ 120 := hr rfl
  clear hr E2
  have e3 := new_calls W.heap.size W (fun _ => 0) w2 [] (unhide HH1) hb1
  have E3 := hide e3
  clear e3
  by_cases hsz : 60 < (after.size : Int)
  · go_wp2_with fail
    go_ret
    exact ⟨rfl, (unhide HH1).belowW⟩
  · go_wp2_with fail
    refine (unhide E3).mono ?_
    rintro e w3 ⟨tb, rfl, hT⟩
    have HT := hide hT
    clear hT E3 HH1
    go_wp2_with fail
    go_loopg [8, 9, 10] (n + 1) (fun g v8 v9 vi wr => ∃ (i : Nat) (L : List Item) (tb : Nat), n - i < g ∧ i ≤ n ∧ v8 = .pointer (some ⟨tb, 0, none⟩) ∧ vi = .int .i64 i ∧ L.length ≤ i ∧ Hid (Full L) ∧ Hid (TreeIn W.heap.size W (fun _ => 0) wr tb L [rowP v9 L]))
    case atStart => exact ⟨0, [], tb, by omega, by omega, rfl, rfl, by simp, fun x hx => by simp at hx, (unhide HT).nilP⟩
    case round =>
      obtain ⟨i, L, tb, hg, hi, rfl, rfl, hL, HF, HT2⟩ := hrel
      by_cases hin : i < n
      · have hiz : (i : Int) < (n : Int) := by omega
        have hA := (unhide HA).below (unhide HT2).below
        rcases hA with ⟨_, h0⟩ | ⟨b, off, c, hv, hn63, hb, hcells⟩
        · omega
        · injection hv with hp _ hcc
          subst hp hcc
          obtain ⟨q0, q1, q2, q3, ⟨u4, q4⟩, q5, hch⟩ := hcells i hin
          obtain ⟨⟨kind, S, T, N, ch⟩, hS⟩ : ∃ d, (f i) = d := ⟨_, rfl⟩
          rw [hS] at q0 q1 q2 q3 q5 hch
          simp only at q0 q1 q2 q3 q5 hch
          obtain ⟨cp, cl, cc, hchv⟩ : ∃ cp cl cc, ch = .slice cp cl cc := by
            rcases hch with ⟨p, c, h1⟩ | ⟨b, off, m, c, h1, _⟩
            · exact ⟨_, _, _, h1⟩
            · exact ⟨_, _, _, h1⟩
          subst hchv
          clear hcells hS hch
          by_cases hse : S.toList.isEmpty = true
          · have hse2 : (S.toList == []) = true := by simpa using hse
            go_wp2_with fail
            go_roundg (n - i)
            case measure => omega
            case rel => exact ⟨i + 1, L, tb, by omega, by omega, rfl, by simp, by omega, HF, (unhide HT2).alloc _⟩
          · have hse1 : S.toList.isEmpty = false := by simpa using hse
            have hse2 : (S.toList == []) = false := by simpa using hse1
            obtain ⟨ab, hab⟩ : ∃ ab, wr.heap.size = ab := ⟨_, rfl⟩
            obtain ⟨wa, hwa⟩ : ∃ wa, wr.alloc (.cells #[.string kind, .string S, .string T, .int .i64 N, .int .u64 u4, .slice cp cl cc] 31) = wa := ⟨_, rfl⟩
            have hTa : TreeIn W.heap.size W (fun _ => 0) wa tb L [.cell ab 31 [.string kind, .string S, .string T, .int .i64 N, .int .u64 u4, .slice cp cl cc], rowP u9 L] := by rw [← hab, ← hwa]; exact (unhide HT2).made 31 [.string kind, .string S, .string T, .int .i64 N, .int .u64 u4, .slice cp cl cc]
            have c0 : wa.cell? ⟨ab, 0, none⟩ = some (.string kind) := hTa.cellAt (List.mem_cons_self ..) rfl
            have c1 : wa.cell? ⟨ab, 1, none⟩ = some (.string S) := hTa.cellAt (List.mem_cons_self ..) rfl
            have HTa := hide hTa
            clear hTa hse
            obtain ⟨m0, hm0⟩ : ∃ m0, L.length = m0 := ⟨_, rfl⟩
            rw [hm0] at hL
            obtain ⟨pm, cm, hu9⟩ := row_len ((unhide HTa).rowP_at (v := u9) (l := L) (by simp))
            rw [hm0] at hu9
            subst hu9
            have Hm0 := hide hm0
            have HS := hide (unhide HTa).sorted
            have HF0 := hide (unhide HF)
            clear hm0
            obtain ⟨bp, hbp⟩ : ∃ bp, (kind.toList == [112, 117, 116]) = bp := ⟨_, rfl⟩
            obtain ⟨bd, hbd⟩ : ∃ bd, (kind.toList == [100, 114, 111, 112]) = bd := ⟨_, rfl⟩
            go_upto_block 2 with fail
            go_cut [8, 9, 12, 13, 14, 15] from 35 to 131 (fun a8 a9 _ _ _ _ wx => ∃ (L' : List Item) (tb' : Nat), a8 = .pointer (some ⟨tb', 0, none⟩) ∧ L'.length ≤ i + 1 ∧ Hid (Full L') ∧ Hid (TreeIn W.heap.size W (fun _ => 0) wx tb' L' [rowP a9 L', .cell ab 31 [.string kind, .string S, .string T, .int .i64 N, .int .u64 u4, .slice cp cl cc]]))
            case first =>
              cases bp with
              | true =>
                obtain ⟨eb, heb⟩ : ∃ eb, wa.heap.size = eb := ⟨_, rfl⟩
                obtain ⟨wb, hwb⟩ : ∃ wb, wa.alloc (.cells #[.string T, .int .i64 N] 33) = wb := ⟨_, rfl⟩
                have hTb : TreeIn W.heap.size W (fun _ => 0) wb tb L [.cell eb 33 [.string T, .int .i64 N], .cell ab 31 [.string kind, .string S, .string T, .int .i64 N, .int .u64 u4, .slice cp cl cc], rowP (.slice pm m0 cm) L] := by rw [← heb, ← hwb]; exact (unhide HTa).made 33 [.string T, .int .i64 N]
                have c1 : wb.cell? ⟨ab, 1, none⟩ = some (.string S) := hTb.cellAt (List.mem_cons_of_mem _ (List.mem_cons_self ..)) rfl
                have c2 : wa.cell? ⟨ab, 2, none⟩ = some (.string T) := (unhide HTa).cellAt (List.mem_cons_self ..) rfl
                have c3 : wa.cell? ⟨ab, 3, none⟩ = some (.int .i64 N) := (unhide HTa).cellAt (List.mem_cons_self ..) rfl
                have d0 : wb.cell? ⟨eb, 0, none⟩ = some (.string T) := hTb.cellAt (List.mem_cons_self ..) rfl
                have d1 : wb.cell? ⟨eb, 1, none⟩ = some (.int .i64 N) := hTb.cellAt (List.mem_cons_self ..) rfl
                have e4 := treePut_calls W.heap.size W (fun _ => 0) wb tb L ⟨S, T, N⟩ _ hTb hse1
                have E4 := hide e4
                clear e4 hTb
                go_wp2_with fail
                refine (unhide E4).mono ?_
                rintro e w4 ⟨rfl, hT⟩
                have f1 : w4.cell? ⟨ab, 1, none⟩ = some (.string S) := hT.cellAt (List.mem_cons_of_mem _ (List.mem_cons_self ..)) rfl
                have g0 : w4.cell? ⟨eb, 0, none⟩ = some (.string T) := hT.cellAt (List.mem_cons_self ..) rfl
                have g1 : w4.cell? ⟨eb, 1, none⟩ = some (.int .i64 N) := hT.cellAt (List.mem_cons_self ..) rfl
                have e5 := tRefPut_calls hT (vm := .slice pm m0 cm) (l := L) (by simp) (by have := unhide Hm0; omega) (unhide HS) ⟨S, T, N⟩
                have E5 := hide e5
                clear e5 hT E4 d0 d1
                go_wp2_with fail
                refine (unhide E5).mono ?_
                rintro e w5 ⟨v5, rfl, hT⟩
                have HT5 := hide ((hT.forget [_]).forget [_, _])
                clear hT E5
                go_wp2_with fail
                go_meet
                exact ⟨putL L ⟨S, T, N⟩, tb, rfl, by have := putL_length ⟨S, T, N⟩ L; have := unhide Hm0; omega, (unhide HF0).put hse1, HT5⟩
              | false =>
              cases bd with
              | true =>
                obtain ⟨nm, nd, was, hgv, hwas⟩ := getV_open (getL L S)
                have e4 := tRefGet_calls (unhide HTa) (vm := .slice pm m0 cm) (l := L) (by simp) (by have := unhide Hm0; omega) S
                unfold TRefGetEnd at e4
                rw [hgv] at e4
                have E4 := hide e4
                have Hwas := hide hwas
                clear e4 hgv hwas
                go_wp2_with fail
                refine (unhide E4).mono ?_
                rintro e w4 ⟨rfl, hT⟩
                have c1 : ∀ o, (w4.alloc o).cell? ⟨ab, 1, none⟩ = some (.string S) := fun o => (hT.alloc o).cellAt (List.mem_cons_self ..) rfl
                have e5 : ∀ o, Calls Try.prog 12 #[.pointer (some ⟨tb, 0, none⟩), .string S] (w4.alloc o) fun e w' => TreeDropEnd W.heap.size W (fun _ => 0) tb L S _ e w' := fun o => treeDrop_calls W.heap.size W (fun _ => 0) _ tb L _ S (hT.alloc o)
                have E5 := hide e5
                clear e5 hT E4
                go_wp2_with fail
                refine (unhide E5 _).mono ?_
                rintro e w5 ⟨rfl, hT⟩
                rw [unhide Hwas]
                have d1 : w5.cell? ⟨ab, 1, none⟩ = some (.string S) := hT.cellAt (List.mem_cons_self ..) rfl
                have e6 := tRefDrop_calls hT (vm := .slice pm m0 cm) (l := L) (by simp) (by have := unhide Hm0; omega) S
                have E6 := hide e6
                clear e6 hT E5 c1
                have hww : (was != was) = false := by cases was <;> rfl
                have hww2 : (was == was) = true := by cases was <;> rfl
                cases was with
                | true =>
                  go_wp2_with fail
                  refine (unhide E6).mono ?_
                  rintro e w6 ⟨v6, rfl, hT⟩
                  have HT6 := hide (hT.forget [_, _])
                  clear hT E6
                  go_wp2_with fail
                  go_meet
                  exact ⟨dropL L S, tb, rfl, by have h1 : (dropL L S).length ≤ L.length := List.length_filter_le _ _; have := unhide Hm0; omega, dropL_full (unhide HF0), HT6⟩
                | false =>
                  go_wp2_with fail
                  refine (unhide E6).mono ?_
                  rintro e w6 ⟨v6, rfl, hT⟩
                  have HT6 := hide (hT.forget [_, _])
                  clear hT E6
                  go_wp2_with fail
                  go_meet
                  exact ⟨dropL L S, tb, rfl, by have h1 : (dropL L S).length ≤ L.length := List.length_filter_le _ _; have := unhide Hm0; omega, dropL_full (unhide HF0), HT6⟩
              | false =>
                have e4 := treeCopy_calls W.heap.size W (fun _ => 0) wa tb L _ (unhide HTa)
                have E4 := hide e4
                clear e4
                go_wp2_with fail
                refine (unhide E4).mono ?_
                rintro e w4 ⟨tb', h', k', rfl, hkL, hkc, hk1, hT⟩
                have c1 : w4.cell? ⟨ab, 1, none⟩ = some (.string S) := hT.cellAt (List.mem_cons_of_mem _ (List.mem_cons_of_mem _ (List.mem_cons_self ..))) rfl
                have e5 := treePut_calls W.heap.size W (fun _ => 0) w4 tb L ⟨S, ⟨#[111, 108, 100]⟩, 0⟩ _ hT hse1
                have E5 := hide e5
                have HkL := hide hkL
                have Hk1 := hide hk1
                clear e5 hT E4 hkL hk1
                go_wp2_with fail
                refine (unhide E5).mono ?_
                rintro e w5 ⟨rfl, hT⟩
                have d1 : w5.cell? ⟨ab, 1, none⟩ = some (.string S) := hT.cellAt (List.mem_cons_of_mem _ (List.mem_cons_of_mem _ (List.mem_cons_self ..))) rfl
                have e6 := treeDrop_calls W.heap.size W (fun _ => 0) w5 tb _ _ S hT
                have E6 := hide e6
                clear e6 hT E5 c1
                go_wp2_with fail
                refine (unhide E6).mono ?_
                rintro e w6 ⟨rfl, hT⟩
                have hT7 := hT.other (unhide HS) (unhide HkL) hkc (unhide Hk1)
                have HT7 : Hid (TreeIn W.heap.size W (fun _ => 0) w6 tb' L [rowP (.slice pm m0 cm) L, .cell ab 31 [.string kind, .string S, .string T, .int .i64 N, .int .u64 u4, .slice cp cl cc]]) := by
                  obtain ⟨h1, h2, k, h3, h4, h5, H⟩ := hT7
                  exact ⟨h1, h2, k, h3, h4, h5, ((H.front [_, _, _]).tree)⟩
                clear hT hT7 E6
                go_wp2_with fail
                go_meet
                exact ⟨L, tb', rfl, by have := unhide Hm0; omega, HF0, HT7⟩
            case rest =>
              obtain ⟨L', tb', rfl, hL', HF', HT'⟩ := hcut
              clear HTa HT2 HF HF0 HS hwa hab q0 q1 q2 q3 q4 q5 c0 c1 hbp hbd Hm0
              obtain ⟨m1, hm1⟩ : ∃ m1, L'.length = m1 := ⟨_, rfl⟩
              rw [hm1] at hL'
              obtain ⟨pn, cn, hu9⟩ := row_len ((unhide HT').rowP_at (v := u9) (l := L') (by simp))
              rw [hm1] at hu9
              subst hu9
              have hm121 : m1 ≤ 121 := by omega
              have c1 : wc.cell? ⟨ab, 1, none⟩ = some (.string S) := (unhide HT').cellAt (List.mem_cons_of_mem _ (List.mem_cons_self ..)) rfl
              obtain ⟨nm, nd, was, hgv, _⟩ := getV_open (getL L' S)
              have e4 := get_calls W.heap.size W (fun _ => 0) wc tb' L' _ S (unhide HT')
              unfold GetEnd at e4
              rw [hgv] at e4
              have E4 := hide e4
              have Hgv := hide hgv
              have Hm1 := hide hm1
              have hne := neq33
              have hgu : ∀ (op : BinOp) (a b : Operand) (x y : Array Value) (w : World), (eqGuard op 33 a b (.agg x) (.agg y)).run Try.prog w = .ok () w := fun op a b x y w => run_eqGuard_agg w op 33 a b x y (by kernel_rfl)
              clear e4 hgv hm1
              go_wp2_with fail
              refine (unhide E4).mono ?_
              rintro e w5 ⟨rfl, hT⟩
              obtain ⟨gx, hgx⟩ : ∃ gx, w5.heap.size = gx := ⟨_, rfl⟩
              obtain ⟨w6, hw6⟩ : ∃ w6, w5.alloc (.cells #[.string nm, .int .i64 nd] 33) = w6 := ⟨_, rfl⟩
              have hT6 : TreeIn W.heap.size W (fun _ => 0) w6 tb' L' [.cell gx 33 [.string nm, .int .i64 nd], rowP (.slice pn m1 cn) L', .cell ab 31 [.string kind, .string S, .string T, .int .i64 N, .int .u64 u4, .slice cp cl cc]] := by rw [← hgx, ← hw6]; exact hT.made 33 [.string nm, .int .i64 nd]
              have c1 : w6.cell? ⟨ab, 1, none⟩ = some (.string S) := hT6.cellAt (List.mem_cons_of_mem _ (List.mem_cons_of_mem _ (List.mem_cons_self ..))) rfl
              have e5 := tRefGet_calls hT6 (vm := .slice pn m1 cn) (l := L') (by simp) (by have := unhide Hm1; omega) S
              unfold TRefGetEnd at e5
              rw [unhide Hgv] at e5
              have E5 := hide e5
              clear e5 hT6 hT E4
              go_wp2_with fail
              refine (unhide E5).mono ?_
              rintro e w7 ⟨rfl, hT⟩
              have d0 : ∀ o, (w7.alloc o).cell? ⟨gx, 0, none⟩ = some (.string nm) := fun o => (hT.alloc o).cellAt (List.mem_cons_self ..) rfl
              have d1 : ∀ o, (w7.alloc o).cell? ⟨gx, 1, none⟩ = some (.int .i64 nd) := fun o => (hT.alloc o).cellAt (List.mem_cons_self ..) rfl
              have e6 : ∀ o, Calls Try.prog 16 #[.pointer (some ⟨tb', 0, none⟩)] (w7.alloc o) fun e w' => e = .returned (.int .i64 m1) ∧ TreeIn W.heap.size W (fun _ => 0) w' tb' L' _ := fun o => by
                have := many_calls W.heap.size W (fun _ => 0) _ tb' L' _ (hT.alloc o) (unhide HF') (by have := unhide Hm1; omega)
                rw [unhide Hm1] at this
                exact this
              have E6 := hide e6
              clear e6 hT E5 hw6 hgx c1
              go_wp2_with fail
              refine (unhide E6 _).mono ?_
              rintro e w8 ⟨rfl, hT⟩
              have e7 := treeDeep_calls W.heap.size W (fun _ => 0) w8 tb' L' _ hT (by have := unhide Hm1; omega)
              have E7 := hide e7
              clear e7 hT E6 d0 d1
              go_wp2_with fail
              refine (unhide E7).mono ?_
              rintro e w9 ⟨dh, rfl, _, hT⟩
              have hd1 : ¬ ((dh : Int) + 1 < 1) := by omega
              have hd2 : decide ((dh : Int) + 1 < 1) = false := decide_eq_false hd1
              have HT9 := hide ((hT.forget []).forget [_])
              clear hT E7
              go_wp2_with fail
              go_roundg (n - i)
              case measure => omega
              case rel => exact ⟨i + 1, L', tb', by omega, by omega, rfl, by simp, by have := unhide Hm1; omega, HF', HT9⟩
      · have hiz : ¬ ((i : Int) < (n : Int)) := by omega
        obtain ⟨m0, hm0⟩ : ∃ m0, L.length = m0 := ⟨_, rfl⟩
        rw [hm0] at hL
        obtain ⟨pm, cm, hu9⟩ := row_len ((unhide HT2).rowP_at (v := u9) (l := L) (by simp))
        rw [hm0] at hu9
        subst hu9
        have Hm0 := hide hm0
        have hm120 : m0 ≤ 120 := by omega
        obtain ⟨o1, ho1⟩ : ∃ o1, (afterL L after).take many.toNat = o1 := ⟨_, rfl⟩
        obtain ⟨o2, ho2⟩ : ∃ o2, (afterL L ⟨#[]⟩).take ((m0 : Int) + 1).toNat = o2 := ⟨_, rfl⟩
        have hl1 : o1.length ≤ 120 := by have h1 := List.length_take_le many.toNat (afterL L after); have h2 := List.length_take_le' many.toNat (afterL L after); have h3 := afterL_length L after; rw [ho1] at h1 h2; omega
        have hl2 : o2.length ≤ 120 := by have h2 := List.length_take_le' ((m0 : Int) + 1).toNat (afterL L ⟨#[]⟩); have h3 := afterL_length L ⟨#[]⟩; rw [ho2] at h2; omega
        have Hl1 := hide hl1
        have Hl2 := hide hl2
        have Ho1 := hide ho1
        have Ho2 := hide ho2
        have e4 := after_calls W.heap.size W (fun _ => 0) wr tb L _ after many hm1 hm2 (unhide HT2) (by omega)
        rw [ho1] at e4
        have E4 := hide e4
        clear e4 hm0 ho1 ho2 hl1 hl2
        go_wp2_with fail
        refine (unhide E4).mono ?_
        rintro e w4 ⟨v4, rfl, hT⟩
        have e5 := tRefAfter_calls hT (vm := .slice pm m0 cm) (l := L) (by simp) (by have := unhide Hm0; omega) after many
        rw [unhide Ho1] at e5
        have E5 := hide e5
        clear e5 hT E4
        go_wp2_with fail
        refine (unhide E5).mono ?_
        rintro e w5 ⟨v5, rfl, hT⟩
        have e6 := same_calls _ _ v4 v5 o1.length o1 w5 (hT.row (by simp)) (hT.row (by simp)) rfl (by have := unhide Hl1; omega)
        have E6 := hide e6
        have HT5 := hide ((hT.forget []).forget [])
        clear e6 hT E5
        go_wp2_with fail
        refine (unhide E6).mono ?_
        rintro e w6 ⟨rfl, q6, rfl⟩
        have e7 := after_calls W.heap.size W (fun _ => 0) (w5.drewN q6) tb L _ ⟨#[]⟩ ((m0 : Int) + 1) (by omega) (by omega) ((unhide HT5).drewN q6) (by have := unhide Hm0; omega)
        rw [unhide Ho2] at e7
        have E7 := hide e7
        clear e7 E6
        go_wp2_with fail
        refine (unhide E7).mono ?_
        rintro e w7 ⟨v7, rfl, hT⟩
        have e8 := tRefAfter_calls hT (vm := .slice pm m0 cm) (l := L) (by simp) (by have := unhide Hm0; omega) ⟨#[]⟩ ((m0 : Int) + 1)
        rw [unhide Ho2] at e8
        have E8 := hide e8
        clear e8 hT E7
        go_wp2_with fail
        refine (unhide E8).mono ?_
        rintro e w8 ⟨v8, rfl, hT⟩
        have e9 := same_calls _ _ v7 v8 o2.length o2 w8 (hT.row (by simp)) (hT.row (by simp)) rfl (by have := unhide Hl2; omega)
        have E9 := hide e9
        have HB := hide hT.below
        clear e9 hT E8
        go_wp2_with fail
        refine (unhide E9).mono ?_
        rintro e w9 ⟨rfl, q9, rfl⟩
        go_wp2_with fail
        go_ret
        exact ⟨rfl, ⟨(unhide HB).os, (unhide HB).tape, (unhide HB).output, (unhide HB).size, (unhide HB).block⟩⟩
#print axioms btree_walk
end Go.Proofs.Ytklnonmmamdecab
