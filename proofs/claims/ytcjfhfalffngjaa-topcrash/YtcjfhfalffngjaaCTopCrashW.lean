/-
  The walk of TopCrash.
-/
import Derived.Test.YtcjfhfalffngjaaCSStored
import Derived.Test.YtcjfhfalffngjaaCSArgs
namespace Go.Proofs.Ytcjfhfalffngjaa
open Go.RowKit Go.Lib
set_option maxRecDepth 100000
set_option linter.unusedVariables false
set_option linter.unusedSimpArgs false

theorem arm_in {w0 w : World} {db sb : Nat} {d : DK} {n f1 used : Nat} {L : List ChD} {l2 : List Res} (h : SIn w0 w db sb d n f1 used L l2) (m : Int) (hm : -9223372036854775808 ≤ m ∧ m ≤ 9223372036854775807) :
    Calls Try.prog 22 #[.pointer (some ⟨db, 0, none⟩), .int .i64 m] w fun e w' => e = .returned (.tuple #[]) ∧ SIn w0 w' db sb (d.armed m) n f1 used L l2 := by
  obtain ⟨half, L0, D, v, lb, h1, h2⟩ := h.sto
  refine (arm_calls w0 w db d _ h2 m hm).mono ?_
  rintro e w' ⟨he, hD⟩
  exact ⟨he, ⟨half, L0, D, v, lb, h1.armed m, hD⟩, h.len⟩
/-- Behind the loop: the disk that may have fallen; the rows that are wanted, and those that may be there. -/
structure AfterC (W : World) (db : Nat) (v10 v11 : Value) (wx : World) (d : DK) (R : List Res) (Lw Ll : List ChD) : Prop where
  disk : DiskIn W wx db d R
  read : ∀ w', Hold W w' R → ChL w' v10 Lw ∧ ChL w' v11 Ll
  fallen : Fallen d 110 100000 fun L' => L' = Lw ∨ L' = Ll
theorem Fallen.mono {d : DK} {n f1 f2 : Nat} {P Q : List ChD → Prop} (h : Fallen d n f1 P) (hf : f1 ≤ f2) (hq : ∀ L, P L → Q L) : Fallen d n f2 Q :=
  ⟨h.1, fun k => ⟨(h.2 k).1, by obtain ⟨a, b, c, e, f, g, h1, h2, h3⟩ := (h.2 k).2; exact ⟨a, b, c, e, f, g, h1, hq _ h2, by omega⟩⟩⟩
theorem commitF_ten {many : Nat} {L l : List ChD} {k : Int} (h : commitF many L l = some k) : k ≠ 10 := by
  unfold commitF at h
  split at h
  · cases h; decide
  split at h
  · rename_i k' hk
    cases h
    exact fun e => faultL_ten l (by rw [hk, e])
  split at h
  · cases h; decide
  · cases h
theorem chl_shape {w0 w : World} {v : Value} {L : List ChD} {l2 : List Res} (h : Hold w0 w (rowI v L :: l2)) : Shaped v := rowI_shape h (.head _)

set_option maxHeartbeats 4000000 in
theorem topCrash_walk (v : Value) (nn : Nat) (P : List (Value × List ChD)) (fuse : Int) (keep : Nat) (W : World) (hok0 : DsS W v P) (hfb : -9223372036854775808 ≤ fuse ∧ fuse ≤ 9223372036854775807) (hkb : keep < 18446744073709551616) :
    Calls Try.prog 9 #[v, .int .i64 fuse, .int .u64 (keep : Int)] W fun e W' => e = .returned (.bool true) ∧ Below W.heap.size W W' := by
  obtain ⟨hok, hshape⟩ := hok0
  have e55 := kept_calls W
  obtain ⟨pv, cv, hv⟩ := hok.slice
  subst hv
  have E55 := hide e55
  have HOk := hide hok
  have HShp := hide hshape
  clear e55 hok hshape
  go_enter Try.func9, Try.ntmps9
  go_wp2_with fail
  refine (unhide E55).mono ?_
  rintro e w1 ⟨rfl, hb1⟩
  have e56 := stored_calls ((Hold.init W).over hb1)
  have E56 := hide e56
  clear e56 E55
  go_wp2_with fail
  refine (unhide E56).mono ?_
  rintro e w2 ⟨db, sb, d0, rfl, hI2, hleft⟩
  have e53 := lightDs_calls _ P w2 ((unhide HOk).below hI2.hold.below) 20 (by decide)
  have E53 := hide e53
  have HI2 := hide hI2
  clear e53 hI2 E56 hb1 hleft
  go_wp2_with fail
  refine (unhide E53).mono ?_
  rintro e w4 ⟨⟨r, rfl, hr⟩, rfl⟩
  clear E53
  cases r with
  | false =>
    clear hr
    go_wp2_with fail
    go_ret
    exact ⟨rfl, (unhide HI2).hold.below⟩
  | true =>
    obtain ⟨hlen8, h14⟩ := hr rfl
    have H14 := hide h14
    clear hr h14
    obtain ⟨n, hn⟩ : ∃ n, P.length = n := ⟨_, rfl⟩
    have Hn := hide hn
    rw [hn] at hlen8 HOk ⊢
    clear hn
    have hfz : -9223372036854775808 ≤ min (max fuse (-1)) 400 ∧ min (max fuse (-1)) 400 ≤ 9223372036854775807 := by omega
    have e22 := arm_in (unhide HI2) (min (max fuse (-1)) 400) hfz
    have E22 := hide e22
    clear e22 hfz HI2
    go_wp2_with fail
    refine (unhide E22).mono ?_
    rintro e w5 ⟨rfl, hI5⟩
    obtain ⟨d5, hd5⟩ : ∃ d5, d0.armed (min (max fuse (-1)) 400) = d5 := ⟨_, rfl⟩
    rw [hd5] at hI5
    have HI5 : Hid (SIn W w5 db sb d5 110 0 0 [] [rowI (.slice none 0 0) []]) := by
      obtain ⟨half, L0, D, vs, lb, g1, g2⟩ := hI5.sto
      obtain ⟨dp, a1, a2⟩ := g2.back
      exact ⟨⟨half, L0, D, vs, lb, g1, (a2 w5 _ (a1.nilRow 54 3)).perm (List.perm_middle (a := rowI (.slice none 0 0) []) (l₁ := [storeR sb db half vs lb, rowI vs [], logR lb db 90 (110 - 90) (0 + 1) 0]) (l₂ := []))⟩, hI5.len⟩
    clear hI5 E22 hd5
    go_upto_block 0 with fail
    go_cut [10, 11, 12, 13] from 36 to 72 (fun a10 a11 _ _ wx => ∃ d R Lw Ll, Hid (AfterC W db a10 a11 wx d R Lw Ll))
    case first =>
      go_wp2_with fail
      go_loopg [10, 11, 12, 13] (n + 1) (fun g v10 v11 vi v13 wr => ∃ (i : Nat) (d : DK) (f1 used : Nat) (L : List ChD), n - i < g ∧ i ≤ n ∧ vi = .int .i64 i ∧ v11 = v10 ∧ Hid (SIn W wr db sb d 110 f1 used L [rowI v10 L]) ∧ f1 ≤ 300 * i)
      case atStart => exact ⟨0, d5, 0, 0, [], by omega, by omega, rfl, rfl, HI5, by omega⟩
      case round =>
        obtain ⟨i, d, f1, used, L, hg, hi, rfl, rfl, HI, hf1⟩ := hrel
        clear HI5
        by_cases hin : i < n
        · have hiz : (i : Int) < (n : Int) := by omega
          rcases unhide HOk with ⟨h0, _⟩ | ⟨b, off, c, hv1, _, hbW, hcs⟩
          · have := unhide Hn; rw [h0] at this; simp at this; omega
          injection hv1 with e1 e2 e3
          subst e1 e3
          clear e2
          obtain ⟨x, hx⟩ : ∃ x, P[i]? = some x := ⟨_, List.getElem?_eq_getElem (by rw [unhide Hn]; exact hin)⟩
          obtain ⟨c0W, chW⟩ := hcs i x hx
          have hx14 := unhide H14 x (List.mem_of_getElem? hx)
          have hxs := unhide HShp x (List.mem_of_getElem? hx)
          have hq : ∀ wx, Below W.heap.size W wx → wx.cell? ⟨b, off + i, none⟩ = some x.1 := fun wx hb => (cell_below hb (p := ⟨b, off + i, none⟩) hbW).trans c0W
          have HQ := hide hq
          obtain ⟨px, cx, hxv⟩ := ChOk.slice chW
          obtain ⟨xv, xl⟩ := x
          simp only at hxv c0W chW hx14 hxs HQ
          obtain ⟨mx, hmx⟩ : ∃ m, xl.length = m := ⟨_, rfl⟩
          rw [hmx] at hxv
          subst hxv
          have HChx := hide chW
          have Hxs := hide hxs
          have Hx14 : Hid (xl.length ≤ 14) := hx14
          clear hq chW hxs hx14 hmx hx hcs c0W
          by_cases hm5 : (i : Int) % 5 = 4
          · have hmz : ((i : Int) % 5 == 4) = true := by simpa using hm5
            have e50 := check_in (unhide HI) (by omega)
            have E50 := hide e50
            clear e50 HI
            go_wp2_with fail
            refine (unhide E50).mono ?_
            rintro e w1 (⟨rfl, d1, f2, hI1, hf2, hl1⟩ | ⟨rfl, _, d1, hD1, hfal⟩)
            · have e54 := number54_calls none w1
              simp only [errV, Option.getD_none] at e54
              have E54 := hide e54
              have HI1 := hide hI1
              clear e54 hI1 E50 hl1
              go_wp2_with fail
              refine (unhide E54).mono ?_
              rintro e w1b ⟨rfl, rfl⟩
              clear E54
              have e48 := commit_in (unhide HI1) (by omega) (.slice px mx cx) xl (fun w' hw' => (unhide HChx).below hw'.below) (unhide Hxs) (by have := unhide Hx14; omega)
              have q0 := unhide HQ w1b (unhide HI1).hold.below
              have hfew := (unhide HI1).few
              have E48 := hide e48
              have Hfew := hide hfew
              clear e48 hfew
              go_wp2_with fail
              refine (unhide E48).mono ?_
              rintro e w2 (⟨k, hF, rfl, hI2⟩ | ⟨hF, rfl, d2, f2, hI2, hf2, hl2⟩ | ⟨hF, rfl, _, d2, hD2, hfal⟩)
              · -- refused
                have e54 := number54_calls (some k) w2
                simp only [errV, Option.getD_some] at e54
                have E54 := hide e54
                have hk10 : (k == 10) = false := by simpa using commitF_ten hF
                have HI2 := hide hI2
                clear e54 hF hI2 E48 HI1 q0
                go_wp2_with fail
                refine (unhide E54).mono ?_
                rintro e w3 ⟨rfl, rfl⟩
                clear E54
                go_wp2_with fail
                go_roundg (n - i)
                case measure => omega
                case rel => exact ⟨i + 1, _, _, _, L, by omega, by omega, by simp, rfl, HI2, by omega⟩
              · -- done
                have hc2 := commitF_none hF
                have ea := appliedL_calls u11 (.slice px mx cx) L xl w2 (chl_of_row hI2.hold (.head _)) ((unhide HChx).below hI2.hold.below) (rowI_shape hI2.hold (v := u11) (L := L) (.head _)) (unhide Hxs) (unhide Hfew).2.2.2.2.1 (by have := (unhide Hfew).2.2.2.1; omega) (by omega)
                have q2 := unhide HQ w2 hI2.hold.below
                have EA := hide ea
                have HI2 := hide hI2
                clear ea hI2 E48 HI1 q0 hl2 hc2 hF
                go_wp2_with fail
                refine (unhide EA).mono ?_
                rintro e w3 ⟨v3, rfl, h3⟩
                have HI3 := hide (((unhide HI2).join h3).sub (l3 := [rowI v3 (applyP L xl)]) (.cons_cons _ (.cons _ .slnil)))
                obtain ⟨p3, c3, hv3, _⟩ := row_slice (h3.rowAt (.head _))
                subst hv3
                clear h3 EA HI2
                go_wp2_with fail
                go_roundg (n - i)
                case measure => omega
                case rel => exact ⟨i + 1, _, _, _, _, by omega, by omega, by simp, rfl, HI3, by omega⟩
              · -- it fell
                have hc2 := commitF_none hF
                have e54 := number54_calls (some 10) w2
                simp only [errV, Option.getD_some] at e54
                have E54 := hide e54
                have ea := appliedL_calls u11 (.slice px mx cx) L xl w2 (chl_of_row hD2.hold (.head _)) ((unhide HChx).below hD2.hold.below) (rowI_shape hD2.hold (v := u11) (L := L) (.head _)) (unhide Hxs) (unhide Hfew).2.2.2.2.1 (by have := (unhide Hfew).2.2.2.1; omega) (by omega)
                have q2 := unhide HQ w2 hD2.hold.below
                have EA := hide ea
                have HD2 := hide hD2
                have HFal := hide hfal
                clear ea hD2 hfal E48 HI1 q0 hc2 hF e54
                go_wp2_with fail
                refine (unhide E54).mono ?_
                rintro e w3 ⟨rfl, rfl⟩
                clear E54
                go_wp2_with fail
                refine (unhide EA).mono ?_
                rintro e w4 ⟨v3, rfl, h3⟩
                obtain ⟨p3, c3, hv3, _⟩ := row_slice (h3.rowAt (.head _))
                subst hv3
                have HAf : Hid (AfterC W db u11 (.slice p3 (applyP L xl).length c3) w4 d2 [rowI (.slice p3 (applyP L xl).length c3) (applyP L xl), rowI u11 L] L (applyP L xl)) :=
                  ⟨(unhide HD2).join h3, fun w' hh => ⟨chl_of_row hh (.tail _ (.head _)), chl_of_row hh (.head _)⟩, (unhide HFal).mono (by omega) fun L' h => h⟩
                clear h3 EA HD2 HFal
                go_wp2_with fail
                go_meet
                exact ⟨_, _, _, _, HAf⟩
            · have e54 := number54_calls (some 10) w1
              simp only [errV, Option.getD_some] at e54
              have E54 := hide e54
              have HAf : Hid (AfterC W db u11 u11 w1 d1 [rowI u11 L] L L) :=
                ⟨hD1, fun w' hh => ⟨chl_of_row hh (.head _), chl_of_row hh (.head _)⟩, hfal.mono (by omega) fun L' h => .inl h⟩
              clear e54 hD1 hfal E50
              go_wp2_with fail
              refine (unhide E54).mono ?_
              rintro e w1b ⟨rfl, rfl⟩
              clear E54
              go_wp2_with fail
              go_meet
              exact ⟨_, _, _, _, HAf⟩
          · have hmz : ((i : Int) % 5 == 4) = false := by simpa using hm5
            have e48 := commit_in (unhide HI) (by omega) (.slice px mx cx) xl (fun w' hw' => (unhide HChx).below hw'.below) (unhide Hxs) (by have := unhide Hx14; omega)
            have q0 := unhide HQ wr (unhide HI).hold.below
            have hfew := (unhide HI).few
            have E48 := hide e48
            have Hfew := hide hfew
            clear e48 hfew
            go_wp2_with fail
            refine (unhide E48).mono ?_
            rintro e w2 (⟨k, hF, rfl, hI2⟩ | ⟨hF, rfl, d2, f2, hI2, hf2, hl2⟩ | ⟨hF, rfl, _, d2, hD2, hfal⟩)
            · -- refused
              have e54 := number54_calls (some k) w2
              simp only [errV, Option.getD_some] at e54
              have E54 := hide e54
              have hk10 : (k == 10) = false := by simpa using commitF_ten hF
              have HI2 := hide hI2
              clear e54 hF hI2 E48 HI q0
              go_wp2_with fail
              refine (unhide E54).mono ?_
              rintro e w3 ⟨rfl, rfl⟩
              clear E54
              go_wp2_with fail
              go_roundg (n - i)
              case measure => omega
              case rel => exact ⟨i + 1, _, _, _, L, by omega, by omega, by simp, rfl, HI2, by omega⟩
            · -- done
              have hc2 := commitF_none hF
              have ea := appliedL_calls u11 (.slice px mx cx) L xl w2 (chl_of_row hI2.hold (.head _)) ((unhide HChx).below hI2.hold.below) (rowI_shape hI2.hold (v := u11) (L := L) (.head _)) (unhide Hxs) (unhide Hfew).2.2.2.2.1 (by have := (unhide Hfew).2.2.2.1; omega) (by omega)
              have q2 := unhide HQ w2 hI2.hold.below
              have EA := hide ea
              have HI2 := hide hI2
              clear ea hI2 E48 HI q0 hl2 hc2 hF
              go_wp2_with fail
              refine (unhide EA).mono ?_
              rintro e w3 ⟨v3, rfl, h3⟩
              have HI3 := hide (((unhide HI2).join h3).sub (l3 := [rowI v3 (applyP L xl)]) (.cons_cons _ (.cons _ .slnil)))
              obtain ⟨p3, c3, hv3, _⟩ := row_slice (h3.rowAt (.head _))
              subst hv3
              clear h3 EA HI2
              go_wp2_with fail
              go_roundg (n - i)
              case measure => omega
              case rel => exact ⟨i + 1, _, _, _, _, by omega, by omega, by simp, rfl, HI3, by omega⟩
            · -- it fell
              have hc2 := commitF_none hF
              have e54 := number54_calls (some 10) w2
              simp only [errV, Option.getD_some] at e54
              have E54 := hide e54
              have ea := appliedL_calls u11 (.slice px mx cx) L xl w2 (chl_of_row hD2.hold (.head _)) ((unhide HChx).below hD2.hold.below) (rowI_shape hD2.hold (v := u11) (L := L) (.head _)) (unhide Hxs) (unhide Hfew).2.2.2.2.1 (by have := (unhide Hfew).2.2.2.1; omega) (by omega)
              have q2 := unhide HQ w2 hD2.hold.below
              have EA := hide ea
              have HD2 := hide hD2
              have HFal := hide hfal
              clear ea hD2 hfal E48 HI q0 hc2 hF e54
              go_wp2_with fail
              refine (unhide E54).mono ?_
              rintro e w3 ⟨rfl, rfl⟩
              clear E54
              go_wp2_with fail
              refine (unhide EA).mono ?_
              rintro e w4 ⟨v3, rfl, h3⟩
              obtain ⟨p3, c3, hv3, _⟩ := row_slice (h3.rowAt (.head _))
              subst hv3
              have HAf : Hid (AfterC W db u11 (.slice p3 (applyP L xl).length c3) w4 d2 [rowI (.slice p3 (applyP L xl).length c3) (applyP L xl), rowI u11 L] L (applyP L xl)) :=
                ⟨(unhide HD2).join h3, fun w' hh => ⟨chl_of_row hh (.tail _ (.head _)), chl_of_row hh (.head _)⟩, (unhide HFal).mono (by omega) fun L' h => h⟩
              clear h3 EA HD2 HFal
              go_wp2_with fail
              go_meet
              exact ⟨_, _, _, _, HAf⟩
        · have hiz : ¬ (i : Int) < (n : Int) := by omega
          have HAf : Hid (∃ d R, AfterC W db u11 u11 wr d R L L) := by
            obtain ⟨half, L0, D, vs, lb, g1, g2⟩ := (unhide HI).sto
            exact ⟨d, _, DiskIn.lose [_, _, _] g2, fun w' hh => ⟨chl_of_row hh (.head _), chl_of_row hh (.head _)⟩, (unhide HI).fallen.mono (by omega) fun L' h => .inl h⟩
          go_wp2_with fail
          go_meet
          obtain ⟨d, R, h⟩ := unhide HAf
          exact ⟨_, _, _, _, h⟩
    case rest =>
      obtain ⟨d, R, Lw, Ll, HAf⟩ := hcut
      obtain ⟨hag, half, f1, L0, D, used, L, hst, hLL, hf1⟩ := (unhide HAf).fallen.2 keep
      have e23 := restart_calls W wc db d _ (unhide HAf).disk (by have := (unhide HAf).fallen.1; omega) keep hkb
      have E23 := hide e23
      have HSt := hide hst
      have HLL := hide hLL
      have Hag := hide hag
      clear e23 hst hLL hag HI5
      go_wp2_with fail
      refine (unhide E23).mono ?_
      rintro e w6 ⟨rfl, hD6⟩
      have e46 := open_in hD6 (unhide HSt) (unhide Hag) (by omega)
      have E46 := hide e46
      clear e46 hD6 E23
      go_wp2_with fail
      refine (unhide E46).mono ?_
      rintro e w7 ⟨sb2, rfl, hI7⟩
      have e52 := rows_in hI7
      have E52 := hide e52
      have HI7 := hide hI7
      clear e52 hI7 E46
      go_wp2_with fail
      refine (unhide E52).mono ?_
      rintro e w8 ⟨v16, rfl, h8⟩
      have hI8 := (unhide HI7).join h8
      obtain ⟨pg, cg, hv16, _⟩ := row_slice (h8.rowAt (.head _))
      obtain ⟨m16, hm16⟩ : ∃ m, L.length = m := ⟨_, rfl⟩
      rw [hm16] at hv16
      subst hv16
      have hrd := fun k => (unhide HAf).read (w8.drewN k) ((hI8.hold.lose [_]).drewN k)
      have e35 := sameL_calls (.slice pg m16 cg) u10 L Lw w8 (chl_of_row hI8.hold (.head _)) ((unhide HAf).read w8 (hI8.hold.lose [_])).1
      have e35b := fun k => sameL_calls (.slice pg m16 cg) u11 L Ll (w8.drewN k) (chl_of_row (hI8.hold.drewN k) (.head _)) (hrd k).2
      unfold SameEnd at e35 e35b
      have E35 := hide e35
      have E35b := hide e35b
      have HI8 := hide hI8
      clear e35 e35b hrd hI8 h8 E52 HI7
      go_upto_region 27 with fail
      go_cut [98] from 89 (fun a98 wc => a98 = .bool false ∧ ∃ k, wc = w8.drewN k)
      case first =>
        go_wp2_with fail
        refine (unhide E35).mono ?_
        rintro e w9 ⟨⟨r, rfl, hr⟩, k, rfl⟩
        have HR := hide hr
        clear hr E35
        cases r with
        | true =>
          clear HR
          go_wp2_with fail
          go_meet
          exact ⟨rfl, k, rfl⟩
        | false =>
          go_wp2_with fail
          refine (unhide E35b k).mono ?_
          rintro e w9 ⟨⟨r2, rfl, hr2⟩, k2, rfl⟩
          have h2 : r2 = true := hr2 (by
            rcases unhide HLL with h | h
            · have := unhide HR h
              cases this
            · exact h)
          subst h2
          clear hr2 HR E35b
          go_wp2_with fail
          go_meet
          exact ⟨rfl, _, by first | rfl | exact World.drewN_drewN _ _ _⟩
      case rest =>
        obtain ⟨rfl, k, hwk⟩ := hcut
        have hI9 : SIn W wc db sb2 (d.again keep) 110 f1 used L (rowI (.slice pg m16 cg) L :: R) := by rw [hwk]; exact (unhide HI8).drewN k
        have e48 := commit_in hI9 (by omega) (.slice none 0 0) [] (fun w' _ => chl_nil w') (.inl rfl) (by decide)
        have hcf : commitF (110 - 90) L [] = none := by
          have := hI9.few.2.2.2.1
          unfold commitF
          rw [if_neg (by decide), show faultL [] = none from rfl]
          simp only
          rw [if_neg]
          rw [show applyP L [] = L from rfl]
          simp
          omega
        rw [hcf, show applyP L [] = L from rfl] at e48
        have E48 := hide e48
        clear e48 hcf hI9 E35 E35b HLL HI8 hwk HAf
        go_wp2_with fail
        refine (unhide E48).mono ?_
        rintro e w10 (⟨k, h1, _⟩ | ⟨_, rfl, d10, f10, hI10, hf10, hl10⟩ | ⟨_, _, h1, _⟩)
        · cases h1
        rotate_left
        · exfalso; rw [again_left] at h1; omega
        have hl : d10.left < 0 := by rw [hl10 (by rw [again_left]; decide), again_left]; decide
        have e50 := check_in hI10 (by omega)
        have E50 := hide e50
        have Hl := hide hl
        clear e50 hI10 hl10 hl E48
        go_wp2_with fail
        refine (unhide E50).mono ?_
        rintro e w11 (⟨rfl, d11, f11, hI11, hf11, hl11⟩ | ⟨_, h1, _⟩)
        rotate_left
        · exfalso; have := unhide Hl; omega
        have e46 := reopen_in hI11 (by omega)
        have E46 := hide e46
        clear e46 hI11 hl11 E50
        go_wp2_with fail
        refine (unhide E46).mono ?_
        rintro e w12 ⟨sb3, rfl, half3, v3, lb3, hI12⟩
        have e52 := rows_in hI12
        have E52 := hide e52
        have HI12 := hide hI12
        clear e52 hI12 E46
        go_wp2_with fail
        refine (unhide E52).mono ?_
        rintro e w13 ⟨v18, rfl, h13⟩
        have hI13 := (unhide HI12).join h13
        obtain ⟨p18, c18, hv18, _⟩ := row_slice (h13.rowAt (.head _))
        rw [hm16] at hv18
        subst hv18
        have e35 := sameL_calls (.slice p18 m16 c18) (.slice pg m16 cg) L L w13 (chl_of_row hI13.hold (.head _)) (chl_of_row hI13.hold (.tail _ (.tail _ (.tail _ (.tail _ (.head _))))))
        unfold SameEnd at e35
        have E35 := hide e35
        have HB := hide hI13.hold.below
        clear e35 hI13 h13 HI12 E52
        go_wp2_with fail
        refine (unhide E35).mono ?_
        rintro e w14 ⟨⟨r, rfl, hr⟩, k, rfl⟩
        have hrt := hr (by first | rfl | trivial)
        subst hrt
        clear E35 hr
        go_wp2_with fail
        go_ret
        exact ⟨rfl, Below.trans (unhide HB) (((Hold.init w13).drewN _).below.mono (unhide HB).size)⟩
#print axioms topCrash_walk
end Go.Proofs.Ytcjfhfalffngjaa
