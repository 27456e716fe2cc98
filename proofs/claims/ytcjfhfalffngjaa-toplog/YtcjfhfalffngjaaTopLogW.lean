/-
  The walk of TopLog: behind a fall the log has the deeds that were added, or these and the one that was being added.
-/
import Derived.Test.YtcjfhfalffngjaaLTop
import Derived.Deep.CutBlock
import Derived.Deep.CutRange
import Derived.Deep.RegionHeld3
namespace Go.Proofs.Ytcjfhfalffngjaa
open Go.RowKit Go.Lib
set_option maxRecDepth 100000
set_option linter.unusedVariables false
set_option linter.unusedSimpArgs false

/-- Behind the deeds: what is there at any restart. -/
structure AfterL (W : World) (db lb : Nat) (v11 v12 : Value) (wc : World) (d : DK) (used : Nat) (R : List Res) (Pw Pl : List (Value × List ChD)) : Prop where
  disk : DiskIn W wc db d (R ++ [logR lb db 1 59 5 used])
  read : ∀ w' l, Hold W w' (R ++ l) → DsP w' v11 Pw ∧ DsP w' v12 Pl
  again : ∀ k, (d.again k).now.length = 60 ∧ ∃ D u, LogOk (d.again k) 1 59 5 D u ∧ (D = Pw.map (·.2) ∨ D = Pl.map (·.2))
  wr : d.wr.length ≤ 1000

set_option maxHeartbeats 8000000 in
theorem topLog_walk (v : Value) (nn : Nat) (P : List (Value × List ChD)) (fuse : Int) (keep : Nat) (W : World) (hok : DsP W v P) (hfb : -9223372036854775808 ≤ fuse ∧ fuse ≤ 9223372036854775807) (hkb : keep < 18446744073709551616) :
    Calls Try.prog 8 #[v, .int .i64 fuse, .int .u64 (keep : Int)] W fun e W' => e = .returned (.bool true) ∧ Below W.heap.size W W' := by
  have e12 := new_calls W W [] (Hold.init W) 60 (by decide) (by decide)
  unfold NewEnd at e12
  obtain ⟨pv, cv, hv⟩ := hok.slice
  subst hv
  have E12 := hide e12
  have HOk := hide hok
  clear e12 hok
  go_enter Try.func8, Try.ntmps8
  go_wp2_with fail
  refine (unhide E12).mono ?_
  rintro e w1 ⟨db, rfl, hD1⟩
  have e39 := open_calls hD1 rfl 1 59 5 (by decide) (by decide) (by decide) (by simp [newP])
  have hL0 : LogOk (newP 60) 1 59 5 [] 0 := LogOk.new (by decide)
  unfold OpenEnd at e39
  rw [hL0.read] at e39
  have E39 := hide e39
  clear e39 E12
  go_wp2_with fail
  refine (unhide E39).mono ?_
  rintro e w2 ⟨lb, v0, P0, rfl, hP0, hD2⟩
  simp only [List.map_eq_nil_iff] at hP0
  subst hP0
  obtain ⟨p0, c0, hv0, _⟩ := row_slice (hD2.hold.rowAt (.head _))
  simp only [List.length_nil] at hv0
  subst hv0
  have hD2' := hD2.lose (deedsR _ [])
  have k2 : w2.cell? ⟨lb, 2, none⟩ = some (.int .i64 59) := hD2'.cellAt (.head _) rfl
  have k4 : w2.cell? ⟨lb, 4, none⟩ = some (.int .i64 0) := hD2'.cellAt (.head _) rfl
  have e42 := room_calls lb 59 0 w2 (by decide) (by decide) k2 k4
  have E42 := hide e42
  have HD2 := hide hD2'
  clear e42 hD2 hD2' E39 hD1
  go_wp2_with (go_at_call 42; refine (unhide E42).mono ?_; rintro e w3 ⟨rfl, n3, rfl⟩)
  have HD3 := hide ((unhide HD2).drewN n3)
  obtain ⟨w3, hw3⟩ : ∃ w3, w2.drewN n3 = w3 := ⟨_, rfl⟩
  rw [hw3] at HD3 ⊢
  have e53 := lightDs_calls _ P w3 ((unhide HOk).below (unhide HD3).below) 8 (by decide)
  have E53 := hide e53
  clear e53 hw3 E42 HD2 k2 k4
  go_wp2_with fail
  refine (unhide E53).mono ?_
  rintro e w4 ⟨⟨r, rfl, hr⟩, rfl⟩
  clear E53
  cases r with
  | false =>
    clear hr
    go_wp2_with fail
    go_ret
    exact ⟨rfl, (unhide HD3).below⟩
  | true =>
    obtain ⟨hlen8, h14⟩ := hr rfl
    have H14 := hide h14
    clear hr h14
    obtain ⟨n, hn⟩ : ∃ n, P.length = n := ⟨_, rfl⟩
    have Hn := hide hn
    rw [hn] at hlen8 HOk ⊢
    clear hn
    have hfz : -9223372036854775808 ≤ min (max fuse (-1)) 200 ∧ min (max fuse (-1)) 200 ≤ 9223372036854775807 := by omega
    have e22 := arm_calls W w4 db (newP 60) _ (unhide HD3) (min (max fuse (-1)) 200) hfz
    have E22 := hide e22
    have HL0 := hide (hL0.armed (min (max fuse (-1)) 200))
    clear e22 hfz hL0
    go_wp2_with fail
    refine (unhide E22).mono ?_
    rintro e w5 ⟨rfl, hD5⟩
    obtain ⟨d5, hd5⟩ : ∃ d5, (newP 60).armed (min (max fuse (-1)) 200) = d5 := ⟨_, rfl⟩
    have hn5 : d5.now.length = 60 := by rw [← hd5]; simp [DK.armed, newP]
    rw [hd5] at hD5 HL0
    have HD5 : Hid (DiskIn W w5 db d5 [dRow (.slice none 0 0) [], logR lb db 1 59 5 0]) := by
      obtain ⟨dp, a1, a2⟩ := hD5.back
      exact a2 w5 _ (a1.nilRow 36 1)
    have Hn5 := hide hn5
    clear hD5 HD3 E22 hd5 hn5
    go_upto_block 0 with fail
    go_cut [11, 12, 13, 14] from 60 to 86 (fun a11 a12 _ _ wx => ∃ d used R Pw Pl, Hid (AfterL W db lb a11 a12 wx d used R Pw Pl))
    case first =>
      go_wp2_with fail
      go_loopg [11, 12, 13, 14] (n + 1) (fun g v11 v12 vi v14 wr => ∃ (i : Nat) (d : DK) (used : Nat) (Pw : List (Value × List ChD)), n - i < g ∧ i ≤ n ∧ vi = .int .i64 i ∧ v12 = v11 ∧ Pw.length ≤ i ∧ Hid (DiskIn W wr db d [dRow v11 Pw, logR lb db 1 59 5 used]) ∧ Hid (LogOk d 1 59 5 (Pw.map (·.2)) used) ∧ Hid (d.now.length = 60) ∧ Hid (∀ p ∈ Pw, ChL W p.1 p.2))
      case atStart => exact ⟨0, d5, 0, [], by omega, by omega, rfl, rfl, by simp, HD5, HL0, Hn5, fun p hp => by cases hp⟩
      case round =>
        obtain ⟨i, d, used, Pw, hg, hi, rfl, rfl, hpw, HD, HLk, Hn60, HCh⟩ := hrel
        clear HD5 HL0 Hn5
        by_cases hin : i < n
        · have hiz : (i : Int) < (n : Int) := by omega
          rcases unhide HOk with ⟨h0, _⟩ | ⟨b, off, c, hv1, _, hbW, hcs⟩
          · have := unhide Hn; rw [h0] at this; simp at this; omega
          injection hv1 with e1 e2 e3
          subst e1 e3
          clear e2
          obtain ⟨x, hx⟩ : ∃ x, P[i]? = some x := ⟨_, List.getElem?_eq_getElem (by rw [unhide Hn]; exact hin)⟩
          obtain ⟨c0W, chW⟩ := hcs i x hx
          have hx14 := unhide H14 x (List.mem_of_getElem? hx)
          have hq : ∀ wx, Below W.heap.size W wx → wx.cell? ⟨b, off + i, none⟩ = some x.1 := fun wx hb => (cell_below hb (p := ⟨b, off + i, none⟩) hbW).trans c0W
          have q0 := hq wr (unhide HD).below
          have ea := add_calls ((unhide HD).perm (List.Perm.swap _ _ _)) (by decide) (unhide HLk).le (by decide) (by decide) (by rw [(unhide HLk).steady.wr]; simp) x.1 x.2.length _ (chW.below (unhide HD).below) (by omega)
          rw [listOf_getD] at ea
          have hac := add_case (unhide HLk).steady.down (unhide HLk).len (unhide HLk).pre (unhide HLk).le (by decide) x.2
          have hwrl := addP_wr_le d 1 59 5 used x.2
          rw [(unhide HLk).steady.wr] at hwrl
          obtain ⟨eo, d', used', hadd⟩ : ∃ eo d' used', addP d 1 59 5 used x.2 = (eo, d', used') := ⟨_, _, _, rfl⟩
          unfold AddEnd at ea
          rw [hadd] at ea hac hwrl
          obtain ⟨px, cx, hxs⟩ := ChOk.slice chW
          obtain ⟨xv, hxv⟩ : ∃ xv, x.1 = xv := ⟨_, rfl⟩
          rw [hxv] at q0 ea hq hxs
          subst hxs
          have EA := hide ea
          have HX := hide hx
          have HAc := hide hac
          have HWl := hide hwrl
          have HQ := hide hq
          have HXv := hide hxv
          have HChx := hide chW
          obtain ⟨mx, hmx⟩ : ∃ m, x.2.length = m := ⟨_, rfl⟩
          rw [hmx] at hx14 q0 EA HQ HXv
          clear ea hac hwrl hx hcs c0W chW hq hxv hmx
          go_wp2_with fail
          refine (unhide EA).mono ?_
          rintro e w2 ⟨rfl, hD2⟩
          have HD2 := hide hD2
          clear hD2 EA q0
          -- the deeds so far, and this one
          go_wp2_with fail
          go_cut [12] from 60 to 86 (fun a12 wc => ∃ c12, c12 = a12 ∧ Hid (DiskIn W wc db d' [dRow c12 (Pw ++ [x]), logR lb db 1 59 5 used', dRow u12 Pw]))
          case first =>
            obtain ⟨dp, a1, a2⟩ := (unhide HD2).drew.back
            have hsh := dRow_shape a1 (v := u12) (P := Pw) (.tail _ (.head _))
            have hds : DsP w2.drew u12 Pw := dsp_of_row a1 (.tail _ (.head _)) fun p hp => (unhide HCh p hp).below a1.below
            obtain ⟨⟨v1, w1', v2, w2', r1, r2, r3⟩, ⟨v3, w3', v4, w4', r4, r5, r6⟩⟩ := ds_both a1 hds hsh (by omega) (u := x) (by rw [unhide HXv]; rfl)
            have HF1 := hide (a2 w2' [dRow v2 (Pw ++ [x]), logR lb db 1 59 5 used', dRow u12 Pw] r3)
            have HF2 := hide (a2 w4' [dRow v4 (Pw ++ [x]), logR lb db 1 59 5 used', dRow u12 Pw] r6)
            have hb1 : Below W.heap.size W w1' := by
              obtain ⟨v', w', y1, y2⟩ := ds_copy a1 hds hsh (by omega)
              rw [r1] at y1
              injection y1 with _ y1
              subst y1
              exact y2.below
            have q2 := unhide HQ w2 (unhide HD2).below
            have q2a : ∀ o, (w2.alloc o).cell? ⟨b, off + i, none⟩ = some (.slice px mx cx) := fun o => unhide HQ _ ((unhide HD2).alloc o).below
            have q1 := unhide HQ w1' hb1
            rw [unhide HXv] at r2 r4
            have r4' : (Builtin.append_ #[69, 69] 69 #[.slice none 0 0, u12]).run Try.prog (w2.alloc (.cells #[.slice px mx cx] 36)).drew = .ok v3 w3' := r4
            have r5' : (Builtin.append_ #[69, 69] 69 #[v3, .slice (some ⟨w2.heap.size, 0, none⟩) 1 1]).run Try.prog w3' = .ok v4 w4' := r5
            clear r3 r6 r4 r5 hds hsh a1 a2 hb1 HAc
            go_region_law (first
              | (refine step_append_runI rfl _ _ 69 69 rfl (.slice none 0 0) u12 (by simp [Act.eval, Act.put]) (by simp [Act.eval, Act.put]) r1 ?_)
              | (refine step_append_runI rfl _ _ 69 69 rfl v1 (.slice (some ⟨w1'.heap.size, 0, none⟩) 1 1) (by simp [Act.eval, Act.put]) (by simp [Act.eval, Act.put]) r2 ?_)
              | (refine step_append_runI rfl _ _ 69 69 rfl (.slice none 0 0) u12 (by simp [Act.eval, Act.put]) (by simp [Act.eval, Act.put]) r4' ?_)
              | (refine step_append_runI rfl _ _ 69 69 rfl v3 (.slice (some ⟨w2.heap.size, 0, none⟩) 1 1) (by simp [Act.eval, Act.put]) (by simp [Act.eval, Act.put]) r5' ?_))
            all_goals
              go_wp2_with fail
              go_meet
              first
                | exact ⟨_, rfl, HF1⟩
                | exact ⟨_, rfl, HF2⟩
          case rest =>
            obtain ⟨c12, hc12, HC⟩ := hcut
            subst hc12
            rcases unhide HAc with ⟨k, hk, he⟩ | ⟨d1, he, _, hl60, hok⟩ | ⟨d1, he, _, hok⟩
            · -- refused
              simp only [Prod.mk.injEq] at he
              obtain ⟨rfl, rfl, rfl⟩ := he
              have e54 := number54_calls (some k) wc
              simp only [errV, Option.getD_some] at e54 ⊢
              have E54 := hide e54
              have hk10 : (k == 10) = false := by simpa using hk
              clear e54 hadd HAc HD2
              go_wp2_with fail
              refine (unhide E54).mono ?_
              rintro e w3 ⟨rfl, rfl⟩
              clear E54
              go_wp2_with fail
              go_roundg (n - i)
              case measure => omega
              case rel => exact ⟨i + 1, _, _, Pw, by omega, by omega, by simp, rfl, by omega, ((unhide HC).lose [_]).perm (List.Perm.swap _ _ _), HLk, Hn60, HCh⟩
            · -- done
              simp only [Prod.mk.injEq] at he
              obtain ⟨rfl, rfl, rfl⟩ := he
              have HLk2 : Hid (LogOk d' 1 59 5 ((Pw ++ [x]).map (·.2)) (used + (x.2.length + 1))) := by rw [List.map_append]; exact hok
              have Hn2 : Hid (d'.now.length = 60) := hl60.trans (unhide Hn60)
              have HCh2 : Hid (∀ p ∈ Pw ++ [x], ChL W p.1 p.2) := fun p hp => by
                rcases List.mem_append.1 hp with h | h
                · exact unhide HCh p h
                · rw [List.mem_singleton.1 h]; exact unhide HChx
              have HDn : Hid (DiskIn W wc db d' [dRow c12 (Pw ++ [x]), logR lb db 1 59 5 (used + (x.2.length + 1))]) := (((unhide HC).perm (l3 := [dRow u12 Pw, dRow c12 (Pw ++ [x]), logR lb db 1 59 5 (used + (x.2.length + 1))]) (by
                exact (List.perm_append_comm (l₁ := [dRow u12 Pw]) (l₂ := [dRow c12 (Pw ++ [x]), logR lb db 1 59 5 (used + (x.2.length + 1))])))).lose [_])
              clear hadd HAc HD2 hok hl60 HLk Hn60 HCh HC
              simp only [errV]
              go_wp2_with fail
              go_roundg (n - i)
              case measure => omega
              case rel => exact ⟨i + 1, _, _, Pw ++ [x], by omega, by omega, by simp, rfl, by simp; omega, HDn, HLk2, Hn2, HCh2⟩
            · -- it fell
              simp only [Prod.mk.injEq] at he
              obtain ⟨rfl, rfl, rfl⟩ := he
              have e54 := number54_calls (some 10) wc
              simp only [errV, Option.getD_some] at e54 ⊢
              have E54 := hide e54
              have hag := hok (unhide HLk)
              have HAf : Hid (AfterL W db lb u12 c12 wc d' used' [dRow c12 (Pw ++ [x]), dRow u12 Pw] Pw (Pw ++ [x])) := by
                refine ⟨(unhide HC).perm ?_, fun w' l hh => ⟨?_, ?_⟩, fun k => ⟨(hag k).1.trans (unhide Hn60), ?_⟩, ?_⟩
                · exact List.Perm.cons _ (List.Perm.swap _ _ _)
                · exact dsp_of_row hh (.tail _ (.head _)) fun p hp => (unhide HCh p hp).below hh.below
                · exact dsp_of_row hh (.head _) fun p hp => by
                    rcases List.mem_append.1 hp with h | h
                    · exact (unhide HCh p h).below hh.below
                    · rw [List.mem_singleton.1 h]; exact (unhide HChx).below hh.below
                · rcases (hag k).2 with h | h
                  · exact ⟨_, _, h, .inl rfl⟩
                  · exact ⟨_, _, h, .inr (by rw [List.map_append]; rfl)⟩
                · have h1 := unhide HWl
                  have h2 := unhide H14 x (List.mem_of_getElem? (unhide HX))
                  simp only [List.length_nil] at h1
                  omega
              clear e54 hadd HAc HD2 hok hag
              go_wp2_with fail
              refine (unhide E54).mono ?_
              rintro e w3 ⟨rfl, rfl⟩
              clear E54
              go_wp2_with fail
              go_meet
              exact ⟨_, _, _, _, _, HAf⟩
        · have hiz : ¬ (i : Int) < (n : Int) := by omega
          have HAf : Hid (AfterL W db lb u12 u12 wr d used [dRow u12 Pw] Pw Pw) := by
            refine ⟨unhide HD, fun w' l hh => ⟨?_, ?_⟩, fun k => ⟨?_, _, _, (unhide HLk).again k, .inl rfl⟩, ?_⟩
            · exact dsp_of_row hh (.head _) fun p hp => (unhide HCh p hp).below hh.below
            · exact dsp_of_row hh (.head _) fun p hp => (unhide HCh p hp).below hh.below
            · have := ((unhide HLk).again k).len
              unfold DK.again
              simp only
              rw [keepL_len, (unhide HLk).steady.kept, unhide Hn60]
            · rw [(unhide HLk).steady.wr]; simp
          go_wp2_with fail
          go_meet
          exact ⟨_, _, _, _, _, HAf⟩
    case rest =>
      obtain ⟨d, used, R, Pw, Pl, HAf⟩ := hcut
      obtain ⟨hag60, D, u, hok, hDD⟩ := (unhide HAf).again keep
      have e23 := restart_calls W wc db d _ (unhide HAf).disk (by have := (unhide HAf).wr; omega) keep hkb
      have E23 := hide e23
      have HOk2 := hide hok
      have HDD := hide hDD
      have H60 := hide hag60
      have HRd : Hid (∀ wx dx l, DiskIn W wx db dx (l ++ (R ++ [logR lb db 1 59 5 used])) → DsP wx u11 Pw ∧ DsP wx u12 Pl) := fun wx dx l h => (unhide HAf).read wx _ (h.lose l).hold
      clear e23 hok hDD hag60 HD5 HL0 Hn5 HAf
      go_wp2_with fail
      refine (unhide E23).mono ?_
      rintro e w6 ⟨rfl, hD6⟩
      have e39 := open_calls hD6 rfl 1 59 5 (by decide) (by decide) (by decide) (by rw [unhide H60]; decide)
      unfold OpenEnd at e39
      rw [(unhide HOk2).read] at e39
      have E39 := hide e39
      clear e39 hD6 E23
      go_wp2_with fail
      refine (unhide E39).mono ?_
      rintro e w7 ⟨lb2, v16, P16, rfl, hP16, hD7⟩
      obtain ⟨pg, cg, hv16, _⟩ := row_slice (hD7.hold.rowAt (.head _))
      obtain ⟨m16, hm16⟩ : ∃ m, P16.length = m := ⟨_, rfl⟩
      rw [hm16] at hv16
      subst hv16
      have HP16 := hide hP16
      have HD7 := hide hD7
      have Hm16 := hide hm16
      have e41 := sameDs_calls (.slice pg m16 cg) u11 P16 Pw w7 (dsp_of_deeds hD7.hold fun x hx => List.mem_append.2 (.inl hx)) (unhide HRd w7 _ (deedsR (.slice pg m16 cg) P16 ++ [logR lb2 db 1 59 5 u]) (by rw [List.append_assoc]; exact hD7)).1
      have e41b := fun k => sameDs_calls (.slice pg m16 cg) u12 P16 Pl (w7.drewN k) (dsp_of_deeds (hD7.drewN k).hold fun x hx => List.mem_append.2 (.inl hx)) (unhide HRd (w7.drewN k) _ (deedsR (.slice pg m16 cg) P16 ++ [logR lb2 db 1 59 5 u]) (by rw [List.append_assoc]; exact hD7.drewN k)).2
      unfold SameEnd at e41 e41b
      have E41 := hide e41
      have E41b := hide e41b
      clear e41 e41b hD7 hm16 hP16 E39
      go_upto_region 25 with fail
      go_cut [111] from 87 (fun a111 wc => a111 = .bool false ∧ ∃ k, wc = w7.drewN k)
      case first =>
        go_wp2_with fail
        refine (unhide E41).mono ?_
        rintro e w8 ⟨⟨r, rfl, hr⟩, k, rfl⟩
        have HR := hide hr
        clear hr E41
        cases r with
        | true =>
          clear HR
          go_wp2_with fail
          go_meet
          exact ⟨rfl, k, rfl⟩
        | false =>
          go_wp2_with fail
          refine (unhide E41b k).mono ?_
          rintro e w9 ⟨⟨r2, rfl, hr2⟩, k2, rfl⟩
          have h2 : r2 = true := hr2 (by
            rw [unhide HP16]
            rcases unhide HDD with h | h
            · have := unhide HR (by rw [unhide HP16]; exact h)
              cases this
            · exact h)
          subst h2
          clear hr2 HR E41b
          go_wp2_with fail
          go_meet
          exact ⟨rfl, _, by first | rfl | exact World.drewN_drewN _ _ _⟩
      case rest =>
        obtain ⟨rfl, k, hwk⟩ := hcut
        have HD8 : Hid (DiskIn W wc db (d.again keep) (deedsR (.slice pg m16 cg) P16 ++ (logR lb2 db 1 59 5 u :: (R ++ [logR lb db 1 59 5 used])))) := by rw [hwk]; exact (unhide HD7).drewN k
        obtain ⟨l3, hl3⟩ : ∃ l, R ++ [logR lb db 1 59 5 used] = l := ⟨_, rfl⟩
        rw [hl3] at HD8
        obtain ⟨B, hB⟩ : ∃ B, wc.heap.size = B := ⟨_, rfl⟩
        have hD9 : DiskIn W (wc.alloc (.cells #[.string ⟨#[122]⟩, .string ⟨#[122]⟩, .bool false] 54)) db (d.again keep) (.cell B 54 [.string ⟨#[122]⟩, .string ⟨#[122]⟩, .bool false] :: (deedsR (.slice pg m16 cg) P16 ++ (logR lb2 db 1 59 5 u :: l3))) := by rw [← hB]; exact (unhide HD8).made 54 [.string ⟨#[122]⟩, .string ⟨#[122]⟩, .bool false]
        obtain ⟨w9, hw9⟩ : ∃ w9, wc.alloc (.cells #[.string ⟨#[122]⟩, .string ⟨#[122]⟩, .bool false] 54) = w9 := ⟨_, rfl⟩
        rw [hw9] at hD9
        have hlm : logR lb2 db 1 59 5 u ∈ (.cell B 54 [.string ⟨#[122]⟩, .string ⟨#[122]⟩, .bool false] :: (deedsR (.slice pg m16 cg) P16 ++ (logR lb2 db 1 59 5 u :: l3))) := .tail _ (List.mem_append.2 (.inr (.head _)))
        have k2 : w9.cell? ⟨lb2, 2, none⟩ = some (.int .i64 59) := hD9.cellAt hlm rfl
        have k4 : w9.cell? ⟨lb2, 4, none⟩ = some (.int .i64 u) := hD9.cellAt hlm rfl
        have hu59 := (unhide HOk2).le
        have e42 := room_calls lb2 59 u w9 hu59 (by decide) k2 k4
        have E42 := hide e42
        have HD9 := hide hD9
        clear e42 hD9 hlm k2 k4 HD7 HD8 E41 E41b hl3 hwk HRd HDD
        by_cases hroom : 59 - u < 2
        · have hrz : ((59 - u : Nat) : Int) < 2 := by omega
          obtain ⟨rm, hrm⟩ : ∃ rm, 59 - u = rm := ⟨_, rfl⟩
          rw [hrm] at E42 hrz
          clear hrm hroom
          go_wp2_with fail
          refine (unhide E42).mono ?_
          rintro e w10 ⟨rfl, k10, rfl⟩
          go_wp2_with fail
          go_ret
          exact ⟨rfl, ((unhide HD9).drewN _).below⟩
        · have hrz : ¬ ((59 - u : Nat) : Int) < 2 := by omega
          have Hrm := hide hroom
          obtain ⟨rm, hrm⟩ : ∃ rm, 59 - u = rm := ⟨_, rfl⟩
          rw [hrm] at E42 hrz
          clear hrm hroom
          go_wp2_with fail
          refine (unhide E42).mono ?_
          rintro e w10 ⟨rfl, k10, rfl⟩
          have hD10 := (unhide HD9).drewN k10
          obtain ⟨w10, hw10⟩ : ∃ w10, w9.drewN k10 = w10 := ⟨_, rfl⟩
          rw [hw10] at hD10 ⊢
          have hp10 := hD10.perm (l3 := logR lb2 db 1 59 5 u :: (.cell B 54 [.string ⟨#[122]⟩, .string ⟨#[122]⟩, .bool false] :: (deedsR (.slice pg m16 cg) P16 ++ l3))) (by
            refine (List.Perm.swap _ _ _).trans (List.Perm.cons _ ?_)
            exact List.perm_middle.symm)
          have hcc : ChL w10 (.slice (some ⟨B, 0, none⟩) 1 1) [⟨⟨#[122]⟩, ⟨#[122]⟩, false⟩] := by
            refine .inr ⟨B, 0, 1, rfl, by decide, hD10.hold.ltAt (.head _), fun j hj => ?_⟩
            obtain rfl : j = 0 := by simp at hj; omega
            exact ⟨hD10.cellAt (.head _) (j := 0) rfl, hD10.cellAt (.head _) (j := 1) rfl, hD10.cellAt (.head _) (j := 2) rfl⟩
          have ea := add_calls hp10 (by decide) hu59 (by decide) (by decide) (by rw [(unhide HOk2).steady.wr]; simp) (.slice (some ⟨B, 0, none⟩) 1 1) 1 _ hcc (by decide)
          rw [show listOf 1 (fun i => ([⟨⟨#[122]⟩, ⟨#[122]⟩, false⟩] : List ChD).getD i chZ) = [⟨⟨#[122]⟩, ⟨#[122]⟩, false⟩] from rfl] at ea
          obtain ⟨d3, had, hl3', hn3', hok3⟩ := add_done (unhide HOk2).steady.down (by rw [again_left]; decide) (unhide HOk2).len (unhide HOk2).pre hu59 (by decide) [⟨⟨#[122]⟩, ⟨#[122]⟩, false⟩] (by decide) (by have := unhide Hrm; simp; omega) (by kernel_rfl)
          unfold AddEnd at ea
          rw [had] at ea
          have EA := hide ea
          have HOk3 := hide hok3
          have Hn3 : Hid (d3.now.length = 60) := hn3'.trans (unhide H60)
          clear ea had hl3' hn3' hok3 hcc hp10 hD10 hw10 E42
          simp only [errV] at EA
          go_wp2_with fail
          refine (unhide EA).mono ?_
          rintro e w11 ⟨rfl, hD11⟩
          have e39 := open_calls hD11 (unhide HOk3).steady.down 1 59 5 (by decide) (by decide) (by decide) (by rw [unhide Hn3]; decide)
          unfold OpenEnd at e39
          rw [(unhide HOk3).read] at e39
          have E39 := hide e39
          clear e39 hD11 EA
          go_wp2_with fail
          refine (unhide E39).mono ?_
          rintro e w12 ⟨lb3, v19, P19, rfl, hP19, hD12⟩
          clear E39
          have hds : DsP w12 (.slice pg m16 cg) P16 := dsp_of_deeds hD12.hold fun x hx => by simp [hx]
          obtain ⟨dp, a1, a2⟩ := hD12.back
          have hsh : (Value.slice pg m16 cg) = .slice none 0 0 ∨ ∃ a n c, (Value.slice pg m16 cg) = .slice (some a) n c := dRow_shape (P := P16) hD12.hold (by
            show Res.row (Value.slice pg m16 cg) 36 1 P16.length (P16.map (·.1)) ∈ _
            simp [deedsR])
          have hlen16 : P16.length ≤ 1000 := by
            have h1 := congrArg List.length (unhide HP16)
            have h2 := (unhide HOk2).pre.len
            rw [List.length_map] at h1
            omega
          obtain ⟨⟨v1, w1', v2, w2', r1, r2, r3⟩, _⟩ := ds_both a1 hds hsh hlen16 (u := (.slice (some ⟨B, 0, none⟩) 1 1, [⟨⟨#[122]⟩, ⟨#[122]⟩, false⟩])) rfl
          rw [← List.cons_append] at r3
          have hD13 := a2 w2' _ r3
          have hd1 : DsP w2' v2 (P16 ++ [(.slice (some ⟨B, 0, none⟩) 1 1, [⟨⟨#[122]⟩, ⟨#[122]⟩, false⟩])]) := dsp_of_row hD13.hold (.head _) fun p hp => by
            rcases List.mem_append.1 hp with h | h
            · exact chl_of_row hD13.hold (by
                have : rowI p.1 p.2 ∈ deedsR (.slice pg m16 cg) P16 := .tail _ (List.mem_map.2 ⟨p, h, rfl⟩)
                simp [this])
            · rw [List.mem_singleton.1 h]
              have hmB : Res.cell B 54 [.string ⟨#[122]⟩, .string ⟨#[122]⟩, .bool false] ∈ (dRow v2 (P16 ++ [(.slice (some ⟨B, 0, none⟩) 1 1, [⟨⟨#[122]⟩, ⟨#[122]⟩, false⟩])]) :: (deedsR v19 P19 ++ logR lb3 db 1 59 5 (u + 2) :: logR lb2 db 1 59 5 (u + 2) :: Res.cell B 54 [.string ⟨#[122]⟩, .string ⟨#[122]⟩, .bool false] :: (deedsR (.slice pg m16 cg) P16 ++ l3))) := by simp
              refine .inr ⟨B, 0, 1, rfl, by simp, hD13.hold.ltAt hmB, fun j hj => ?_⟩
              obtain rfl : j = 0 := by simp at hj; omega
              exact ⟨hD13.cellAt hmB (j := 0) rfl, hD13.cellAt hmB (j := 1) rfl, hD13.cellAt hmB (j := 2) rfl⟩
          have hd2 : DsP w2' v19 P19 := dsp_of_deeds hD13.hold fun x hx => by simp [hx]
          have e41 := sameDs_calls v19 v2 P19 _ w2' hd2 hd1
          unfold SameEnd at e41
          have E41 := hide e41
          have HR : Hid (P19.map (·.2) = (P16 ++ [((Value.slice (some ⟨B, 0, none⟩) 1 1), [(⟨⟨#[122]⟩, ⟨#[122]⟩, false⟩ : ChD)])]).map (·.2)) := by show _ = _; rw [hP19, List.map_append, unhide HP16]; rfl
          have HB13 := hide hD13.below
          clear e41 hd1 hd2 hD13 a1 a2 r3 hds hsh hD12 hP19 hlen16
          go_wp2_with (first
            | (at_builtin; refine wpList_appendG rfl _ _ 69 69 rfl (.slice none 0 0) (.slice pg m16 cg) rfl rfl r1 ?_)
            | (at_builtin; refine wpList_appendG rfl _ _ 69 69 rfl v1 (.slice (some ⟨w1'.heap.size, 0, none⟩) 1 1) rfl rfl r2 ?_))
          refine (unhide E41).mono ?_
          rintro e w14 ⟨⟨r, rfl, hr⟩, k14, rfl⟩
          have hrt := hr (unhide HR)
          subst hrt
          clear hr E41
          go_wp2_with fail
          go_ret
          exact ⟨rfl, (Below.trans (unhide HB13) (((Hold.init w2').drewN k14).below.mono (unhide HB13).size))⟩
#print axioms topLog_walk
end Go.Proofs.Ytcjfhfalffngjaa
