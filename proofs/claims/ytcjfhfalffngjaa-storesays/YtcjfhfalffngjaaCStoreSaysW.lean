/-
  The walk of StoreSays.
-/
import Derived.Test.YtcjfhfalffngjaaCSSays
namespace Go.Proofs.Ytcjfhfalffngjaa
open Go.RowKit Go.Lib
set_option maxRecDepth 100000
set_option linter.unusedVariables false
set_option linter.unusedSimpArgs false

/-- Both stores, between two acts. -/
def BothS (W : World) (db mb n i : Nat) (v9 : Value) (wx : World) : Prop := ∃ sb d f1 used L vr, v9 = .pointer (some ⟨sb, 0, none⟩) ∧ SIn W wx db sb d n f1 used L [refSR mb vr used (n - 90), rowI vr L] ∧ f1 ≤ 200 * i ∧ d.left < 0

set_option maxHeartbeats 4000000 in
theorem storeSays_walk (sectors : Int) (va : Value) (na : Nat) (fa : Nat → ActD) (W : World) (hb : -9223372036854775808 ≤ sectors ∧ sectors ≤ 9223372036854775807) (hacts : ActsS W va na fa) :
    Calls Try.prog 6 #[.int .i64 sectors, va] W fun e W' => e = .returned (.bool true) ∧ Below W.heap.size W W' := by
  obtain ⟨hA, hshp⟩ := hacts
  have e45 := stores_calls W
  have E45 := hide e45
  obtain ⟨pv, cv, hv⟩ := hA.slice
  subst hv
  have HA := hide hA
  have HShp := hide hshp
  clear e45 hA hshp
  go_enter Try.func6, Try.ntmps6
  go_wp2_with fail
  refine (unhide E45).mono ?_
  rintro e w1 ⟨rfl, hb1⟩
  have e11 := lightActs_calls _ na fa w1 ((unhide HA).below hb1) 40 (by decide)
  have E11 := hide e11
  have HH := hide ((Hold.init W).over hb1)
  clear e11 E45 hb1
  go_wp2_with fail
  refine (unhide E11).mono ?_
  rintro e w2 ⟨⟨rr, rfl, hr⟩, rfl⟩
  clear E11
  cases rr with
  | false =>
    clear hr
    go_wp2_with fail
    go_ret
    exact ⟨rfl, (unhide HH).below⟩
  | true =>
  have hna : na ≤ 40 := (hr rfl).1
  have HLt := hide (hr rfl)
  clear hr
  by_cases hbad : sectors < 1 ∨ 130 < sectors
  · have E2 := hide (fun wx => new_bad wx sectors hbad)
    have E5 := hide (fun wx => same_yes (some 1) (fun k h => by cases h; decide) wx)
    by_cases hs1 : sectors < 1
    · clear hbad
      go_wp2_with (first
        | (go_at_call 12; refine (unhide E2 _).mono ?_; rintro e wx ⟨rfl, hwx⟩; have hwx := hwx.symm; subst hwx)
        | (go_at_call 14; refine (unhide E5 _).mono ?_; rintro e wx ⟨rfl, hwx⟩; have hwx := hwx.symm; subst hwx))
      go_ret
      exact ⟨rfl, (unhide HH).below⟩
    · have hs2 : 130 < sectors := by omega
      clear hbad
      go_wp2_with (first
        | (go_at_call 12; refine (unhide E2 _).mono ?_; rintro e wx ⟨rfl, hwx⟩; have hwx := hwx.symm; subst hwx)
        | (go_at_call 14; refine (unhide E5 _).mono ?_; rintro e wx ⟨rfl, hwx⟩; have hwx := hwx.symm; subst hwx))
      go_ret
      exact ⟨rfl, (unhide HH).below⟩
  obtain ⟨n, rfl⟩ : ∃ n : Nat, sectors = n := ⟨sectors.toNat, by omega⟩
  have hn0 : 0 < n := by omega
  have hn1 : n ≤ 130 := by omega
  have hz1 : ¬ (n : Int) < 1 := by omega
  have hz2 : ¬ (130 : Int) < (n : Int) := by omega
  clear hbad hb
  have E2 := hide (new_calls W w2 [] (unhide HH) n hn0 hn1)
  go_wp2_with fail
  refine (unhide E2).mono ?_
  rintro e w3 ⟨db, rfl, hD3⟩
  have e46 := openS_bad hD3 rfl (by simp only [newP]; rw [List.getD, List.getElem?_replicate, if_pos hn0]; rfl)
  have E46 := hide e46
  have HD3 := hide hD3
  clear e46 hD3 E2
  go_wp2_with fail
  refine (unhide E46).mono ?_
  rintro e w4 ⟨rfl, hb4⟩
  have hD4 := (unhide HD3).over hb4
  have e14 := same_yes (some 4) (fun k h => by cases h; decide) w4
  simp only [errV, Option.getD_some] at e14 ⊢
  have E14 := hide e14
  have e47 := format_in hn1 hD4
  have E47 := hide e47
  clear e14 e47 hD4 hb4 E46 HD3
  go_wp2_with fail
  refine (unhide E14).mono ?_
  rintro e w5 ⟨rfl, rfl⟩
  clear E14
  go_wp2_with fail
  refine (unhide E47).mono ?_
  rintro e w6 (⟨h104, rfl, hD6⟩ | ⟨h104, rfl, d6, hD6, hs6, hl6, hleft⟩)
  · have e14 := same_yes (some 9) (fun k h => by cases h; decide) w6
    simp only [errV, Option.getD_some] at e14
    have E14 := hide e14
    have hz3 : (n : Int) < 104 := by omega
    have HB6 := hide hD6.hold.below
    clear e14 hD6 E47 h104
    go_wp2_with fail
    refine (unhide E14).mono ?_
    rintro e w7 ⟨rfl, rfl⟩
    clear E14
    go_wp2_with fail
    go_ret
    exact ⟨rfl, unhide HB6⟩
  have hz3 : ¬ (n : Int) < 104 := by omega
  have e46 := open_in hD6 hs6 hl6 (by decide)
  have E46 := hide e46
  have Hleft := hide hleft
  clear e46 hD6 hs6 hl6 hleft E47
  go_wp2_with fail
  refine (unhide E46).mono ?_
  rintro e w7 ⟨sb, rfl, hI7⟩
  have hmz : ((n - 90 : Nat) : Int) = (n : Int) - 90 := by omega
  obtain ⟨mb, hmb⟩ : ∃ mb, w7.heap.size = mb := ⟨_, rfl⟩
  have HI8 : Hid (BothS W db mb n 0 (.pointer (some ⟨sb, 0, none⟩)) (w7.alloc (.cells #[.slice none 0 0, .int .i64 0, .int .i64 ((n : Int) - 90)] 83))) := by
    rw [← hmb, ← hmz]
    have h1 := hI7.join ((Hold.init w7).made 83 [.slice none 0 0, .int .i64 0, .int .i64 ((n - 90 : Nat) : Int)])
    obtain ⟨R, a1, a2⟩ := h1.back
    refine ⟨sb, d6, 0, 0, [], .slice none 0 0, rfl, ?_, by omega, by rw [unhide Hleft]; decide⟩
    have h2 := a1.nilRow 54 3
    exact a2 _ _ (h2.perm (.swap _ _ _))
  clear hI7 E46 Hleft
  go_wp2_with fail
  go_loopg [9, 12] (na + 1) (fun g v9 vi wr => ∃ (i : Nat), na - i < g ∧ i ≤ na ∧ vi = .int .i64 i ∧ Hid (BothS W db mb n i v9 wr))
  case atStart => exact ⟨0, by omega, by omega, rfl, HI8⟩
  case round =>
    obtain ⟨i, hg, hi, rfl, HAi⟩ := hrel
    clear HI8
    by_cases hin : i < na
    · have hiz : (i : Int) < (na : Int) := by omega
      obtain ⟨sb, d, f1, used, L, vr, rfl, hI, hf1, hleft⟩ := unhide HAi
      rcases unhide HA with ⟨_, h0⟩ | ⟨b, off, c, hv, hn63, hbb, hcells⟩
      · omega
      injection hv with hp _ hcc
      subst hp hcc
      obtain ⟨p0, p1, p2, p3, p4, p5, pch, pn, pk⟩ := hcells i hin
      have hsx := unhide HShp i hin
      have hltx := ((unhide HLt).2 i hin).2.2.1
      have below := hI.hold.below
      have q0 := (cell_below below (p := ⟨b, off + i * 6, none⟩) hbb).trans p0
      have q1 := (cell_below below (p := ⟨b, off + i * 6 + 1, none⟩) hbb).trans p1
      have q2 := (cell_below below (p := ⟨b, off + i * 6 + 2, none⟩) hbb).trans p2
      have q3 := (cell_below below (p := ⟨b, off + i * 6 + 3, none⟩) hbb).trans p3
      have q4 := (cell_below below (p := ⟨b, off + i * 6 + 4, none⟩) hbb).trans p4
      have q5 := (cell_below below (p := ⟨b, off + i * 6 + 5, none⟩) hbb).trans p5
      obtain ⟨cp, cc, hch⟩ := pch.slice
      obtain ⟨⟨kind, Sx, Tx, N, K, CH, cn, cf⟩, hX⟩ : ∃ x, fa i = x := ⟨_, rfl⟩
      rw [hX] at q0 q1 q2 q3 q4 q5 hch pch hsx hltx
      simp only at q0 q1 q2 q3 q4 q5 hch pch hsx hltx
      subst hch
      have HCh : Hid (∀ w', Below W.heap.size W w' → ChL w' (.slice cp cn cc) (listOf cn cf)) := fun w' hw' => chl_of_ok (pch.below hw')
      have Hsx := hide hsx
      obtain ⟨ab, hab⟩ : ∃ ab, wr.heap.size = ab := ⟨_, rfl⟩
      have HIa : Hid (SIn W (wr.alloc (.cells #[.string kind, .string Sx, .string Tx, .int .i64 N, .int .u64 (K : Int), .slice cp cn cc] 38)) db sb d n f1 used L [refSR mb vr used (n - 90), rowI vr L, .cell ab 38 [.string kind, .string Sx, .string Tx, .int .i64 N, .int .u64 (K : Int), .slice cp cn cc]]) := by
        rw [← hab]
        exact (hI.join ((Hold.init wr).made 38 [.string kind, .string Sx, .string Tx, .int .i64 N, .int .u64 (K : Int), .slice cp cn cc])).perm (List.perm_append_comm (l₁ := [refSR mb vr used (n - 90), rowI vr L]) (l₂ := [.cell wr.heap.size 38 [.string kind, .string Sx, .string Tx, .int .i64 N, .int .u64 (K : Int), .slice cp cn cc]]))
      have hfew := hI.few
      have Hfew := hide hfew
      clear p0 p1 p2 p3 p4 p5 pch below hcells hX hI pn pk hsx HAi hfew
      obtain ⟨bc, hbc⟩ : ∃ bc, (kind.toList == [99, 111, 109, 109, 105, 116]) = bc := ⟨_, rfl⟩
      obtain ⟨bs, hbs⟩ : ∃ bs, (kind.toList == [115, 97, 118, 101]) = bs := ⟨_, rfl⟩
      go_upto_block 2 with fail
      obtain ⟨wa, hwa⟩ : ∃ wa, wr.alloc (.cells #[.string kind, .string Sx, .string Tx, .int .i64 N, .int .u64 (K : Int), .slice cp cn cc] 38) = wa := ⟨_, rfl⟩
      rw [hwa] at HIa ⊢
      clear hwa hab q0 q1 q2 q3 q4 q5
      have k0 : wa.cell? ⟨ab, 0, none⟩ = some (.string kind) := (unhide HIa).hold.cellAt (.tail _ (.tail _ (.head _))) rfl
      go_cut [9, 14, 15] from 91 to 146 (fun a9 _ _ wx => Hid (BothS W db mb n (i + 1) a9 wx))
      case first =>
        cases bc with
        | true =>
          have ew := commit_calm (unhide HIa).drew hleft (by omega) (.slice cp cn cc) (listOf cn cf) (fun w' hw' => unhide HCh w' hw'.below) (unhide Hsx) (by rw [listOf_length]; omega)
          have er := fun (wx : World) (d' : DK) (f1' u' : Nat) (L' : List ChD) (hx : SIn W wx db sb d' n f1' u' L' [refSR mb vr used (n - 90), rowI vr L, .cell ab 38 [.string kind, .string Sx, .string Tx, .int .i64 N, .int .u64 (K : Int), .slice cp cn cc]]) => refcommit_in hx (unhide Hfew).2.2.2.1 (unhide Hfew).2.2.2.2.1 (unhide Hfew).2.2.1 (by omega) (.slice cp cn cc) (listOf cn cf) (unhide HCh wx hx.hold.below) (unhide Hsx) (by rw [listOf_length]; omega)
          have es := fun wx => same_yes (commitF (n - 90) L (listOf cn cf)) commitF_pos wx
          generalize commitF (n - 90) L (listOf cn cf) = o at ew er es
          generalize commitV (n - 90) used L (listOf cn cf) = u2 at ew er
          generalize commitL (n - 90) L (listOf cn cf) = L2 at ew er
          obtain ⟨ov, hov⟩ : ∃ ov, errV o = ov := ⟨_, rfl⟩
          obtain ⟨oi, hoi⟩ : ∃ oi, o.getD 0 = oi := ⟨_, rfl⟩
          rw [hov] at ew
          simp only [hov] at es
          simp only [hoi] at er es
          have EW := hide ew
          have ER := hide er
          have ES := hide es
          have hovs : ∃ t v, ov = .iface t v ∨ ov = .nilIface := by
            rw [← hov]; cases o with
            | none => exact ⟨0, .nilIface, .inr rfl⟩
            | some k => exact ⟨_, _, .inl rfl⟩
          have HS0 : Hid (wa.drew.cell? ⟨ab, 5, none⟩ = some (.slice cp cn cc)) := (unhide HIa).drew.hold.cellAt (.tail _ (.tail _ (.head _))) rfl
          clear ew er es hov hoi
          go_wp2_with fail
          go_region_held (fun w' => w'.cell? ⟨ab, 5, none⟩ = some (.slice cp cn cc)) (first | exact unhide HS7 | exact unhide HS6 | exact unhide HS0) (first
            | (go_at_call 48; refine (unhide EW).mono ?_; rintro e w6 ⟨rfl, d6', f6, hI6, hf6, hl6⟩; have HS6 : Hid (w6.cell? ⟨ab, 5, none⟩ = some (.slice cp cn cc)) := hI6.hold.cellAt (.tail _ (.tail _ (.head _))) rfl; have HI6 := hide hI6; have Hf6 := hide hf6; have Hl6 := hide hl6; clear hI6 hf6 hl6)
            | (go_at_call 49; refine (unhide ER _ _ _ _ _ (unhide HI6)).mono ?_; rintro e w7 ⟨rfl, vr7, hI7⟩; have HS7 : Hid (w7.cell? ⟨ab, 5, none⟩ = some (.slice cp cn cc)) := hI7.hold.cellAt (.tail _ (.tail _ (.head _))) rfl; have HI7 := hide hI7; clear hI7)
            | (go_at_call 14; refine (unhide ES _).mono ?_; rintro e w8 ⟨rfl, hw8⟩; subst hw8))
          all_goals
            go_wp2_with fail
            go_meet
            exact ⟨sb, d6', f6, u2, L2, vr7, rfl, (unhide HI7).sub (.cons_cons _ (.cons_cons _ (.cons _ .slnil))), by have := unhide Hf6; omega, unhide Hl6⟩
        | false =>
        cases bs with
        | true =>
          have e50 := check_in (unhide HIa) (by omega)
          have E50 := hide e50
          clear e50
          go_wp2_with fail
          refine (unhide E50).mono ?_
          rintro e w6 (⟨rfl, d6', f6, hI6, hf6, hl6⟩ | ⟨_, h1, _⟩)
          rotate_left
          · exfalso; omega
          have c1 : w6.cell? ⟨mb, 1, none⟩ = some (.int .i64 used) := hI6.hold.cellAt (.head _) rfl
          have g1 : w6.frozen? ⟨mb, 1, none⟩ = false := hI6.hold.frozenAt (.head _) 1
          have HN : Hid (BothS W db mb n (i + 1) (.pointer (some ⟨sb, 0, none⟩)) (w6.setCell ⟨mb, 1, none⟩ (.int .i64 0))) := by
            obtain ⟨R, a1, a2⟩ := hI6.back
            have h1 := a1.store [] 1 (.int .i64 0) _ rfl
            exact ⟨sb, d6', f6, 0, L, vr, rfl, (a2 _ (refSR mb vr 0 (n - 90) :: rowI vr L :: [.cell ab 38 [.string kind, .string Sx, .string Tx, .int .i64 N, .int .u64 (K : Int), .slice cp cn cc]]) h1).sub (.cons_cons _ (.cons_cons _ (.cons _ .slnil))), by omega, by rw [hl6 hleft]; exact hleft⟩
          clear hI6 hf6 hl6 E50
          go_wp2_with fail
          go_meet
          exact HN
        | false =>
          have e46 := reopen_in (unhide HIa) (by omega)
          have E46 := hide e46
          clear e46
          go_wp2_with fail
          refine (unhide E46).mono ?_
          rintro e w6 ⟨sb2, rfl, half6, v6, lb6, hI6⟩
          have HN : Hid (BothS W db mb n (i + 1) (.pointer (some ⟨sb2, 0, none⟩)) w6) :=
            ⟨sb2, d, f1, used, L, vr, rfl, hI6.sub (.cons _ (.cons _ (.cons _ (.cons_cons _ (.cons_cons _ (.cons _ .slnil)))))), by omega, hleft⟩
          clear hI6 E46
          go_wp2_with fail
          go_meet
          exact HN
      case rest =>
        obtain ⟨sb2, d2, f2, used2, L2, vr2, hu9, hI2, hf2, hleft2⟩ := unhide hcut
        subst hu9
        have hfew2 := hI2.few
        obtain ⟨many, hmany⟩ : ∃ many, n - 90 = many := ⟨_, rfl⟩
        rw [hmany] at hI2 hfew2
        obtain ⟨ml, hml⟩ : ∃ m, L2.length = m := ⟨_, rfl⟩
        have hmw : IntKind.i64.wrap ((many : Int) - (used2 : Int)) = ((many - used2 : Nat) : Int) := by rw [wrap_in _ (by omega)]; omega
        have e51 : ∀ wx, SIn W wx db sb2 d2 n f2 used2 L2 [refSR mb vr2 used2 many, rowI vr2 L2] → Calls Try.prog 51 #[.pointer (some ⟨sb2, 0, none⟩)] wx fun e w' => e = .returned (.int .i64 (IntKind.i64.wrap ((many : Int) - (used2 : Int)))) ∧ SIn W w' db sb2 d2 n f2 used2 L2 [refSR mb vr2 used2 many, rowI vr2 L2] := fun wx hx => (room_in hx).mono fun e w' hw => by
          obtain ⟨h1, m, h2⟩ := hw
          rw [hmw, h2]
          exact ⟨by rw [h1, hmany], hx.drewN m⟩
        have e52 : ∀ wx, SIn W wx db sb2 d2 n f2 used2 L2 [refSR mb vr2 used2 many, rowI vr2 L2] → Calls Try.prog 52 #[.pointer (some ⟨sb2, 0, none⟩)] wx fun e w' => ∃ p c, e = .returned (.slice p ml c) ∧ SIn W w' db sb2 d2 n f2 used2 L2 [rowI (.slice p ml c) L2, refSR mb vr2 used2 many, rowI vr2 L2] := fun wx hx => (rows_in hx).mono fun e w' hw => by
          obtain ⟨v', h1, h2⟩ := hw
          obtain ⟨p3, c3, hv3, _⟩ := row_slice (h2.rowAt (.head _))
          rw [hml] at hv3
          subst hv3
          exact ⟨p3, c3, h1, hx.join h2⟩
        have e35 : ∀ wx p c, SIn W wx db sb2 d2 n f2 used2 L2 [rowI (.slice p ml c) L2, refSR mb vr2 used2 many, rowI vr2 L2] → Calls Try.prog 35 #[.slice p ml c, vr2] wx fun e w' => e = .returned (.bool true) ∧ SIn W w' db sb2 d2 n f2 used2 L2 [rowI (.slice p ml c) L2, refSR mb vr2 used2 many, rowI vr2 L2] := fun wx p c hx => (sameL_calls (.slice p ml c) vr2 L2 L2 wx (chl_of_row hx.hold (.head _)) (chl_of_row hx.hold (.tail _ (.tail _ (.head _))))).mono fun e w' hw => by
          obtain ⟨⟨r, h1, h2⟩, k, h3⟩ := hw
          rw [h2 rfl] at h1
          rw [h3]
          exact ⟨h1, hx.drewN k⟩
        have HSx : Hid (∀ wx l, SIn W wx db sb2 d2 n f2 used2 L2 l → refSR mb vr2 used2 many ∈ l → wx.cell? ⟨mb, 0, none⟩ = some vr2 ∧ wx.cell? ⟨mb, 1, none⟩ = some (.int .i64 used2) ∧ wx.cell? ⟨mb, 2, none⟩ = some (.int .i64 many)) := fun wx l hx hm => ⟨hx.hold.cellAt hm rfl, hx.hold.cellAt hm rfl, hx.hold.cellAt hm rfl⟩
        obtain ⟨pr, cr, hvr, _⟩ := row_slice (hI2.hold.rowAt (.tail _ (.head _)))
        rw [hml] at hvr
        subst hvr
        have HS0 := hide (unhide HSx _ _ hI2.drew (.head _))
        have HI2 := hide hI2.drew
        have E51 := hide e51
        have E52 := hide e52
        have E35 := hide e35
        have Hmany := hide hmany
        clear e51 e52 e35 hI2 hmw hmany hml hcut hfew2
        go_wp2_with fail
        go_region_held (fun w' => w'.cell? ⟨mb, 0, none⟩ = some (.slice pr ml cr) ∧ w'.cell? ⟨mb, 1, none⟩ = some (.int .i64 used2) ∧ w'.cell? ⟨mb, 2, none⟩ = some (.int .i64 many)) (first | exact unhide HS8 | exact unhide HS7 | exact unhide HS6 | exact unhide HS0) (first
          | (go_at_call 51; refine (unhide E51 _ (unhide HI2)).mono ?_; rintro e w6 ⟨rfl, hI6⟩; have HS6 := hide (unhide HSx _ _ hI6 (.head _)); have HI6 := hide hI6; clear hI6)
          | (go_at_call 52; refine (unhide E52 _ (unhide HI6)).mono ?_; rintro e w7 ⟨p7, c7, rfl, hI7⟩; have HS7 := hide (unhide HSx _ _ hI7 (.tail _ (.head _))); have HI7 := hide hI7; clear hI7)
          | (go_at_call 35; refine (unhide E35 _ _ _ (unhide HI7)).mono ?_; rintro e w8 ⟨rfl, hI8⟩; have HS8 := hide (unhide HSx _ _ hI8 (.tail _ (.head _))); have HI8 := hide hI8; clear hI8))
        all_goals
          go_wp2_with fail
          go_roundg (na - i)
          case measure => omega
          case rel => exact ⟨i + 1, by omega, by omega, by simp, sb2, d2, f2, used2, L2, _, rfl, by rw [unhide Hmany]; exact (unhide HI8).sub (.cons _ (.refl _)), hf2, hleft2⟩
    · have hiz : ¬ (i : Int) < (na : Int) := by omega
      have HB : Hid (Below W.heap.size W wr) := by
        obtain ⟨sb, d, f1, used, L, vr, _, h, _⟩ := unhide HAi
        exact h.hold.below
      go_wp2_with fail
      go_ret
      exact ⟨rfl, unhide HB⟩
#print axioms storeSays_walk
end Go.Proofs.Ytcjfhfalffngjaa
