/-
  The walk of LogSays: it answers true for all sectors, places, numbers and acts.
-/
import Derived.Test.YtcjfhfalffngjaaLSaysP
import Derived.Deep.CutBlock
import Derived.Deep.CutRange
namespace Go.Proofs.Ytcjfhfalffngjaa
open Go.RowKit Go.Lib
set_option maxRecDepth 100000
set_option linter.unusedVariables false
set_option linter.unusedSimpArgs false

set_option maxHeartbeats 8000000 in
theorem logSays_walk (v0 : Value) (nn : Nat) (l : List (List UInt8)) (from_ many_ first_ : Int) (v4 : Value) (na : Nat) (fa : Nat → ActD) (W : World) (hok : StrOk W v0 l) (hb1 : -9223372036854775808 ≤ from_ ∧ from_ ≤ 9223372036854775807) (hb2 : -9223372036854775808 ≤ many_ ∧ many_ ≤ 9223372036854775807) (hb3 : -9223372036854775808 ≤ first_ ∧ first_ ≤ 9223372036854775807) (hacts : ActsOk W v4 na fa) :
    Calls Try.prog 5 #[v0, .int .i64 from_, .int .i64 many_, .int .i64 first_, v4] W fun e W' => e = .returned (.bool true) ∧ Below W.heap.size W W' := by
  obtain ⟨pv, cv, hv⟩ := hok.slice
  subst hv
  have e38 := logs_calls W
  have E38 := hide e38
  have HOk := hide hok
  have HA := hide hacts
  have hl63 : l.length ≤ 9223372036854775807 := by
    rcases hok with ⟨rfl, _⟩ | ⟨_, _, _, _, h, _⟩
    · simp
    · exact h
  obtain ⟨n, hn⟩ : ∃ n, l.length = n := ⟨_, rfl⟩
  rw [hn] at HOk hl63 ⊢
  have Hn := hide hn
  obtain ⟨pa, ca, hva⟩ : ∃ p c, v4 = .slice p na c := by
    rcases hacts with ⟨⟨p, c, h⟩, rfl⟩ | ⟨b, off, c, h, _⟩
    · exact ⟨p, c, h⟩
    · exact ⟨_, c, h⟩
  subst hva
  clear e38 hok hacts hn
  go_enter Try.func5, Try.ntmps5
  go_wp2_with fail
  refine (unhide E38).mono ?_
  rintro e w1 ⟨rfl, hb1'⟩
  have HB1 := hide hb1'
  clear hb1' E38
  by_cases h40 : 40 < n
  · have hz : (40 : Int) < (n : Int) := by omega
    go_wp2_with fail
    go_ret
    exact ⟨rfl, unhide HB1⟩
  have hz40 : ¬ (40 : Int) < (n : Int) := by omega
  have e11 := lightActs_calls _ na fa w1 ((unhide HA).below (unhide HB1)) 20 (by decide)
  have E11 := hide e11
  clear e11
  go_wp2_with fail
  refine (unhide E11).mono ?_
  rintro e w2 ⟨⟨r, rfl, hr⟩, rfl⟩
  clear E11
  cases r with
  | false =>
    clear hr
    go_wp2_with fail
    go_ret
    exact ⟨rfl, unhide HB1⟩
  | true =>
    obtain ⟨hna, hlight⟩ := hr rfl
    have HLi := hide hlight
    clear hr hlight
    by_cases hfirst : 1000000 < first_
    · go_wp2_with fail
      go_ret
      exact ⟨rfl, unhide HB1⟩
    have hfirst' : first_ ≤ 1000000 := by omega
    go_wp2_with fail
    go_loopg [12] (n + 1) (fun g vi wr => ∃ (i : Nat), n - i < g ∧ i ≤ n ∧ vi = .int .i64 i ∧ wr = w2 ∧ Hid (∀ j s, j < i → l[j]? = some s → s.length ≤ 140))
    case atStart => exact ⟨0, by omega, by omega, rfl, rfl, fun j s hj => by omega⟩
    case round =>
      obtain ⟨i, hg, hi, rfl, rfl, HS⟩ := hrel
      by_cases hin : i < n
      · as_aux_lemma =>
          have hiz : (i : Int) < (n : Int) := by omega
          rcases unhide HOk with ⟨h0, _⟩ | ⟨b, off, c, hv1, _, hbW, hcs⟩
          · have := unhide Hn; rw [h0] at this; simp at this; omega
          injection hv1 with e1 e2 e3
          subst e1 e3
          clear e2
          obtain ⟨s, hx⟩ : ∃ s, l[i]? = some s := ⟨_, List.getElem?_eq_getElem (by rw [unhide Hn]; exact hin)⟩
          have q0 := (cell_below (unhide HB1) (p := ⟨b, off + i, none⟩) hbW).trans (hcs i s hx)
          have hsz : (mkB s).size = s.length := mkB_size s
          obtain ⟨S, hS⟩ : ∃ S, mkB s = S := ⟨_, rfl⟩
          rw [hS] at q0 hsz
          have Hx := hide hx
          have Hsz := hide hsz
          clear hcs hx hS
          by_cases h140 : 140 < S.size
          · have hz : (140 : Int) < (S.size : Int) := by omega
            clear hsz
            go_wp2_with fail
            go_ret
            exact ⟨rfl, unhide HB1⟩
          · have hz : ¬ (140 : Int) < (S.size : Int) := by omega
            clear hsz
            go_wp2_with fail
            go_roundg (n - i)
            case measure => omega
            case rel =>
              refine ⟨i + 1, by omega, by omega, by simp, rfl, fun j s' hj hs' => ?_⟩
              rcases Nat.lt_or_ge j i with h | h
              · exact unhide HS j s' h hs'
              · obtain rfl : j = i := by omega
                rw [unhide Hx] at hs'
                cases hs'
                have := unhide Hsz
                omega
      · have hiz : ¬ (i : Int) < (n : Int) := by omega
        have HS140 : Hid (∀ s ∈ l, s.length ≤ 140) := fun s hs => by
          obtain ⟨j, hj, rfl⟩ := List.mem_iff_getElem.1 hs
          exact unhide HS j _ (by rw [unhide Hn] at hj; omega) (List.getElem?_eq_getElem hj)
        clear HS hi hg
        obtain ⟨m, hm⟩ : ∃ m : Nat, m = max 1 n := ⟨_, rfl⟩
        have hm1 : 1 ≤ m := by omega
        have hmn : n ≤ m := by omega
        have hm40 : m ≤ 40 := by omega
        have hmz : max (1 : Int) (n : Int) = (m : Int) := by omega
        have e12 := new_calls W wr [] ((Hold.init W).over (by exact unhide HB1)) m (by omega) (by omega)
        unfold NewEnd at e12
        have E12 := hide e12
        clear e12 hm
        go_wp2_with fail
        refine (unhide E12).mono ?_
        rintro e w3 ⟨db, rfl, hD3⟩
        have HD3 := hide hD3
        clear E12 hD3 HB1
        go_wp2_with fail
        go_loopg [15] (n + 1) (fun g vi wr => ∃ (i : Nat) (d : DK), n - i < g ∧ i ≤ n ∧ vi = .int .i64 i ∧ Hid (Up d m) ∧ Hid (d.wr.length ≤ i) ∧ Hid (DiskIn W wr db d []))
        case atStart => exact ⟨0, newP m, by omega, by omega, rfl, Up.new m, by simp [newP, Hid], HD3⟩
        case round =>
          clear HD3
          obtain ⟨j, d, hg, hj, rfl, HU, HWr, HD⟩ := hrel
          by_cases hjn : j < n
          · as_aux_lemma =>
              have hjz : (j : Int) < (n : Int) := by omega
              rcases unhide HOk with ⟨h0, _⟩ | ⟨b, off, c, hv1, _, hbW, hcs⟩
              · have := unhide Hn; rw [h0] at this; simp at this; omega
              injection hv1 with e1 e2 e3
              subst e1 e3
              clear e2
              obtain ⟨s, hx⟩ : ∃ s, l[j]? = some s := ⟨_, List.getElem?_eq_getElem (by rw [unhide Hn]; exact hjn)⟩
              have q0 := (cell_below (unhide HD).below (p := ⟨b, off + j, none⟩) hbW).trans (hcs j s hx)
              have ew := write_calls W wr db d [] (unhide HD) (by have := unhide HWr; omega) (j : Int) (mkB s)
              unfold WriteEnd at ew
              rw [mkB_list] at ew
              obtain ⟨hw1, hw2⟩ := (unhide HU).write (show j < m by omega) (unhide HS140 s (List.mem_of_getElem? hx))
              have hw3 := written_wr d (j : Int) s
              rw [hw1] at ew
              obtain ⟨S, hS⟩ : ∃ S, mkB s = S := ⟨_, rfl⟩
              rw [hS] at q0 ew
              obtain ⟨d', hd'⟩ : ∃ d', d.written (j : Int) s = d' := ⟨_, rfl⟩
              rw [hd'] at ew hw2 hw3
              simp only [errV] at ew
              have EW := hide ew
              have HU2 := hide hw2
              have HWr2 : Hid (d'.wr.length ≤ j + 1) := by have := unhide HWr; show _ ≤ _; omega
              clear ew hcs hx hw1 hw2 hw3 hd' hS
              go_wp2_with fail
              refine (unhide EW).mono ?_
              rintro e w4 ⟨rfl, hD4⟩
              have HD4 := hide hD4
              clear hD4 EW
              go_wp2_with fail
              go_roundg (n - j)
              case measure => omega
              case rel => exact ⟨j + 1, d', by omega, by omega, by simp, HU2, HWr2, HD4⟩
          · have hjz : ¬ (j : Int) < (n : Int) := by omega
            have HWr2 : Hid (d.wr.length ≤ 40) := by have := unhide HWr; show _ ≤ _; omega
            clear HWr HS140
            by_cases hbad : from_ < 0 ∨ many_ < 1 ∨ first_ < 1 ∨ (m : Int) - from_ < many_
            · as_aux_lemma =>
                have e39 := open_bad (unhide HD) from_ many_ first_ hb1 (by rw [(unhide HU).len]; exact hbad)
                simp only [errV] at e39
                have E39 := hide e39
                have e15 := sectors_calls W wr db d [] (unhide HD)
                rw [(unhide HU).len] at e15
                have E15 := hide e15
                have es := same_calls wr (some 1) 1
                unfold sameP at es
                simp only [errV] at es
                have ES := hide es
                clear e39 e15 es
                go_wp2_with fail
                refine (unhide E39).mono ?_
                rintro e w4 ⟨rfl, rfl⟩
                clear E39
                by_cases c1 : from_ < 0
                · go_wp2_with fail
                  refine (unhide ES).mono ?_
                  rintro e w5 ⟨rfl, rfl⟩
                  simp only [beq_self_eq_true, Bool.and_true]
                  go_wp2_with fail
                  go_ret
                  exact ⟨rfl, (unhide HD).below⟩
                by_cases c2 : many_ < 1
                · go_wp2_with fail
                  refine (unhide ES).mono ?_
                  rintro e w5 ⟨rfl, rfl⟩
                  simp only [beq_self_eq_true, Bool.and_true]
                  go_wp2_with fail
                  go_ret
                  exact ⟨rfl, (unhide HD).below⟩
                by_cases c3 : (m : Int) < many_
                · go_wp2_with (go_at_call 15; refine (unhide E15).mono ?_; rintro e w5 ⟨rfl, rfl⟩)
                  refine (unhide ES).mono ?_
                  rintro e w5 ⟨rfl, rfl⟩
                  simp only [beq_self_eq_true, Bool.and_true]
                  go_wp2_with fail
                  go_ret
                  exact ⟨rfl, (unhide HD).below⟩
                by_cases c4 : (m : Int) - many_ < from_
                · go_wp2_with (go_at_call 15; refine (unhide E15).mono ?_; rintro e w5 ⟨rfl, rfl⟩)
                  refine (unhide ES).mono ?_
                  rintro e w5 ⟨rfl, rfl⟩
                  simp only [beq_self_eq_true, Bool.and_true]
                  go_wp2_with fail
                  go_ret
                  exact ⟨rfl, (unhide HD).below⟩
                · have c5 : first_ < 1 := by omega
                  clear hbad
                  go_wp2_with (go_at_call 15; refine (unhide E15).mono ?_; rintro e w5 ⟨rfl, rfl⟩)
                  refine (unhide ES).mono ?_
                  rintro e w5 ⟨rfl, rfl⟩
                  simp only [beq_self_eq_true, Bool.and_true]
                  go_wp2_with fail
                  go_ret
                  exact ⟨rfl, (unhide HD).below⟩
            · obtain ⟨fr, hfr⟩ : ∃ x : Nat, from_ = x := ⟨from_.toNat, by omega⟩
              obtain ⟨many, hmany⟩ : ∃ x : Nat, many_ = x := ⟨many_.toNat, by omega⟩
              obtain ⟨first, hfst⟩ : ∃ x : Nat, first_ = x := ⟨first_.toNat, by omega⟩
              subst hfr hmany hfst
              have g1 : ¬ (fr : Int) < 0 := by omega
              have g2 : ¬ (many : Int) < 1 := by omega
              have g3 : ¬ (m : Int) < (many : Int) := by omega
              have g4 : ¬ (m : Int) - (many : Int) < (fr : Int) := by omega
              have g5 : ¬ (first : Int) < 1 := by omega
              have hfm : fr + many ≤ m := by omega
              have hf6 : first ≤ 1000000 := by omega
              have e39 := open_calls (unhide HD) (unhide HU).down fr many first (by omega) (by omega) hf6 (by rw [(unhide HU).len]; exact hfm)
              unfold OpenEnd at e39
              have E39 := hide e39
              clear e39 hbad hfirst' hfirst hb1 hb2 hb3
              go_wp2_with fail
              refine (unhide E39).mono ?_
              rintro e w4 ⟨lb, v17, P17, rfl, hP17, hD4⟩
              obtain ⟨p17, c17, hv17, _⟩ := row_slice (hD4.hold.rowAt (.head _))
              obtain ⟨m17, hm17⟩ : ∃ m, P17.length = m := ⟨_, rfl⟩
              rw [hm17] at hv17
              subst hv17
              have HD4 := hide hD4
              have HP17 := hide hP17
              have e15 := sectors_calls W w4 db d _ hD4
              rw [(unhide HU).len] at e15
              have E15 := hide e15
              clear e15 hD4 hP17 hm17 E39 HD
              go_upto_region 22 with (go_at_call 15; refine (unhide E15).mono ?_; rintro e w5 ⟨rfl, rfl⟩)
              go_cut [18] from 28 (fun a18 wc => a18 = .slice none 0 0 ∧ wc = w5)
              case first =>
                go_wp2_with fail
                go_meet
                exact ⟨rfl, rfl⟩
              obtain ⟨rfl, hwc⟩ := hcut
              rw [hwc]
              clear hwc
              go_wp2_with fail
              have HStart : Hid (DiskIn W w5 db d (strR (.slice none 0 0) (nowL d.now fr 0) :: (deedsR (.slice p17 m17 c17) P17 ++ [logR lb db fr many first (readP d fr many first).used]))) := by
                obtain ⟨dp, a1, a2⟩ := (unhide HD4).back
                exact a2 w5 _ (a1.nilRow 9 1)
              clear HD4 E15 g1 g2 g3 g4 g5
              go_loopg [18, 19, 20, 21] (many + 1) (fun g v18 vi v20 v21 wr => ∃ (i : Nat), many - i < g ∧ i ≤ many ∧ vi = .int .i64 i ∧ Hid (DiskIn W wr db d (strR v18 (nowL d.now fr i) :: (deedsR (.slice p17 m17 c17) P17 ++ [logR lb db fr many first (readP d fr many first).used]))))
              case atStart => exact ⟨0, by omega, by omega, rfl, HStart⟩
              case round =>
                clear HStart
                obtain ⟨k, hg, hk, rfl, HD⟩ := hrel
                have hlen := nowL_length d.now fr k
                obtain ⟨p18, c18, hv18, _⟩ := row_slice ((unhide HD).hold.rowAt (.head _))
                rw [hlen] at hv18
                subst hv18
                by_cases hkm : k < many
                · as_aux_lemma =>
                    have hkz : (k : Int) < (many : Int) := by omega
                    have er := read_calls W wr db d _ (unhide HD) ((fr : Int) + (k : Int))
                    unfold ReadEnd at er
                    have hce : ((fr : Int) + (k : Int)) = ((fr + k : Nat) : Int) := by omega
                    have hhas : d.has ((fr : Int) + (k : Int)) = true := by rw [hce]; simp [DK.has, (unhide HU).len]; omega
                    have e1 : d.readE ((fr : Int) + (k : Int)) = none := by unfold DK.readE; rw [(unhide HU).down, hhas]; rfl
                    have e2 : (⟨(d.readB ((fr : Int) + (k : Int))).toArray⟩ : ByteArray) = mkB (d.now.getD (fr + k) []) := by unfold DK.readB; rw [(unhide HU).down, hhas, hce]; rfl
                    rw [e1, e2] at er
                    simp only [errV] at er
                    have ER := hide er
                    obtain ⟨dp, a1, a2⟩ := (unhide HD).back
                    obtain ⟨v9, w9, hr9, h9⟩ := str_add a1 (d.now.getD (fr + k) []) (by rw [hlen]; omega)
                    have HD9 : Hid (DiskIn W w9 db d (strR v9 (nowL d.now fr (k + 1)) :: (deedsR (.slice p17 m17 c17) P17 ++ [logR lb db fr many first (readP d fr many first).used]))) := by
                      rw [nowL_succ]
                      exact a2 w9 _ h9
                    obtain ⟨S, hS⟩ : ∃ S, mkB (d.now.getD (fr + k) []) = S := ⟨_, rfl⟩
                    rw [hS] at ER hr9
                    clear er hhas e1 e2 hce a1 a2 h9 hlen hS
                    go_wp2_with fail
                    refine (unhide ER).mono ?_
                    rintro e w5 ⟨rfl, rfl⟩
                    clear ER
                    go_wp2_with (at_builtin; refine wpList_appendI rfl _ _ 47 47 rfl (.slice p18 k c18) (.slice (some ⟨w5.heap.size, 0, none⟩) 1 1) rfl rfl hr9 ?_)
                    clear hr9
                    go_roundg (many - k)
                    case measure => omega
                    case rel => exact ⟨k + 1, by omega, by omega, by simp, HD9⟩
                · have hkz : ¬ (k : Int) < (many : Int) := by omega
                  obtain rfl : k = many := by omega
                  have ec := closed_calls (.slice p18 k c18) (nowL d.now fr k) first wr (str_of_row (unhide HD).hold (.head _)) (by rw [hlen]; omega) hf6 (nowL_secs (unhide HD).ok.now (by rw [(unhide HU).len]; exact hfm))
                  rw [hlen, nowL_go] at ec
                  have ec' : Calls Try.prog 40 #[.slice p18 k c18, .int .i64 first] wr fun e w' => ClosedEnd wr (readP d fr k first) e w' := ec
                  unfold ClosedEnd at ec'
                  have EC := hide ec'
                  clear ec ec' hlen
                  go_wp2_with fail
                  refine (unhide EC).mono ?_
                  rintro e w6 ⟨v22, P22, rfl, hP22, hH6⟩
                  have hD6 := (unhide HD).join hH6
                  obtain ⟨p22, c22, hv22, _⟩ := row_slice (hH6.rowAt (.head _))
                  have hsh := dRow_shape (P := P22) hH6 (.head _)
                  obtain ⟨u0, hu0⟩ : ∃ u, (readP d fr k first).used = u := ⟨_, rfl⟩
                  have HSt : Hid (SaysIn W db lb (.pointer (some ⟨lb, 0, none⟩)) (.slice p17 m17 c17) v22 w6 m fr k first d u0 (deedsR v22 P22 ++ (strR (.slice p18 k c18) (nowL d.now fr k) :: deedsR (.slice p17 m17 c17) P17)) P17 P22) := by
                    refine ⟨hD6.perm ?_, fun w' l hh => ⟨?_, ?_⟩, unhide HU, by have := unhide HWr2; omega, ⟨hP22.symm, hu0⟩, (unhide HP17).trans hP22.symm, rfl, hsh⟩
                    · rw [hu0]
                      have hp : (logR lb db fr k first u0 :: (deedsR v22 P22 ++ (strR (.slice p18 k c18) (nowL d.now fr k) :: deedsR (.slice p17 m17 c17) P17))).Perm ((deedsR v22 P22 ++ (strR (.slice p18 k c18) (nowL d.now fr k) :: deedsR (.slice p17 m17 c17) P17)) ++ [logR lb db fr k first u0]) := (List.perm_append_comm (l₁ := [logR lb db fr k first u0]))
                      rw [List.append_assoc] at hp
                      exact hp
                    · exact dsp_of_deeds hh fun x hx => by simp [hx]
                    · exact dsp_of_deeds hh fun x hx => by simp [hx]
                  rw [hu0]
                  clear hD6 hH6 hP22 HD EC hsh hu0 HWr2 HP17 hv22
                  go_wp2_with fail
                  go_loopg [14, 16, 17, 22, 23, 24, 25, 26, 27] (na + 1) (fun g v14 v16 v17 v22 v23 v24 v25 v26 v27 wr => ∃ (i lb : Nat) (d : DK) (used : Nat) (R : List Res) (Pg Pw : List (Value × List ChD)), na - i < g ∧ i ≤ na ∧ v24 = .int .i64 i ∧ v23 = .int .i64 used ∧ v16 = .pointer (some ⟨lb, 0, none⟩) ∧ Hid (SaysIn W db lb v16 v17 v22 wr m fr k first d used R Pg Pw))
                  case atStart => exact ⟨0, lb, d, u0, _, _, _, by omega, by omega, rfl, rfl, rfl, HSt⟩
                  case round =>
                    clear HSt HU
                    obtain ⟨i, lb2, d, used, R, Pg, Pw, hg, hi, rfl, rfl, rfl, HS⟩ := hrel
                    obtain ⟨hum, hpre⟩ := (unhide HS).pre
                    have hS := unhide HS
                    have hrd := hS.read wr [_] hS.disk.hold
                    have e41 := sameDs_calls u17 u22 Pg Pw wr hrd.1 hrd.2
                    unfold SameEnd at e41
                    have k2 : wr.cell? ⟨lb2, 2, none⟩ = some (.int .i64 k) := hS.disk.cellAt (.head _) rfl
                    have k3 : wr.cell? ⟨lb2, 3, none⟩ = some (.int .i64 first) := hS.disk.cellAt (.head _) rfl
                    have k4 : wr.cell? ⟨lb2, 4, none⟩ = some (.int .i64 used) := hS.disk.cellAt (.head _) rfl
                    have e42 := fun q => room_calls lb2 k used (wr.drewN q) hum (by omega) k2 k4
                    have e43 := fun q => next_calls lb2 k first (wr.drewN q) hf6 (by omega) k2 k3
                    rw [show ((k - used : Nat) : Int) = (k : Int) - (used : Int) by omega] at e42
                    rw [show ((first + k : Nat) : Int) = (first : Int) + (k : Int) by omega] at e43
                    have E41 := hide e41
                    have E42 := hide e42
                    have E43 := hide e43
                    have Hpre := hide hpre
                    have huk : (used : Int) ≤ (k : Int) := by omega
                    have hiz0 : (i : Int) ≤ (na : Int) := by omega
                    clear e41 e42 e43 hrd hS k2 k3 k4 hpre
                    go_wp2_with fail
                    refine (unhide E41).mono ?_
                    rintro e w7 ⟨⟨r, rfl, hr⟩, q1, rfl⟩
                    obtain rfl := hr (unhide HS).same
                    clear hr E41
                    go_wp2_with fail
                    refine (unhide E42 q1).mono ?_
                    rintro e w8 ⟨rfl, q2, rfl⟩
                    rw [World.drewN_drewN]
                    clear E42
                    go_wp2_with fail
                    refine (unhide E43 _).mono ?_
                    rintro e w9 ⟨rfl, q3, rfl⟩
                    rw [World.drewN_drewN]
                    clear E43
                    have HS9 := hide ((unhide HS).world ((unhide HS).disk.drewN (q1 + q2 + q3)))
                    obtain ⟨w9, hw9⟩ : ∃ w9, wr.drewN (q1 + q2 + q3) = w9 := ⟨_, rfl⟩
                    rw [hw9] at HS9 ⊢
                    clear hw9 HS
                    by_cases hlast : i = na
                    · subst hlast
                      go_wp2_with fail
                      go_ret
                      exact ⟨rfl, (unhide HS9).disk.below⟩
                    have hlz : ¬ (i : Int) = (na : Int) := by omega
                    have hin : i < na := by omega
                    have hiz : (i : Int) < (na : Int) := by omega
                    rcases unhide HA with ⟨_, h0⟩ | ⟨b, off, c, hv, hn63, hbb, hcells⟩
                    · omega
                    injection hv with hp hp2 hcc
                    subst hp hcc
                    clear hp2
                    obtain ⟨x0, x1, x2, x3, x4, x5, pch, pn, pk⟩ := hcells i hin
                    have below := (unhide HS9).disk.below
                    have y0 := (cell_below below (p := ⟨b, off + i * 6, none⟩) hbb).trans x0
                    have y1 := (cell_below below (p := ⟨b, off + i * 6 + 1, none⟩) hbb).trans x1
                    have y2 := (cell_below below (p := ⟨b, off + i * 6 + 2, none⟩) hbb).trans x2
                    have y3 := (cell_below below (p := ⟨b, off + i * 6 + 3, none⟩) hbb).trans x3
                    have y4 := (cell_below below (p := ⟨b, off + i * 6 + 4, none⟩) hbb).trans x4
                    have y5 := (cell_below below (p := ⟨b, off + i * 6 + 5, none⟩) hbb).trans x5
                    obtain ⟨cp, cc, hch⟩ := pch.slice
                    have hl16 := (unhide HLi i hin).2.2.1
                    obtain ⟨⟨kind, Sx, Tx, N, K, CH, cn, cf⟩, hX⟩ : ∃ x, fa i = x := ⟨_, rfl⟩
                    rw [hX] at y0 y1 y2 y3 y4 y5 hch pch hl16
                    simp only at y0 y1 y2 y3 y4 y5 hch pch hl16
                    subst hch
                    obtain ⟨ab, hab⟩ : ∃ ab, w9.heap.size = ab := ⟨_, rfl⟩
                    have hDa : DiskIn W (w9.alloc (.cells #[.string kind, .string Sx, .string Tx, .int .i64 N, .int .u64 (K : Int), .slice cp cn cc] 38)) db d (.cell ab 38 [.string kind, .string Sx, .string Tx, .int .i64 N, .int .u64 (K : Int), .slice cp cn cc] :: (logR lb2 db fr k first used :: R)) := by rw [← hab]; exact (unhide HS9).disk.made 38 [.string kind, .string Sx, .string Tx, .int .i64 N, .int .u64 (K : Int), .slice cp cn cc]
                    have HDa := hide hDa
                    have HCh := hide (chl_of_ok pch)
                    clear x0 x1 x2 x3 x4 x5 below hcells hX pn pk hDa pch
                    obtain ⟨wa, hwa⟩ : ∃ wa, w9.alloc (.cells #[.string kind, .string Sx, .string Tx, .int .i64 N, .int .u64 (K : Int), .slice cp cn cc] 38) = wa := ⟨_, rfl⟩
                    rw [hwa] at HDa
                    have z0 : wa.cell? ⟨ab, 0, none⟩ = some (.string kind) := (unhide HDa).cellAt (.head _) rfl
                    have z5 : wa.cell? ⟨ab, 5, none⟩ = some (.slice cp cn cc) := (unhide HDa).cellAt (.head _) rfl
                    obtain ⟨bk, hbk⟩ : ∃ bk, (kind.toList == [97, 100, 100]) = bk := ⟨_, rfl⟩
                    cases bk with
                    | false =>
                      as_aux_lemma =>
                        have e39 := open_calls ((unhide HDa)) (unhide HS9).up.down fr k first (by omega) (by omega) hf6 (by rw [(unhide HS9).up.len]; exact hfm)
                        unfold OpenEnd at e39
                        have E39 := hide e39
                        clear e39
                        go_wp2_with fail
                        refine (unhide E39).mono ?_
                        rintro e w10 ⟨lb3, v17', P17', rfl, hP17', hD10⟩
                        rw [(unhide HS9).go.1] at hP17'
                        rw [(unhide HS9).go.2] at hD10
                        obtain ⟨p17', c17', hv17', _⟩ := row_slice (hD10.hold.rowAt (.head _))
                        subst hv17'
                        have HSn : Hid (SaysIn W db lb3 (.pointer (some ⟨lb3, 0, none⟩)) (.slice p17' P17'.length c17') u22 w10 m fr k first d used (deedsR (.slice p17' P17'.length c17') P17' ++ (.cell ab 38 [.string kind, .string Sx, .string Tx, .int .i64 N, .int .u64 (K : Int), .slice cp cn cc] :: (logR lb2 db fr k first used :: R))) P17' Pw) := by
                          have h9 := unhide HS9
                          refine ⟨hD10.perm List.perm_middle.symm, fun w' l hh => ⟨?_, ?_⟩, h9.up, h9.wr, h9.go, hP17', rfl, h9.shape⟩
                          · exact dsp_of_deeds hh fun x hx => by simp [hx]
                          · exact (h9.read w' (l ++ (deedsR (.slice p17' P17'.length c17') P17' ++ [.cell ab 38 [.string kind, .string Sx, .string Tx, .int .i64 N, .int .u64 (K : Int), .slice cp cn cc], logR lb2 db fr k first used])) (by
                              have e : l ++ (deedsR (.slice p17' P17'.length c17') P17' ++ [.cell ab 38 [.string kind, .string Sx, .string Tx, .int .i64 N, .int .u64 (K : Int), .slice cp cn cc], logR lb2 db fr k first used]) ++ R = l ++ (deedsR (.slice p17' P17'.length c17') P17' ++ (.cell ab 38 [.string kind, .string Sx, .string Tx, .int .i64 N, .int .u64 (K : Int), .slice cp cn cc] :: (logR lb2 db fr k first used :: R))) := by simp
                              rw [e]
                              exact hh)).2
                        clear hD10 hP17' E39 HDa HS9 HCh
                        go_wp2_with fail
                        go_roundg (na - i)
                        case measure => omega
                        case rel => exact ⟨i + 1, lb3, d, used, _, _, _, by omega, by omega, by simp, rfl, rfl, HSn⟩
                    | true =>
                      have hll := listOf_length cn cf
                      obtain ⟨L, hL⟩ : ∃ L, listOf cn cf = L := ⟨_, rfl⟩
                      have hlL : L.length = cn := by rw [← hL, hll]
                      rw [hL] at HCh
                      have hout := add_out (unhide HS9).up hfm (unhide HS9).pre.2 hum (by omega) L
                      have e44 : ∀ wx, DiskIn W wx db d (.cell ab 38 [.string kind, .string Sx, .string Tx, .int .i64 N, .int .u64 (K : Int), .slice cp cn cc] :: (logR lb2 db fr k first used :: R)) → Calls Try.prog 44 #[.pointer (some ⟨lb2, 0, none⟩), .slice cp cn cc] wx fun e w' => e = .returned (errV (addP d fr k first used L).1) ∧ DiskIn W w' db (addP d fr k first used L).2.1 (logR lb2 db fr k first (addP d fr k first used L).2.2 :: (.cell ab 38 [.string kind, .string Sx, .string Tx, .int .i64 N, .int .u64 (K : Int), .slice cp cn cc] :: R)) := fun wx hx => by
                        have h1 := add_calls (hx.perm (List.Perm.swap _ _ _)) (by omega) hum (by omega) hf6 (by have := (unhide HS9).wr; omega) (.slice cp cn cc) L.length _ ((unhide HCh).below hx.below) (by omega)
                        rw [listOf_getD] at h1
                        exact h1
                      have E44 := hide e44
                      have HOut := hide hout
                      have HlL := hide hlL
                      have HZ : Hid (∀ wx dx l, DiskIn W wx db dx (l ++ (.cell ab 38 [.string kind, .string Sx, .string Tx, .int .i64 N, .int .u64 (K : Int), .slice cp cn cc] :: R)) → wx.cell? ⟨ab, 5, none⟩ = some (.slice cp cn cc)) := fun wx dx l hx => hx.cellAt (List.mem_append.2 (.inr (.head _))) rfl
                      have HZ2 : Hid (∀ wx, DiskIn W wx db d (.cell ab 38 [.string kind, .string Sx, .string Tx, .int .i64 N, .int .u64 (K : Int), .slice cp cn cc] :: (logR lb2 db fr k first used :: R)) → wx.cell? ⟨ab, 5, none⟩ = some (.slice cp cn cc)) := fun wx hx => hx.cellAt (.head _) rfl
                      clear e44 hout hL hll
                      by_cases h12 : 12 < cn
                      · as_aux_lemma =>
                          have hz12 : (12 : Int) < (cn : Int) := by omega
                          obtain ⟨kf, hkf, hkp⟩ : ∃ kf, addF k used L = some kf ∧ kf = 2 := ⟨2, by unfold addF; rw [hlL, if_pos h12], rfl⟩
                          have HAd := hide ((unhide HOut).1 kf hkf)
                          have HKf := hide (addF_pos hkf)
                          subst hkp
                          clear hkf hlL
                          go_wp2_with fail
                          go_loopg [26, 27] 1 (fun g v26 v27 wx => v26 = .int .i64 2 ∧ v27 = .int .i64 0 ∧ wx = wa)
                          case atStart => exact ⟨rfl, rfl, rfl⟩
                          case round =>
                            obtain ⟨rfl, rfl, rfl⟩ := hrel
                            go_wp2_with fail
                            refine (unhide E44 _ (unhide HDa)).mono ?_
                            rintro e w10 ⟨rfl, hD10⟩
                            rw [unhide HAd] at hD10 ⊢
                            have es := same_calls w10 (some 2) 2
                            unfold sameP at es
                            rw [decide_eq_true (unhide HKf)] at es
                            simp only [errV, beq_self_eq_true, Bool.true_and] at es ⊢
                            have ES := hide es
                            have HSn : Hid (SaysIn W db lb2 (.pointer (some ⟨lb2, 0, none⟩)) u17 u22 w10 m fr k first d used R Pg Pw) := (unhide HS9).world ((hD10.perm (List.Perm.swap _ _ _)).lose [_])
                            have hkf0 : ¬ (2 : Int) = 0 := by decide
                            clear es hD10
                            go_wp2_with fail
                            refine (unhide ES).mono ?_
                            rintro e w11 ⟨rfl, rfl⟩
                            clear ES
                            go_wp2_with fail
                            go_roundg (na - i)
                            case measure => omega
                            case rel => exact ⟨i + 1, lb2, d, used, R, Pg, Pw, by omega, by omega, by simp, rfl, rfl, HSn⟩
                      have hz12 : ¬ (12 : Int) < (cn : Int) := by omega
                      by_cases hfull : k - used < cn + 1
                      · as_aux_lemma =>
                          have hzf : (k : Int) - (used : Int) < (cn : Int) + 1 := by omega
                          obtain ⟨kf, hkf, hkp⟩ : ∃ kf, addF k used L = some kf ∧ kf = 9 := ⟨9, by unfold addF; rw [hlL, if_neg h12, if_pos hfull], rfl⟩
                          have HAd := hide ((unhide HOut).1 kf hkf)
                          have HKf := hide (addF_pos hkf)
                          subst hkp
                          clear hkf hlL
                          go_wp2_with fail
                          go_loopg [26, 27] 1 (fun g v26 v27 wx => v26 = .int .i64 9 ∧ v27 = .int .i64 0 ∧ wx = wa)
                          case atStart => exact ⟨rfl, rfl, rfl⟩
                          case round =>
                            obtain ⟨rfl, rfl, rfl⟩ := hrel
                            by_cases hcn0 : 0 < cn
                            · have hcz : (0 : Int) < (cn : Int) := by omega
                              go_wp2_with fail
                              refine (unhide E44 _ (unhide HDa)).mono ?_
                              rintro e w10 ⟨rfl, hD10⟩
                              rw [unhide HAd] at hD10 ⊢
                              have es := same_calls w10 (some 9) 9
                              unfold sameP at es
                              rw [decide_eq_true (unhide HKf)] at es
                              simp only [errV, beq_self_eq_true, Bool.true_and] at es ⊢
                              have ES := hide es
                              have HSn : Hid (SaysIn W db lb2 (.pointer (some ⟨lb2, 0, none⟩)) u17 u22 w10 m fr k first d used R Pg Pw) := (unhide HS9).world ((hD10.perm (List.Perm.swap _ _ _)).lose [_])
                              have hkf0 : ¬ (9 : Int) = 0 := by decide
                              clear es hD10
                              go_wp2_with fail
                              refine (unhide ES).mono ?_
                              rintro e w11 ⟨rfl, rfl⟩
                              clear ES
                              go_wp2_with fail
                              go_roundg (na - i)
                              case measure => omega
                              case rel => exact ⟨i + 1, lb2, d, used, R, Pg, Pw, by omega, by omega, by simp, rfl, rfl, HSn⟩
                            · have hcz : ¬ (0 : Int) < (cn : Int) := by omega
                              go_wp2_with fail
                              refine (unhide E44 _ (unhide HDa)).mono ?_
                              rintro e w10 ⟨rfl, hD10⟩
                              rw [unhide HAd] at hD10 ⊢
                              have es := same_calls w10 (some 9) 9
                              unfold sameP at es
                              rw [decide_eq_true (unhide HKf)] at es
                              simp only [errV, beq_self_eq_true, Bool.true_and] at es ⊢
                              have ES := hide es
                              have HSn : Hid (SaysIn W db lb2 (.pointer (some ⟨lb2, 0, none⟩)) u17 u22 w10 m fr k first d used R Pg Pw) := (unhide HS9).world ((hD10.perm (List.Perm.swap _ _ _)).lose [_])
                              have hkf0 : ¬ (9 : Int) = 0 := by decide
                              clear es hD10
                              go_wp2_with fail
                              refine (unhide ES).mono ?_
                              rintro e w11 ⟨rfl, rfl⟩
                              clear ES
                              go_wp2_with fail
                              go_roundg (na - i)
                              case measure => omega
                              case rel => exact ⟨i + 1, lb2, d, used, R, Pg, Pw, by omega, by omega, by simp, rfl, rfl, HSn⟩
                      have hzf : ¬ (k : Int) - (used : Int) < (cn : Int) + 1 := by omega
                      have hAF : addF k used L = faultL L := by unfold addF; rw [hlL, if_neg h12, if_neg hfull]
                      have HAF := hide hAF
                      clear hAF hlL hfull
                      have hbi : ((i : Int) == (na : Int)) = false := by rw [beq_eq_false_iff_ne]; omega
                      go_wp2_with fail
                      first | rw [hbi] | skip
                      clear hbi
                      clear z0 z5 y0 y1 y2 y3 y4 y5 hz12 hzf h12 hlz hlast
                      go_loopg [26, 27] (cn + 1) (fun g v26 v27 wx => ∃ (q : Nat) (fo : Option Int), cn - q < g ∧ q ≤ cn ∧ v27 = .int .i64 q ∧ v26 = .int .i64 (noE fo) ∧ Hid (DiskIn W wx db d (.cell ab 38 [.string kind, .string Sx, .string Tx, .int .i64 N, .int .u64 (K : Int), .slice cp cn cc] :: (logR lb2 db fr k first used :: R))) ∧ Hid ((fo = none ∧ faultL (L.take q) = none) ∨ ∃ kf, fo = some kf ∧ faultL L = some kf))
                      case atStart => exact ⟨0, none, by omega, by omega, rfl, rfl, HDa, .inl ⟨rfl, rfl⟩⟩
                      case round =>
                        clear HDa hwa hab
                        obtain ⟨q, fo, hgq, hq, rfl, rfl, HDx, HFo⟩ := hrel
                        have z5 := unhide HZ2 wr (unhide HDx)
                        rcases unhide HFo with ⟨rfl, hft⟩ | ⟨kf, rfl, hft⟩
                        · simp only [noE, Option.getD_none]
                          by_cases hqc : q < cn
                          · as_aux_lemma =>
                              have hqz : (q : Int) < (cn : Int) := by omega
                              rcases unhide HCh with ⟨_, h0⟩ | ⟨bb, ob, cb, hv, _, hbc, hcc⟩
                              · rw [unhide HlL] at h0; omega
                              injection hv with hp hp2 hp3
                              subst hp hp3
                              clear hp2
                              obtain ⟨t0, t1, t2⟩ := hcc q (by rw [unhide HlL]; exact hqc)
                              simp only at t0 t1 t2
                              have y0 := (cell_below (unhide HDx).below (p := ⟨bb, ob + q * 3, none⟩) hbc).trans t0
                              have y1 := (cell_below (unhide HDx).below (p := ⟨bb, ob + q * 3 + 1, none⟩) hbc).trans t1
                              have y2 := (cell_below (unhide HDx).below (p := ⟨bb, ob + q * 3 + 2, none⟩) hbc).trans t2
                              have hget : L[q]? = some (L.getD q chZ) := by rw [List.getD, List.getElem?_eq_getElem (by rw [unhide HlL]; exact hqc)]; rfl
                              obtain ⟨hf1, hf2⟩ := faultL_take hget hft
                              obtain ⟨⟨xk, xv, xg⟩, hx⟩ : ∃ x, L.getD q chZ = x := ⟨_, rfl⟩
                              rw [hx] at y0 y1 y2 hf1 hf2
                              simp only at y0 y1 y2
                              have e33 := fault_calls ⟨xk, xv, xg⟩ wr
                              unfold chV at e33
                              simp only at e33
                              obtain ⟨fo2, hfo2⟩ : ∃ fo2, checkP ⟨xk, xv, xg⟩ = fo2 := ⟨_, rfl⟩
                              rw [hfo2] at e33 hf1 hf2
                              have E33 := hide e33
                              have HF2 : Hid ((fo2 = none ∧ faultL (L.take (q + 1)) = none) ∨ ∃ kf, fo2 = some kf ∧ faultL L = some kf) := by
                                cases fo2 with
                                | none => exact .inl ⟨rfl, hf1⟩
                                | some kf => exact .inr ⟨kf, rfl, hf2 rfl⟩
                              clear e33 hf1 hf2 hget hcc t0 t1 t2 hx hfo2 hft
                              go_wp2_with fail
                              refine (unhide E33).mono ?_
                              rintro e w10 ⟨rfl, hb10⟩
                              have HD10 := hide ((unhide HDx).over hb10)
                              clear hb10 E33
                              go_wp2_with fail
                              go_roundg (cn - q)
                              case measure => omega
                              case rel => exact ⟨q + 1, fo2, by omega, by omega, by simp, rfl, HD10, HF2⟩
                          · as_aux_lemma =>
                              have hqz : ¬ (q : Int) < (cn : Int) := by omega
                              rw [List.take_of_length_le (by rw [unhide HlL]; omega)] at hft
                              have HAf : Hid (addF k used L = none) := by show _ = _; rw [unhide HAF]; exact hft
                              clear hft HFo
                              go_wp2_with fail
                              refine (unhide E44 _ (unhide HDx)).mono ?_
                              rintro e w10 ⟨rfl, hD10⟩
                              obtain ⟨d', had, hup, hwr0, hlog⟩ := unhide HOut.2 (unhide HAf)
                              rw [had] at hD10 ⊢
                              have es := same_calls w10 none 0
                              unfold sameP at es
                              simp only [errV, beq_self_eq_true] at es ⊢
                              have ES := hide es
                              have HD10 := hide hD10
                              clear es hD10 had
                              go_wp2_with fail
                              refine (unhide ES).mono ?_
                              rintro e w11 ⟨rfl, rfl⟩
                              clear ES
                              go_wp2_with fail
                              go_cut [22] from 158 to 260 (fun a22 wc => ∃ c22, c22 = a22 ∧ Hid (DiskIn W wc db d' (dRow c22 (Pw ++ [(.slice cp cn cc, L)]) :: (logR lb2 db fr k first (used + (L.length + 1)) :: (.cell ab 38 [.string kind, .string Sx, .string Tx, .int .i64 N, .int .u64 (K : Int), .slice cp cn cc] :: R)))))
                              case first =>
                                obtain ⟨dp, a1, a2⟩ := (unhide HD10).drew.back
                                have hds : DsP w11.drew u22 Pw := ((unhide HS9).read w11.drew [logR lb2 db fr k first (used + (L.length + 1)), .cell ab 38 [.string kind, .string Sx, .string Tx, .int .i64 N, .int .u64 (K : Int), .slice cp cn cc]] (unhide HD10).drew.hold).2
                                have hpl := (unhide HS9).len
                                obtain ⟨⟨v1, w1', v2, w2', r1, r2, r3⟩, ⟨v3, w3', v4', w4', r4, r5, r6⟩⟩ := ds_both a1 hds (unhide HS9).shape (by omega) (u := (.slice cp cn cc, L)) rfl
                                rw [← List.cons_append] at r3 r6
                                have HF1 := hide (a2 w2' _ r3)
                                have HF2 := hide (a2 w4' _ r6)
                                have hq1 : w1'.cell? ⟨ab, 5, none⟩ = some (.slice cp cn cc) := by
                                  obtain ⟨v', w', y1, y2⟩ := ds_copy a1 hds (unhide HS9).shape (by omega)
                                  rw [r1] at y1
                                  injection y1 with _ y1
                                  subst y1
                                  exact y2.cellAt (.tail _ (.tail _ (.head _))) rfl
                                have q2 := unhide HZ w11 d' [_] (unhide HD10)
                                have q2a : ∀ o, (w11.alloc o).cell? ⟨ab, 5, none⟩ = some (.slice cp cn cc) := fun o => unhide HZ _ d' [_] ((unhide HD10).alloc o)
                                have r4' : (Builtin.append_ #[69, 69] 69 #[.slice none 0 0, u22]).run Try.prog (w11.alloc (.cells #[.slice cp cn cc] 36)).drew = .ok v3 w3' := r4
                                have r5' : (Builtin.append_ #[69, 69] 69 #[v3, .slice (some ⟨w11.heap.size, 0, none⟩) 1 1]).run Try.prog w3' = .ok v4' w4' := r5
                                simp only at r2
                                clear r3 r6 r4 r5 hds a1 a2 hpl
                                go_region_law (first
                                  | (refine step_append_runI rfl _ _ 69 69 rfl (.slice none 0 0) u22 (by simp [Act.eval, Act.put]) (by simp [Act.eval, Act.put]) r1 ?_)
                                  | (refine step_append_runI rfl _ _ 69 69 rfl v1 (.slice (some ⟨w1'.heap.size, 0, none⟩) 1 1) (by simp [Act.eval, Act.put]) (by simp [Act.eval, Act.put]) r2 ?_)
                                  | (refine step_append_runI rfl _ _ 69 69 rfl (.slice none 0 0) u22 (by simp [Act.eval, Act.put]) (by simp [Act.eval, Act.put]) r4' ?_)
                                  | (refine step_append_runI rfl _ _ 69 69 rfl v3 (.slice (some ⟨w11.heap.size, 0, none⟩) 1 1) (by simp [Act.eval, Act.put]) (by simp [Act.eval, Act.put]) r5' ?_))
                                all_goals
                                  go_wp2_with fail
                                  go_meet
                                  first
                                    | exact ⟨_, rfl, HF1⟩
                                    | exact ⟨_, rfl, HF2⟩
                              case rest =>
                                obtain ⟨c22, hc22, HC⟩ := hcut
                                subst hc22
                                have hC := unhide HC
                                have z5c : wc.cell? ⟨ab, 5, none⟩ = some (.slice cp cn cc) := hC.cellAt (.tail _ (.tail _ (.head _))) rfl
                                have hrd : ∀ w' l, Hold W w' (l ++ (dRow c22 (Pw ++ [(.slice cp cn cc, L)]) :: (.cell ab 38 [.string kind, .string Sx, .string Tx, .int .i64 N, .int .u64 (K : Int), .slice cp cn cc] :: R))) → DsP w' c22 (Pw ++ [(.slice cp cn cc, L)]) := fun w' l hh => by
                                  have h1 := ((unhide HS9).read w' (l ++ [dRow c22 (Pw ++ [(.slice cp cn cc, L)]), .cell ab 38 [.string kind, .string Sx, .string Tx, .int .i64 N, .int .u64 (K : Int), .slice cp cn cc]]) (by rw [List.append_assoc]; exact hh)).2
                                  refine dsp_of_row hh (List.mem_append.2 (.inr (.head _))) fun p hp => ?_
                                  rcases List.mem_append.1 hp with h | h
                                  · exact h1.ch p h
                                  · rw [List.mem_singleton.1 h]; exact (unhide HCh).below hh.below
                                have hrp := hlog.read
                                have HSn : Hid (SaysIn W db lb2 (.pointer (some ⟨lb2, 0, none⟩)) c22 c22 wc m fr k first d' (used + (L.length + 1)) (dRow c22 (Pw ++ [(.slice cp cn cc, L)]) :: (.cell ab 38 [.string kind, .string Sx, .string Tx, .int .i64 N, .int .u64 (K : Int), .slice cp cn cc] :: R)) (Pw ++ [(.slice cp cn cc, L)]) (Pw ++ [(.slice cp cn cc, L)])) :=
                                  ⟨hC.perm (List.Perm.swap _ _ _), fun w' l hh => ⟨hrd w' l hh, hrd w' l hh⟩, hup, by rw [hwr0]; simp, ⟨by rw [hrp, List.map_append]; rfl, by rw [hrp]⟩, rfl, rfl, dRow_shape hC.hold (.head _)⟩
                                have hcast : (used : Int) + (cn : Int) + 1 = ((used + (L.length + 1) : Nat) : Int) := by rw [unhide HlL]; omega
                                have Hcast := hide hcast
                                clear hC hrd hrp hcast HC HD10
                                go_wp2_with fail
                                go_roundg (na - i)
                                case measure => omega
                                case rel => exact ⟨i + 1, lb2, d', used + (L.length + 1), _, _, _, by omega, by omega, by simp, by rw [← unhide Hcast], rfl, HSn⟩
                        · have HAd := hide ((unhide HOut).1 kf ((unhide HAF).trans hft))
                          have HKf := hide (faultL_pos L kf hft)
                          simp only [noE, Option.getD_some]
                          have hkf1 : ¬ kf = 0 := by have := unhide HKf; omega
                          clear hft HFo
                          by_cases hqc : q < cn
                          · as_aux_lemma =>
                              have hqz : (q : Int) < (cn : Int) := by omega
                              go_wp2_with fail
                              refine (unhide E44 _ (unhide HDx)).mono ?_
                              rintro e w10 ⟨rfl, hD10⟩
                              rw [unhide HAd] at hD10 ⊢
                              have es := same_calls w10 (some kf) kf
                              unfold sameP at es
                              rw [decide_eq_true (unhide HKf)] at es
                              simp only [errV, beq_self_eq_true, Bool.true_and] at es ⊢
                              have ES := hide es
                              have HSn : Hid (SaysIn W db lb2 (.pointer (some ⟨lb2, 0, none⟩)) u17 u22 w10 m fr k first d used R Pg Pw) := (unhide HS9).world ((hD10.perm (List.Perm.swap _ _ _)).lose [_])
                              have hkf0 : ¬ kf = 0 := by have := unhide HKf; omega
                              clear es hD10
                              go_wp2_with fail
                              refine (unhide ES).mono ?_
                              rintro e w11 ⟨rfl, rfl⟩
                              clear ES
                              go_wp2_with fail
                              go_roundg (na - i)
                              case measure => omega
                              case rel => exact ⟨i + 1, lb2, d, used, R, Pg, Pw, by omega, by omega, by simp, rfl, rfl, HSn⟩
                          · as_aux_lemma =>
                              have hqz : ¬ (q : Int) < (cn : Int) := by omega
                              go_wp2_with fail
                              refine (unhide E44 _ (unhide HDx)).mono ?_
                              rintro e w10 ⟨rfl, hD10⟩
                              rw [unhide HAd] at hD10 ⊢
                              have es := same_calls w10 (some kf) kf
                              unfold sameP at es
                              rw [decide_eq_true (unhide HKf)] at es
                              simp only [errV, beq_self_eq_true, Bool.true_and] at es ⊢
                              have ES := hide es
                              have HSn : Hid (SaysIn W db lb2 (.pointer (some ⟨lb2, 0, none⟩)) u17 u22 w10 m fr k first d used R Pg Pw) := (unhide HS9).world ((hD10.perm (List.Perm.swap _ _ _)).lose [_])
                              have hkf0 : ¬ kf = 0 := by have := unhide HKf; omega
                              clear es hD10
                              go_wp2_with fail
                              refine (unhide ES).mono ?_
                              rintro e w11 ⟨rfl, rfl⟩
                              clear ES
                              go_wp2_with fail
                              go_roundg (na - i)
                              case measure => omega
                              case rel => exact ⟨i + 1, lb2, d, used, R, Pg, Pw, by omega, by omega, by simp, rfl, rfl, HSn⟩
#print axioms logSays_walk
end Go.Proofs.Ytcjfhfalffngjaa
