/-
  The walk of TopDisk: it answers true for all acts and every choice of what is kept.
-/
import Derived.Test.YtlibbkdpkpaglaaDMore
import Derived.Deep.QuietTactic
namespace Go.Proofs.Ytlibbkdpkpaglaa
open Go.RowKit
set_option maxRecDepth 100000
set_option linter.unusedVariables false
set_option linter.unusedSimpArgs false

theorem fill_next {now : List (List UInt8)} {j : Nat} (hn : now.length = 4) (hj : j < 4) : (now.take j ++ List.replicate (4 - j) []).set j (now.getD j []) = now.take (j + 1) ++ List.replicate (4 - (j + 1)) [] := by
  match now, hn with
  | [a, b, c, d], _ =>
    have : j = 0 ∨ j = 1 ∨ j = 2 ∨ j = 3 := by omega
    rcases this with rfl | rfl | rfl | rfl <;> rfl
theorem laid_read {d : DK} (h : Calm d) {i : Nat} (hi : i < 4) (s : List UInt8) : (d.laid i s).now.getD i [] = s := by
  have := h.four
  simp [DK.laid, List.getD, this, hi]
theorem keepL_snoc (k : Nat) (l : List (Nat × List UInt8)) (x : Nat × List UInt8) (K : List (List UInt8)) (hl : l.length < 64) : keepL k 0 (l ++ [x]) K = if k.testBit l.length then (keepL k 0 l K).set x.1 x.2 else keepL k 0 l K := by
  rw [keepL_append, Nat.zero_add]
  show (if k.testBit (l.length % 64) then _ else _) = _
  rw [Nat.mod_eq_of_lt hl]

set_option maxHeartbeats 4000000 in
theorem topDisk_walk (va : Value) (na : Nat) (fa : Nat → ActD) (vb : Value) (nb : Nat) (fb : Nat → ActD) (k : Nat) (W : World) (ha : ActsOk W va na fa) (hb : ActsOk W vb nb fb) (hk : k < 18446744073709551616) :
    Calls Try.prog 7 #[va, vb, .int .u64 (k : Int)] W fun e w' => e = .returned (.bool true) ∧ Below W.heap.size W w' := by
  have e1 := new_calls W W [] (Hold.init W) 4 (by omega) (by omega)
  have E1 := hide e1
  have HA := hide ha
  have HB := hide hb
  obtain ⟨pa, ca, hva⟩ := ha.slice
  obtain ⟨pb, cb, hvb⟩ := hb.slice
  subst hva hvb
  clear e1 ha hb
  go_enter Try.func7, Try.ntmps7
  go_wp2_with fail
  refine (unhide E1).mono ?_
  rintro e w1 ⟨db, rfl, hD⟩
  have e2 := flush_calls W w1 db (newP 4) [] hD
  unfold FlushEnd at e2
  rw [calm_new.flushE, calm_new.flushed] at e2
  simp only [errV] at e2
  have E2 := hide e2
  clear e2 hD E1
  go_wp2_with fail
  refine (unhide E2).mono ?_
  rintro e w2 ⟨rfl, hD⟩
  have hc0 : Calm (newP 4).firm := calm_new.firm
  have hw0 : (newP 4).firm.wr.length = 0 := rfl
  generalize (newP 4).firm = d0 at hD hc0 hw0
  have e3 := sectors_calls W w2 db d0 [] hD
  rw [hc0.four] at e3
  have E3 := hide e3
  have HD := hide hD
  have Hc0 := hide hc0
  clear e3 hD E2 hc0
  go_wp2_with fail
  refine (unhide E3).mono ?_
  rintro e w3 ⟨rfl, rfl⟩
  have e4 := lightActs_calls (.slice pa na ca) na fa w3 ((unhide HA).below (unhide HD).below) 40 (by omega)
  have E4 := hide e4
  clear e4 E3
  go_wp2_with fail
  refine (unhide E4).mono ?_
  rintro e w4 ⟨⟨r, rfl, hr⟩, rfl⟩
  clear E4
  cases r with
  | false =>
    clear hr
    go_wp2_with fail
    go_ret
    exact ⟨rfl, (unhide HD).below⟩
  | true =>
  have hna : na ≤ 40 := (hr rfl).1
  clear hr
  have e5 := lightActs_calls (.slice pb nb cb) nb fb w4 ((unhide HB).below (unhide HD).below) 60 (by omega)
  have E5 := hide e5
  clear e5
  go_wp2_with fail
  refine (unhide E5).mono ?_
  rintro e w5 ⟨⟨r, rfl, hr⟩, rfl⟩
  clear E5
  cases r with
  | false =>
    clear hr
    go_wp2_with fail
    go_ret
    exact ⟨rfl, (unhide HD).below⟩
  | true =>
  have hnb : nb ≤ 60 := (hr rfl).1
  clear hr
  go_wp2_with fail
  go_loopg [9] (na + 1) (fun g vi wr => ∃ (i : Nat) (d : DK), na - i < g ∧ i ≤ na ∧ vi = .int .i64 i ∧ d.wr.length ≤ i ∧ Hid (Calm d) ∧ Hid (DiskIn W wr db d []))
  case atStart => exact ⟨0, d0, by omega, by omega, rfl, by omega, Hc0, HD⟩
  case round =>
    obtain ⟨i, d, hg, hi, rfl, hwl, Hcd, HDi⟩ := hrel
    by_cases hin : i < na
    · have hiz : (i : Int) < (na : Int) := by omega
      rcases (unhide HA).below (unhide HDi).below with ⟨_, h0⟩ | ⟨b, off, c, hv, hn63, hbb, hcells⟩
      · omega
      · injection hv with hp _ hcc
        subst hp hcc
        obtain ⟨_, q1, _, q3, _⟩ := hcells i hin
        obtain ⟨S, hS⟩ : ∃ S, (fa i).s = S := ⟨_, rfl⟩
        obtain ⟨N, hN⟩ : ∃ N, (fa i).n = N := ⟨_, rfl⟩
        rw [hS] at q1
        rw [hN] at q3
        have e6 : ∀ wx, DiskIn W wx db d [] → Calls Try.prog 16 #[.pointer (some ⟨db, 0, none⟩), .int .i64 N, .string S] wx fun e w' => WriteEnd W db d [] N S e w' := fun wx hx => write_calls W wx db d [] hx (by omega) N S
        have E6 := hide e6
        obtain ⟨hcw, hww⟩ := (unhide Hcd).written N S.data.toList
        have Hcw := hide hcw
        have Hww := hide hww
        clear e6 hcells hS hN hcw hww
        go_wp2_with fail
        go_region_with ((go_at_call 16; refine (unhide E6 _ ?_).mono ?_; exact (unhide HDi).drew; rintro e w6 ⟨rfl, hD6⟩; have HD6 := hide hD6; clear hD6))
        all_goals
          go_wp2_with fail
          go_roundg (na - i)
          case measure => omega
          case rel => exact ⟨i + 1, d.written N S.data.toList, by omega, by omega, by simp, by have := unhide Hww; omega, Hcw, HD6⟩
    · have hiz : ¬ (i : Int) < (na : Int) := by omega
      have e7 := flush_calls W wr db d [] (unhide HDi)
      unfold FlushEnd at e7
      rw [(unhide Hcd).flushE, (unhide Hcd).flushed] at e7
      simp only [errV] at e7
      have E7 := hide e7
      have hc1 : Calm d.firm := (unhide Hcd).firm
      have hw1 : d.firm.wr = [] := rfl
      have hk1 : d.firm.kept = d.firm.now := rfl
      clear e7
      generalize d.firm = d1 at *
      have Hw1 := hide hw1
      have Hk1 := hide hk1
      have Hc1 := hide hc1
      clear hw1 hk1 hc1
      go_wp2_with fail
      refine (unhide E7).mono ?_
      rintro e w7 ⟨rfl, hD7⟩
      obtain ⟨wb, hwb⟩ : ∃ wb, w7.heap.size = wb := ⟨_, rfl⟩
      have h8 := hD7.made 86 (wantV [[], [], [], []])
      rw [hwb] at h8
      have HD8 := hide h8
      clear E7 hD7 h8
      go_wp2_with fail
      go_loopg [11] 5 (fun g vi wx => ∃ (j : Nat), 4 - j < g ∧ j ≤ 4 ∧ vi = .int .i64 j ∧ Hid (DiskIn W wx db d1 [.cell wb 86 (wantV (d1.now.take j ++ List.replicate (4 - j) []))]))
      case atStart => exact ⟨0, by omega, by omega, rfl, HD8⟩
      case round =>
        obtain ⟨j, hg2, hj, rfl, HDj⟩ := hrel
        by_cases hj4 : j < 4
        · have hjz : (j : Int) < 4 := by omega
          have e8 := read_calls W _ db d1 _ (unhide HDj) (j : Int)
          unfold ReadEnd at e8
          rw [(unhide Hc1).readE hj4, (unhide Hc1).readB hj4] at e8
          simp only [errV] at e8
          obtain ⟨v0, hv0⟩ : ∃ v0, (wantV (d1.now.take j ++ List.replicate (4 - j) []))[j]? = some v0 := ⟨_, List.getElem?_eq_getElem (by have := (unhide Hc1).four; simp [wantV]; omega)⟩
          have qc := (unhide HDj).cellAt (.head _) hv0
          have qf := (unhide HDj).frozenAt (.head _) j
          have h9 := (unhide HDj).store [] j (.string ⟨(d1.now.getD j []).toArray⟩) (wantV (d1.now.take (j + 1) ++ List.replicate (4 - (j + 1)) [])) (by
            rw [wantV_set, fill_next (unhide Hc1).four hj4])
          have E8 := hide e8
          have HD9 := hide h9
          clear e8 h9 hv0
          go_wp2_with fail
          refine (unhide E8).mono ?_
          rintro e w8 ⟨rfl, rfl⟩
          clear E8
          go_wp2_with fail
          go_roundg (4 - j)
          case measure => omega
          case rel => exact ⟨j + 1, by omega, by omega, by simp, HD9⟩
        · have hjz : ¬ (j : Int) < 4 := by omega
          obtain rfl : j = 4 := by omega
          have h10 := unhide HDj
          rw [List.take_of_length_le (Nat.le_of_eq (unhide Hc1).four), Nat.sub_self, List.replicate_zero, List.append_nil] at h10
          have HD10 := hide h10
          clear h10 HDj
          go_wp2_with fail
          have HD11 : Hid (DiskIn W wr db d1 [.cell wb 86 (wantV (keepL k 0 d1.wr d1.now))]) := by
            rw [unhide Hw1]
            exact unhide HD10
          have hw1l : d1.wr.length = 0 := by rw [unhide Hw1]; rfl
          go_loopg [14, 15] (nb + 1) (fun g v14 v15 wx => ∃ (j : Nat) (d : DK), nb - j < g ∧ j ≤ nb ∧ v14 = .int .i64 d.wr.length ∧ v15 = .int .i64 j ∧ d.wr.length ≤ j ∧ Hid (Calm d ∧ d.kept = d1.now) ∧ Hid (DiskIn W wx db d [.cell wb 86 (wantV (keepL k 0 d.wr d1.now))]))
          case atStart => exact ⟨0, d1, by omega, by omega, by rw [hw1l]; rfl, rfl, by omega, ⟨unhide Hc1, unhide Hk1⟩, HD11⟩
          case round =>
            obtain ⟨j, d, hg3, hj3, rfl, rfl, hwl3, HC, HDj⟩ := hrel
            by_cases hjn : j < nb
            · have hjz : (j : Int) < (nb : Int) := by omega
              rcases unhide HB with ⟨_, h0⟩ | ⟨b, off, c, hv, hn63, hbb, hcells⟩
              · omega
              · injection hv with hp _ hcc
                subst hp hcc
                obtain ⟨_, p1, _, p3, _⟩ := hcells j hjn
                obtain ⟨S, hS⟩ : ∃ S, (fb j).s = S := ⟨_, rfl⟩
                obtain ⟨N, hN⟩ : ∃ N, (fb j).n = N := ⟨_, rfl⟩
                rw [hS] at p1
                rw [hN] at p3
                have q1 := (cell_below (unhide HDj).below (p := ⟨b, off + j * 6 + 1, none⟩) hbb).trans p1
                have q3 := (cell_below (unhide HDj).below (p := ⟨b, off + j * 6 + 3, none⟩) hbb).trans p3
                have HP3 : Hid (∀ wx, Below W.heap.size W wx → wx.cell? ⟨b, off + j * 6 + 3, none⟩ = some (.int .i64 N)) := fun wx hx => (cell_below hx (p := ⟨b, off + j * 6 + 3, none⟩) hbb).trans p3
                clear p1 p3
                have e6 : ∀ wx, DiskIn W wx db d [.cell wb 86 (wantV (keepL k 0 d.wr d1.now))] → Calls Try.prog 16 #[.pointer (some ⟨db, 0, none⟩), .int .i64 N, .string S] wx fun e w' => WriteEnd W db d [.cell wb 86 (wantV (keepL k 0 d.wr d1.now))] N S e w' := fun wx hx => write_calls W wx db d _ hx (by omega) N S
                unfold WriteEnd at e6
                rcases (unhide HC).1.write N S.data.toList with ⟨b1, b2⟩ | ⟨b1, kk, hkk, hk4, hsl, b2⟩
                · rw [b1, b2] at e6
                  simp only [errV] at e6
                  have E6 := hide e6
                  clear e6 hcells hS hN b1 b2
                  go_wp2_with fail
                  go_region_with ((go_at_call 16; refine (unhide E6 _ ?_).mono ?_; exact (unhide HDj).drew; rintro e w6 ⟨rfl, hD6⟩; have HD6 := hide hD6; clear hD6))
                  all_goals
                    go_wp2_with fail
                    go_roundg (nb - j)
                    case measure => omega
                    case rel => exact ⟨j + 1, d, by omega, by omega, rfl, by simp, by omega, HC, HD6⟩
                · rw [b1, b2] at e6
                  simp only [errV] at e6
                  subst hkk
                  have E6 := hide e6
                  have hbt := bit_test k d.wr.length hk
                  obtain ⟨d2, hd2⟩ : ∃ d2, d.laid kk (padL S.data.toList) = d2 := ⟨_, rfl⟩
                  have hC2 : Calm d2 ∧ d2.kept = d1.now := by rw [← hd2]; exact ⟨(unhide HC).1.laid _ _, (unhide HC).2⟩
                  have hw2 : d2.wr = d.wr ++ [(kk, padL S.data.toList)] := by rw [← hd2]; rfl
                  have hr2 : d2.now.getD kk [] = padL S.data.toList := by rw [← hd2]; exact laid_read (unhide HC).1 hk4 _
                  have hks := keepL_snoc k d.wr (kk, padL S.data.toList) d1.now (by omega)
                  rw [← hw2] at hks
                  have hw2l : d2.wr.length = d.wr.length + 1 := by rw [hw2]; simp
                  rw [hd2] at E6
                  have Hw2l := hide hw2l
                  have HC2 := hide hC2
                  have Hr2 := hide hr2
                  clear e6 hS hN b1 b2 hd2 hC2 hw2 hr2 hw2l hcells
                  have hm64 : (d.wr.length : Int) < 64 := by omega
                  have Hks := hide hks
                  clear hks
                  cases hb : k.testBit d.wr.length with
                  | false =>
                    rw [hb] at hbt Hks
                    clear hb
                    go_wp2_with fail
                    go_region_with ((go_at_call 16; refine (unhide E6 _ ?_).mono ?_; exact (unhide HDj).drew; rintro e w6 ⟨rfl, hD6⟩; have HD6 := hide hD6; clear hD6))
                    all_goals
                      go_wp2_with fail
                      go_roundg (nb - j)
                      case measure => omega
                      case rel => exact ⟨j + 1, d2, by omega, by omega, by rw [unhide Hw2l]; simp, by simp, by have := unhide Hw2l; omega, HC2, by have h7 := unhide HD6; have h8 := unhide Hks; simp only [Bool.false_eq_true, if_false] at h8; rw [h8]; exact h7⟩
                  | true =>
                    rw [hb] at hbt Hks
                    clear hb
                    have hk4z : (kk : Int) < 4 := by omega
                    go_wp2_with fail
                    go_region_with ((go_at_call 16; refine (unhide E6 _ ?_).mono ?_; exact (unhide HDj).drew; rintro e w6 ⟨rfl, hD6⟩; have HD6 := hide hD6; clear hD6))
                    all_goals
                      have q6 := unhide HP3 w6 (unhide HD6).below
                      have e8 := read_calls W w6 db d2 _ (unhide HD6) (kk : Int)
                      unfold ReadEnd at e8
                      rw [(unhide HC2).1.readE hk4, (unhide HC2).1.readB hk4, unhide Hr2] at e8
                      simp only [errV] at e8
                      have E8 := hide e8
                      have hK4 : (keepL k 0 d.wr d1.now).length = 4 := by rw [keepL_len, (unhide Hc1).four]
                      obtain ⟨v0, hv0⟩ : ∃ v0, (wantV (keepL k 0 d.wr d1.now))[kk]? = some v0 := ⟨_, List.getElem?_eq_getElem (by simp [wantV]; omega)⟩
                      have qc := (unhide HD6).cellAt (.head _) hv0
                      have qf := (unhide HD6).frozenAt (.head _) kk
                      have h9 := (unhide HD6).store [] kk (.string ⟨(padL S.data.toList).toArray⟩) (wantV (keepL k 0 d2.wr d1.now)) (by
                        have h8 := unhide Hks
                        simp only [if_true] at h8
                        rw [wantV_set, h8])
                      have HD9 := hide h9
                      clear e8 hK4 hv0 h9 E6
                      go_wp2_with fail
                      refine (unhide E8).mono ?_
                      rintro e w8 ⟨rfl, rfl⟩
                      clear E8
                      go_wp2_with fail
                      go_roundg (nb - j)
                      case measure => omega
                      case rel => exact ⟨j + 1, d2, by omega, by omega, by rw [unhide Hw2l]; simp, by simp, by have := unhide Hw2l; omega, HC2, HD9⟩
            · have hjz : ¬ (j : Int) < (nb : Int) := by omega
              have e9 := restart_calls W wr db d _ (unhide HDj) (by omega) k hk
              have hca := calm_again (unhide HC).1 (unhide HDj).ok k
              have hnow : (d.again k).now = keepL k 0 d.wr d1.now := by show keepL k 0 d.wr d.kept = _; rw [(unhide HC).2]
              rw [← hnow] at e9
              have E9 := hide e9
              clear e9 hnow
              generalize d.again k = d3 at *
              have Hca := hide hca
              clear hca
              go_wp2_with fail
              refine (unhide E9).mono ?_
              rintro e w9 ⟨rfl, hD9⟩
              have HD9 := hide hD9
              clear hD9 E9
              go_wp2_with fail
              go_loopg [18] 5 (fun g vi wx => ∃ (j : Nat), 4 - j < g ∧ j ≤ 4 ∧ vi = .int .i64 j ∧ wx = w9)
              case atStart => exact ⟨0, by omega, by omega, rfl, rfl⟩
              case round =>
                obtain ⟨a, hg4, ha4, rfl, rfl⟩ := hrel
                by_cases ha : a < 4
                · have haz : (a : Int) < 4 := by omega
                  have e10 := read_calls W _ db d3 _ (unhide HD9) (a : Int)
                  unfold ReadEnd at e10
                  rw [(unhide Hca).readE ha, (unhide Hca).readB ha] at e10
                  simp only [errV] at e10
                  have qc := (unhide HD9).cellAt (.head _) (wantV_get (L := d3.now) (i := a) (by rw [(unhide Hca).four]; omega))
                  obtain ⟨s9, hs9⟩ : ∃ s9 : ByteArray, ⟨(d3.now.getD a []).toArray⟩ = s9 := ⟨_, rfl⟩
                  rw [hs9] at e10 qc
                  have E10 := hide e10
                  clear e10 hs9
                  go_wp2_with fail
                  refine (unhide E10).mono ?_
                  rintro e w10 ⟨rfl, rfl⟩
                  clear E10
                  go_wp2_with fail
                  go_roundg (4 - a)
                  case measure => omega
                  case rel => exact ⟨a + 1, by omega, by omega, by simp, rfl⟩
                · have haz : ¬ (a : Int) < 4 := by omega
                  go_wp2_with fail
                  go_ret
                  exact ⟨rfl, (unhide HD9).below⟩
#print axioms topDisk_walk
end Go.Proofs.Ytlibbkdpkpaglaa
