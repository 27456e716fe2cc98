/-
  The walk of RowSays: it answers true for all rows, changes, a change and bytes.
-/
import Derived.Test.YtlibbkdpkpaglaaRowSaysW
namespace Go.Proofs.Ytlibbkdpkpaglaa
open Go.RowKit Go.Lib
set_option maxRecDepth 100000
set_option linter.unusedVariables false
set_option linter.unusedSimpArgs false

/-- The change in its box, the two rows, as they were. -/
structure Kit (w : World) (va : Value) (na : Nat) (fa : Nat → ChD) (vb : Value) (nb : Nat) (fb : Nat → ChD) (c : ChD) (wx : World) : Prop where
  bel : Below w.heap.size w wx
  sz : w.heap.size < wx.heap.size
  q0 : wx.cell? ⟨w.heap.size, 0, none⟩ = some (.string c.key)
  q1 : wx.cell? ⟨w.heap.size, 1, none⟩ = some (.string c.val)
  q2 : wx.cell? ⟨w.heap.size, 2, none⟩ = some (.bool c.gone)
  ha : ChOk wx va na fa
  hb : ChOk wx vb nb fb
theorem Kit.on {w : World} {va : Value} {na : Nat} {fa : Nat → ChD} {vb : Value} {nb : Nat} {fb : Nat → ChD} {c : ChD} {wx wy : World} (h : Kit w va na fa vb nb fb c wx) (hb : Below wx.heap.size wx wy) : Kit w va na fa vb nb fb c wy :=
  ⟨h.bel.trans (hb.mono h.bel.size), Nat.lt_of_lt_of_le h.sz hb.size, (cell_below hb (p := ⟨_, 0, none⟩) h.sz).trans h.q0, (cell_below hb (p := ⟨_, 1, none⟩) h.sz).trans h.q1, (cell_below hb (p := ⟨_, 2, none⟩) h.sz).trans h.q2, h.ha.below hb, h.hb.below hb⟩
theorem Kit.alloc {w : World} {va : Value} {na : Nat} {fa : Nat → ChD} {vb : Value} {nb : Nat} {fb : Nat → ChD} {c : ChD} {wx : World} (h : Kit w va na fa vb nb fb c wx) (o : Obj) : Kit w va na fa vb nb fb c (wx.alloc o) := h.on ((Below.refl _ _).alloc (Nat.le_refl _) o)
theorem Kit.first {w : World} {va : Value} {na : Nat} {fa : Nat → ChD} {vb : Value} {nb : Nat} {fb : Nat → ChD} (ha : ChOk w va na fa) (hb : ChOk w vb nb fb) (c : ChD) : Kit w va na fa vb nb fb c (w.alloc (.cells #[.string c.key, .string c.val, .bool c.gone] 54)) := by
  have hB : Below w.heap.size w (w.alloc (.cells #[.string c.key, .string c.val, .bool c.gone] 54)) := (Below.refl _ _).alloc (Nat.le_refl _) _
  have h := (Hold.init w).made 54 [.string c.key, .string c.val, .bool c.gone]
  exact ⟨hB, h.ltAt (.head _), h.cellAt (.head _) rfl, h.cellAt (.head _) rfl, h.cellAt (.head _) rfl, ha.below hB, hb.below hB⟩
/-- A row of one. -/
theorem ch_one (wx : World) (c : ChD) : ChOk (wx.alloc (.cells #[.string c.key, .string c.val, .bool c.gone] 54)) (.slice (some ⟨wx.heap.size, 0, none⟩) 1 1) 1 (fun _ => c) := by
  have h := (Hold.init wx).made 54 [.string c.key, .string c.val, .bool c.gone]
  refine .inr ⟨_, 0, 1, rfl, by omega, h.ltAt (.head _), fun j hj => ?_⟩
  obtain rfl : j = 0 := by omega
  exact ⟨h.cellAt (.head _) rfl, h.cellAt (.head _) rfl, h.cellAt (.head _) rfl⟩

set_option maxHeartbeats 800000 in
theorem rowSays_walk (va : Value) (na : Nat) (fa : Nat → ChD) (vb : Value) (nb : Nat) (fb : Nat → ChD) (c : ChD) (s : ByteArray) (w : World) (ha : ChOk w va na fa ∧ Shaped va) (hb : ChOk w vb nb fb ∧ Shaped vb) :
    Calls Try.prog 4 #[va, vb, chV c, .string s] w fun e w' => e = .returned (.bool true) ∧ Below w.heap.size w w' := by
  obtain ⟨ha, hsa⟩ := ha
  obtain ⟨hb, hsb⟩ := hb
  have hK := Kit.first ha hb c
  have HSa := hide hsa
  have HSb := hide hsb
  obtain ⟨key, val, gone⟩ := c
  obtain ⟨pb, cb, rfl⟩ := hb.slice
  have er := rows_calls (w.alloc (.cells #[.string key, .string val, .bool gone] 54))
  simp only at hK
  unfold chV
  simp only
  have HK := hide hK
  have ER := hide er
  clear ha hb hsa hsb hK er
  go_enter Try.func4, Try.ntmps4
  go_wp2_with fail
  refine (unhide ER).mono ?_
  rintro e w1 ⟨rfl, hb1⟩
  have hK1 := (unhide HK).on hb1
  clear HK hb1 ER
  have e1 := lightChanges_calls va na fa w1 hK1.ha 70 (by omega)
  have e2 := lightChanges_calls _ nb fb w1 hK1.hb 20 (by omega)
  have e3 := lightChanges_calls _ _ _ _ (ch_one w1 ⟨key, val, gone⟩) 1 (by omega)
  have HK1 := hide hK1
  obtain ⟨_, hsz, q0, q1, q2, _, _⟩ := hK1
  simp only at e3 q0 q1 q2
  have E1 := hide e1
  have E2 := hide e2
  have E3 := hide e3
  clear e1 e2 e3
  have endw : Hid (∀ wz, Below w1.heap.size w1 wz → Below w.heap.size w wz) := fun wz hz => ((unhide HK1).on hz).bel
  go_wp2_with fail
  refine (unhide E1).mono ?_
  rintro e w1 ⟨⟨r, rfl, hr⟩, rfl⟩
  cases r with
  | false =>
    clear hr
    go_wp2_with fail
    go_ret
    exact ⟨rfl, unhide endw _ (Below.refl _ _)⟩
  | true =>
    have hna := (hr rfl).1
    clear hr E1
    go_wp2_with fail
    refine (unhide E2).mono ?_
    rintro e w1 ⟨⟨r, rfl, hr⟩, rfl⟩
    cases r with
    | false =>
      clear hr
      go_wp2_with fail
      go_ret
      exact ⟨rfl, unhide endw _ (Below.refl _ _)⟩
    | true =>
      have hnb := (hr rfl).1
      clear hr E2
      go_wp2_with fail
      refine (unhide E3).mono ?_
      rintro e w2 ⟨⟨r, rfl, hr⟩, rfl⟩
      cases r with
      | false =>
        clear hr
        go_wp2_with fail
        go_ret
        exact ⟨rfl, unhide endw _ ((Below.refl _ _).alloc (Nat.le_refl _) _)⟩
      | true =>
        clear hr E3
        by_cases hsz2 : 200 < s.size
        · have hsz3 : (200 : Int) < (s.size : Int) := by omega
          go_wp2_with fail
          go_ret
          exact ⟨rfl, unhide endw _ ((Below.refl _ _).alloc (Nat.le_refl _) _)⟩
        · have hsz3 : ¬ (200 : Int) < (s.size : Int) := by omega
          have hs63 : s.size ≤ 4000000000 := by omega
          have hK2 := (unhide HK1).alloc (.cells #[.string key, .string val, .bool gone] 54)
          have HK2 := hide hK2
          have e4 := bytes_calls ⟨key, val, gone⟩ (w1.alloc (.cells #[.string key, .string val, .bool gone] 54))
          have e5 := fun wx => rbytes_calls ⟨key, val, gone⟩ wx
          have e6 := fun wx => parse_calls s hs63 wx
          have e7 := fun wx => of_calls s hs63 wx
          unfold BytesEnd at e4
          unfold RBytesEnd at e5
          unfold ParseEnd at e6
          unfold OfEnd at e7
          obtain ⟨⟨yk, yv, yg⟩, hy⟩ : ∃ y, (parseP s).getD chZ = y := ⟨_, rfl⟩
          obtain ⟨ey, hey⟩ : ∃ ey, parseE s = ey := ⟨_, rfl⟩
          have hps : sameP ey (noE ey) = true := same_noE ey (fun k hk => by rw [← hey] at hk; unfold parseE at hk; split at hk <;> simp at hk; omega)
          obtain ⟨ec, hec⟩ : ∃ ec, checkP ⟨key, val, gone⟩ = ec := ⟨_, rfl⟩
          have hcs : sameP ec (noE ec) = true := same_noE ec (fun k hk => by rw [← hec] at hk; exact checkP_pos _ _ hk)
          have e8 := fun wx => check_calls ⟨key, val, gone⟩ wx
          have e9 := fun wx => fault_calls ⟨key, val, gone⟩ wx
          have e10 := fun wx => same_calls wx ec (noE ec)
          have e11 := fun wx => same_calls wx ey (noE ey)
          rw [hcs] at e10
          rw [hps] at e11
          rw [hec] at e4
          simp only [hec, hy, hey] at e5 e6 e7 e8 e9
          obtain ⟨bs, hbs⟩ : ∃ bs : ByteArray, ⟨(bytesE ⟨key, val, gone⟩).toArray⟩ = bs := ⟨_, rfl⟩
          rw [hbs] at e4
          simp only [hbs] at e5
          obtain ⟨xc, hxc⟩ : ∃ x, errV ec = x := ⟨_, rfl⟩
          obtain ⟨xy, hxy⟩ : ∃ x, errV ey = x := ⟨_, rfl⟩
          obtain ⟨kc, hkc⟩ : ∃ x, noE ec = x := ⟨_, rfl⟩
          obtain ⟨ky, hky⟩ : ∃ x, noE ey = x := ⟨_, rfl⟩
          rw [hxc] at e4
          simp only [hxc, hxy, hkc, hky, chV] at e4 e5 e6 e7 e8 e9 e10 e11
          have E4 := hide e4
          have E5 := hide e5
          have E6 := hide e6
          have E7 := hide e7
          have E8 := hide e8
          have E9 := hide e9
          have E10 := hide e10
          have E11 := hide e11
          clear hK2 e4 e5 e6 e7 e8 e9 e10 e11 hps hcs hec hy hey hbs hxc hxy hkc hky ec ey
          go_wp2_with fail
          refine (unhide E4).mono ?_
          rintro e w4 ⟨rfl, hb4⟩
          have hK4 := (unhide HK2).on hb4
          have HK4 := hide hK4
          obtain ⟨_, hsz4, q04, q14, q24, _, _⟩ := hK4
          simp only at q04 q14 q24
          clear hb4 E4 HK1 HK2 q0 q1 q2 hsz
          go_wp2_with fail
          refine (unhide E5 _).mono ?_
          rintro e w5 ⟨rfl, hb5⟩
          have hK5 := (unhide HK4).on hb5
          have HK5 := hide hK5
          clear hb5 E5 HK4 q04 q14 q24 hsz4 hK5
          go_wp2_with fail
          refine (unhide E6 _).mono ?_
          rintro e w6 ⟨rfl, hb6⟩
          have hK6 := (unhide HK5).on hb6
          have HK6 := hide hK6
          clear hb6 E6 HK5 hK6
          go_wp2_with fail
          refine (unhide E7 _).mono ?_
          rintro e w7 ⟨rfl, hb7⟩
          go_wp2_with fail
          have hx := (((Hold.init w6).made 54 [.string yk, .string yv, .bool yg]).over hb7).made 54 [.string yk, .string yv, .bool yg]
          have hK8 := (((unhide HK6).alloc (.cells #[.string yk, .string yv, .bool yg] 54)).on hb7).alloc (.cells #[.string yk, .string yv, .bool yg] 54)
          obtain ⟨w8, hw8⟩ : ∃ w8, w7.alloc (.cells #[.string yk, .string yv, .bool yg] 54) = w8 := ⟨_, rfl⟩
          have hw8' : w7.alloc (.cells [.string yk, .string yv, .bool yg].toArray 54) = w8 := hw8
          rw [hw8'] at hx
          rw [hw8] at hK8 ⊢
          have HK8 := hide hK8
          have a0 := fun u : Later w8 => (hK8.on u.bel).q0
          have a1 := fun u : Later w8 => (hK8.on u.bel).q1
          have a2 := fun u : Later w8 => (hK8.on u.bel).q2
          have b0 := fun u : Later w8 => (hx.over u.bel).cellAt (.head _) (j := 0) rfl
          have b1 := fun u : Later w8 => (hx.over u.bel).cellAt (.head _) (j := 1) rfl
          have b2 := fun u : Later w8 => (hx.over u.bel).cellAt (.head _) (j := 2) rfl
          have d0 := fun u : Later w8 => (hx.over u.bel).cellAt (.tail _ (.head _)) (j := 0) rfl
          have d1 := fun u : Later w8 => (hx.over u.bel).cellAt (.tail _ (.head _)) (j := 1) rfl
          have d2 := fun u : Later w8 => (hx.over u.bel).cellAt (.tail _ (.head _)) (j := 2) rfl
          simp only at a0 a1 a2
          clear hK8 hx hw8 hw8' hb7 HK6 E7
          obtain ⟨g6, hg6⟩ : ∃ g, w6.heap.size = g := ⟨_, rfl⟩
          obtain ⟨g7, hg7⟩ : ∃ g, w7.heap.size = g := ⟨_, rfl⟩
          rw [hg6] at d0 d1 d2 ⊢
          rw [hg7] at b0 b1 b2 ⊢
          clear hg6 hg7
          refine wp_region_later (by kernel_rfl) (by kernel_rfl) ?_
          repeat (go_big_quiet_step (first | (go_at_call 32; refine Calls.later (unhide E8 _)) | (go_at_call 33; refine Calls.later (unhide E9 _)) | (go_at_call_of 14 xc; refine Calls.later_same (unhide E10 _)) | (go_at_call_of 14 xy; refine Calls.later_same (unhide E11 _))))
          refine wpQuiet_nil ?_
          intro _ hw'
          obtain ⟨uq, hw''⟩ := hw'
          subst hw''
          have hK9 := (unhide HK8).on uq.bel
          have HK9 := hide hK9
          obtain ⟨w9, hw9⟩ : ∃ w9, uq.wld = w9 := ⟨_, rfl⟩
          rw [hw9] at HK9 ⊢
          clear hK9 hw9 a0 a1 a2 b0 b1 b2 d0 d1 d2 HK8 E8 E9 E10 E11
          go_wp2_with fail
          go_loopg [18] (nb + 1) (fun g vi wr => ∃ (i : Nat), nb - i < g ∧ i ≤ nb ∧ vi = .int .i64 i ∧ Hid (Kit w va na fa (.slice pb nb cb) nb fb ⟨key, val, gone⟩ wr))
          case atStart => exact ⟨0, by omega, by omega, rfl, HK9⟩
          case round =>
            clear HK9
            obtain ⟨i, hg, hi, rfl, HK⟩ := hrel
            by_cases hin : i < nb
            · have hiz : (i : Int) < (nb : Int) := by omega
              rcases (unhide HK).hb with ⟨_, h0⟩ | ⟨b, off, cb', hv, hn63, hbb, hcells⟩
              · omega
              injection hv with hv1 hv2 hv3
              subst hv1 hv3
              clear hv2
              obtain ⟨q0, q1, q2⟩ := hcells i hin
              have ef := fault_calls (fb i) wr
              obtain ⟨x, hx⟩ : ∃ x, fb i = x := ⟨_, rfl⟩
              rw [hx] at q0 q1 q2 ef
              cases hp : checkP x with
              | some kk =>
                have hkp := checkP_pos x kk hp
                rw [hp] at ef
                obtain ⟨xk, xv, xg⟩ := x
                unfold chV at ef
                simp only [noE, Option.getD_some] at ef q0 q1 q2
                have EF := hide ef
                clear ef hx hp hcells
                go_wp2_with fail
                refine (unhide EF).mono ?_
                rintro e w10 ⟨rfl, hb10⟩
                have HB10 := hide ((unhide HK).on hb10).bel
                clear hb10 EF
                go_wp2_with fail
                go_ret
                exact ⟨rfl, unhide HB10⟩
              | none =>
                rw [hp] at ef
                obtain ⟨xk, xv, xg⟩ := x
                unfold chV at ef
                simp only [noE, Option.getD_none] at ef q0 q1 q2
                have EF := hide ef
                clear ef hx hp hcells
                go_wp2_with fail
                refine (unhide EF).mono ?_
                rintro e w10 ⟨rfl, hb10⟩
                have HK10 := hide ((unhide HK).on hb10)
                clear hb10 EF HK
                go_wp2_with fail
                go_roundg (nb - i)
                case measure => omega
                case rel => exact ⟨i + 1, by omega, by omega, by simp, HK10⟩
            · have hiz : ¬ (i : Int) < (nb : Int) := by omega
              have eg := good_calls va na fa wr (unhide HK).ha
              have EG := hide eg
              clear eg
              go_wp2_with fail
              refine (unhide EG).mono ?_
              rintro e w10 ⟨r, rfl, hr, hb10⟩
              have hk10 := (unhide HK).on hb10
              have HK10 := hide hk10
              clear hb10 HK EG
              cases r with
              | false =>
                clear hr hk10
                go_wp2_with fail
                go_ret
                exact ⟨rfl, (unhide HK10).bel⟩
              | true =>
                have hs := hr rfl
                have HS := hide hs
                have e36 := apply_calls va na fa _ nb fb w10 hk10.ha hk10.hb (unhide HSa) (unhide HSb) hs (by omega) (by omega)
                have E36 := hide e36
                clear e36 hs hr hk10
                go_wp2_with fail
                refine (unhide E36).mono ?_
                rintro e w11 ⟨v1, rfl, h1⟩
                have hk11 := (unhide HK10).on h1.below
                have e37 := applied_calls va na fa _ nb fb w11 hk11.ha hk11.hb (unhide HSa) (unhide HSb) (unhide HS) (by omega) (by omega)
                have E37 := hide e37
                have H1 := hide h1
                clear e37 h1 hk11 E36
                go_wp2_with fail
                refine (unhide E37).mono ?_
                rintro e w12 ⟨v2, rfl, h2⟩
                have h12 := hold_two (unhide H1) h2
                have e35 := sameCh_calls _ _ _ _ _ _ h12 (by have h3 := applyP_len (listOf nb fb) (listOf na fa); rw [listOf_length, listOf_length] at h3; omega)
                have E35 := hide e35
                clear e35 h12 h2 E37 H1
                go_wp2_with fail
                refine (unhide E35).mono ?_
                rintro e w13 ⟨rfl, h13⟩
                have HB := hide ((unhide HK10).on h13.below).bel
                clear h13 E35
                go_wp2_with fail
                go_ret
                exact ⟨rfl, unhide HB⟩
#print axioms rowSays_walk
end Go.Proofs.Ytlibbkdpkpaglaa
