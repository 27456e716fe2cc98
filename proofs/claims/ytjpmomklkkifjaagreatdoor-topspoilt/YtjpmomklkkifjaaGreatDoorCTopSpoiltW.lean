import Derived.Test.YtjpmomklkkifjaaGreatDoorCTopSpoiltP
import Derived.Test.YtjpmomklkkifjaaGreatDoorCJApplied
import Derived.Test.YtjpmomklkkifjaaGreatDoorCTopRowsW
import Derived.Test.YtjpmomklkkifjaaGreatDoorCFLater
import Derived.Test.YtjpmomklkkifjaaGreatDoorCFFind
set_option maxRecDepth 100000
set_option linter.unusedVariables false
set_option linter.unusedSimpArgs false
namespace Go.Proofs.YtjpmomklkkifjaaGreatDoor.T.J
open Go.RowKit Go.Lib
variable {w0 w : World}
theorem FSIn.h0 {fb mb : Nat} {N : List NV} {F : Forest} {next : Int} {l2 : List Res} (h : FSIn w0 w fb mb N F next l2) : ∃ l3, H0 w0 w (l2 ++ l3) := by
  obtain ⟨rs, _, H⟩ := h
  refine ⟨.cell fb 77 [.map (some mb), .int .i64 next] :: .obj mb (IsMapN N) :: rs, Hold.conv H (fun x => ?_) fun r hr => Hold.sat H r ?_⟩
  · simp only [total_cons, total_append]; omega
  · simp only [List.mem_append, List.mem_cons] at hr ⊢
    rcases hr with h | h | h | h <;> simp [h]
theorem H0.cellRow {l : List Res} {b : Nat} {c : CH} (h : H0 w0 w (.cell b 69 (encC c) :: l)) : H0 w0 w (rowCh (.slice (some ⟨b, 0, none⟩) 1 1) [c] :: l) := by
  refine Hold.conv h (fun x => ?_) fun q hq => ?_
  · simp only [total_cons]
    have : (rowCh (.slice (some ⟨b, 0, none⟩) 1 1) [c]).foot x = (Res.cell b 69 (encC c)).foot x := by
      show blkN (.slice (some ⟨b, 0, none⟩) 1 1) x = one b x
      unfold blkN one
      simp [Value.ownBlock, eq_comm]
    omega
  · rcases List.mem_cons.1 hq with rfl | hq
    · obtain ⟨h1, h2⟩ := Hold.sat h (.cell b 69 (encC c)) (by simp)
      exact ⟨rfl, .inr ⟨b, 1, (encC c).toArray, rfl, h1, h2, Nat.le_refl 1, by decide, rfl, rfl⟩⟩
    · exact Hold.sat h q (by simp [hq])
def Spoilt (W w : World) (B : Nat) (v : Value) (R : List CH) : Prop := ∃ (c : CH) (l : List Res), c.key.size ≤ 1000 ∧ c.val.size ≤ 1000 ∧ H0 W w (.cell B 69 (encC c) :: rowCh v R :: l)
def SpC (W w : World) (B : Nat) (v : Value) (R : List CH) (key val : ByteArray) (g : Bool) : Prop := ∃ l : List Res, H0 W w (.cell B 69 (encC ⟨key, val, g⟩) :: rowCh v R :: l)
set_option maxHeartbeats 16000000 in
theorem spoilt_rest {W w : World} (hR : Ready8 W) {v : Value} {R : List CH} (hRl : R.length ≤ 800) (hRs : ∀ y ∈ R, y.key.size ≤ 1000 ∧ y.val.size ≤ 1000) {C : Nat} {c : CH} {l : List Res} (hck : c.key.size ≤ 1000) (hcv : c.val.size ≤ 1000) (h : H0 W w (rowCh (.slice (some ⟨C, 0, none⟩) 1 1) [c] :: rowCh v R :: l)) :
    Calls Tryz.prog 38 #[v, .slice (some ⟨C, 0, none⟩) 1 1] w fun e w' => ∃ p n cp, e = .returned (.slice p n cp) ∧ Calls Tryz.prog 36 #[.slice p n cp] w' fun e w' => (e = .returned (.tuple #[.pointer none, .iface 86 (.int .i64 4)]) ∧ Below W.heap.size W w') ∨ ∃ gb gm N F next Y l2, e = .returned (.tuple #[.pointer (some ⟨gb, 0, none⟩), .nilIface]) ∧ ReadOk Y N F next ∧ rowCh (.slice p n cp) Y ∈ l2 ∧ Y.length = n ∧ FSIn W w' gb gm N F next l2 := by
  refine (applied_any h (.tail _ (.head _)) (.head _) (by omega)).mono ?_
  rintro e w' ⟨v', Y, rfl, h2, hY1, hY2⟩
  obtain ⟨p, cp, rfl⟩ := row_cut (Hold.sat h2 (rowCh v' Y) (.head _))
  refine ⟨p, _, cp, rfl, (parse_any hR h2 (.head _) (by omega) fun y hy => ?_).mono ?_⟩
  · rcases hY1 y hy with rfl | hy
    · exact ⟨hck, hcv⟩
    · exact hRs y hy
  · rintro e w'' (⟨rfl, h3⟩ | ⟨gb, gm, N, F, next, rfl, h3, h4⟩)
    · exact .inl ⟨rfl, H0.below h3⟩
    · exact .inr ⟨gb, gm, N, F, next, Y, _, rfl, h3, .head _, rfl, h4⟩
theorem RowOk.sizes {c : CH} (h : RowOk c) : c.key.size ≤ 1000 ∧ c.val.size ≤ 1000 := by
  obtain ⟨_, h1, h2, _⟩ := h
  omega
theorem fs_low {fb mb : Nat} {N : List NV} {F : Forest} {next : Int} {l2 : List Res} (h : FSIn w0 w fb mb N F next l2) : Below w0.heap.size w0 w := by
  obtain ⟨rs, _, H⟩ := h
  exact H0.below H
theorem ents_few {N : List NV} {F : Forest} {next : Int} (h : RowsOk8 N F next) {v : NV} (hv : v ∈ N) : (entsK F v).length ≤ 900 := by
  unfold entsK
  by_cases hk : v.kind = 1
  · rw [if_pos hk]
    obtain ⟨tb, htb, ht⟩ := h.fits.tree v hv hk
    unfold entsOf
    rw [htb]
    exact h.fits.many _ (lookF_in ht)
  · rw [if_neg hk]; exact Nat.zero_le _
set_option maxHeartbeats 32000000 in
theorem topSpoilt_walk (va : Value) (na : Nat) (fa : Nat → ActD) (ck cv : ByteArray) (cg : Bool) (x : Int) (gone : Bool) (W : World) (hR : Ready8 W) (hA : ActsOk W va na fa) :
    Calls Tryz.prog 12 #[va, .agg #[.string ck, .string cv, .bool cg], .int .i64 x, .bool gone] W fun e w' => e = .returned (.bool true) ∧ Below W.heap.size W w' := by
  obtain ⟨B, hB⟩ : ∃ B, W.heap.size = B := ⟨_, rfl⟩
  have h0 := Hold.made (H0.start W) (Nat.le_refl _) 69 [.string ck, .string cv, .bool cg]
  obtain ⟨w0, hw0⟩ : ∃ w0, W.alloc (.cells [Value.string ck, .string cv, .bool cg].toArray 69) = w0 := ⟨_, rfl⟩
  have hs0 : W.heap.size ≤ w0.heap.size := by rw [← hw0, World.size_alloc]; omega
  rw [hw0] at h0
  have hw0' : W.alloc (.cells #[Value.string ck, .string cv, .bool cg] 69) = w0 := hw0
  have hmade := made_calls hR.r h0 hs0
  have hgr := fun w1 (h1 : H0 W w1 [.cell W.heap.size 69 [.string ck, .string cv, .bool cg]]) => grown_calls hR.r h1 va na fa hA
  rw [hB] at hmade hgr
  have HMd := hide hmade
  have HGr := hide hgr
  have HR := hide hR
  have hB2 := hide hB
  clear hmade hgr hA hR hw0 h0 hs0
  go_enter Tryz.func12, Tryz.ntmps12
  go_wp2_with fail
  refine (unhide HMd).mono ?_
  rintro e w1 ⟨rfl, h1⟩
  have H1 := hide h1
  clear h1 HMd hw0'
  go_wp2_with fail
  refine (unhide HGr w1 (unhide H1)).mono ?_
  rintro e w2 (⟨rfl, h2⟩ | ⟨fb, mb, N, F, next, rfl, h2, hG⟩)
  · have H2 := hide h2
    clear h2 HGr H1
    go_wp2_with fail
    go_ret
    exact ⟨rfl, H0.below (unhide H2)⟩
  clear HGr H1
  have b0 : w2.cell? ⟨B, 0, none⟩ = some (.string ck) := h2.cellAt (.head _) (j := 0) rfl
  have b1 : w2.cell? ⟨B, 1, none⟩ = some (.string cv) := h2.cellAt (.head _) (j := 1) rfl
  have b2 : w2.cell? ⟨B, 2, none⟩ = some (.bool cg) := h2.cellAt (.head _) (j := 2) rfl
  obtain ⟨C, hC⟩ : ∃ C, w2.heap.size = C := ⟨_, rfl⟩
  have h3 := h2.made 69 (encC ⟨ck, cv, cg⟩)
  rw [hC] at h3
  obtain ⟨w3, hw3⟩ : ∃ w3, w2.alloc (.cells (encC ⟨ck, cv, cg⟩).toArray 69) = w3 := ⟨_, rfl⟩
  have hw3' : w2.alloc (.cells #[.string ck, .string cv, .bool cg] 69) = w3 := hw3
  rw [hw3] at h3
  obtain ⟨l3, h3h⟩ := FSIn.h0 h3
  have hlt := light_any (H0.cellRow h3h) (.head _)
  have HL := hide hlt
  have H3 := hide h3
  have HG := hide hG
  clear h2 h3 h3h hlt hG hw3
  go_wp2_with fail
  refine (unhide HL).mono ?_
  rintro e w4 ⟨r, rfl, hr, hb4⟩
  have h4 := (unhide H3).step hb4
  cases r with
  | false =>
    have H4 := hide h4
    clear h4 hr hb4 HL H3
    go_wp2_with fail
    go_ret
    exact ⟨rfl, fs_low (unhide H4)⟩
  | true =>
  obtain ⟨hk60, hv60⟩ := hr rfl
  have h4 := FSIn.forget [] h4
  have hO8 := ok8 ((unhide HG).rows (by omega))
  have hrw := rows_calls (unhide HR) h4 hO8
  have hRok := (unhide HG).rows (Nat.le_refl _)
  have hfew := Good.few8 (unhide HG) (Nat.le_refl _)
  have HRw := hide hrw
  have HRo := hide hRok
  have HFw := hide hfew
  have HKv := hide (show ck.size ≤ 60 ∧ cv.size ≤ 60 from ⟨hk60, hv60⟩)
  clear h4 hr hb4 HL H3 hO8 hrw hRok hfew hk60 hv60 b0 b1 b2 hw3' HG
  go_wp2_with fail
  refine (unhide HRw).mono ?_
  rintro e w5 ⟨v, R, rfl, hp, hs, h5⟩
  have hRs : ∀ y ∈ R, y.key.size ≤ 1000 ∧ y.val.size ≤ 1000 := fun y hy => RowOk.sizes ((unhide HRo).row (hp.mem_iff.1 hy))
  have hRl : R.length ≤ 600 := by rw [hp.length_eq]; exact unhide HFw
  have hR0 : 0 < R.length := by rw [hp.length_eq]; simp [rowsOf]
  have hrow := h5.rowAt (v := v) (e := 69) (k := 3) (.head _)
  obtain ⟨g, cap, rfl, _⟩ := row_shape hrow hR0
  obtain ⟨n, hn⟩ : ∃ n, R.length = n := ⟨_, rfl⟩
  obtain ⟨A, hA1, _⟩ := andN 1023 (by decide) x
  have hA2 : bits .and .i64 x 1023 = (A : Int) := hA1
  obtain ⟨q, hq⟩ : ∃ q, bits .and .i64 x 1024 = q := ⟨_, rfl⟩
  rw [hn] at hRl hR0 hrow
  obtain ⟨kk, hkk⟩ : ∃ kk, A % n = kk := ⟨_, rfl⟩
  have hkl : kk < n := by rw [← hkk]; exact Nat.mod_lt _ hR0
  have hmod : (A : Int).tmod (n : Int) = (kk : Int) := by rw [← hkk]; rfl
  have hn0 : ¬ (n : Int) = 0 := by omega
  have hn1 : ((n : Int) == 0) = false := by simpa using hn0
  obtain ⟨y, hy⟩ : ∃ y, R[kk]? = some y := ⟨R[kk]'(by rw [hn]; exact hkl), List.getElem?_eq_getElem _⟩
  obtain ⟨y0, y1, y2⟩ := ch_cell hrow hy
  have hyk := (hRs y (List.mem_of_getElem? hy)).1
  obtain ⟨l5, h5h⟩ := FSIn.h0 h5
  have h6 : H0 W w5 (.cell B 69 (encC ⟨ck, cv, cg⟩) :: rowCh (.slice (some ⟨g, 0, none⟩) R.length cap) R :: l5) := H0.perm h5h (List.Perm.swap _ _ _)
  have hs6 := fun (u0 u1 u2 : Value) wx (hx : H0 W wx (.cell B 69 [u0, u1, u2] :: rowCh (.slice (some ⟨g, 0, none⟩) R.length cap) R :: l5)) => (⟨Hold.cellAt hx (.head _) (j := 0) rfl, Hold.cellAt hx (.head _) (j := 1) rfl, Hold.cellAt hx (.head _) (j := 2) rfl, Hold.frozenAt hx (.head _) 0, Hold.frozenAt hx (.head _) 1, Hold.frozenAt hx (.head _) 2⟩ : wx.cell? ⟨B, 0, none⟩ = some u0 ∧ wx.cell? ⟨B, 1, none⟩ = some u1 ∧ wx.cell? ⟨B, 2, none⟩ = some u2 ∧ wx.frozen? ⟨B, 0, none⟩ = false ∧ wx.frozen? ⟨B, 1, none⟩ = false ∧ wx.frozen? ⟨B, 2, none⟩ = false)
  obtain ⟨b0, b1, b2, f0, f1, f2⟩ := hs6 _ _ _ _ h6
  have h7 := Hold.store [] h6 2 (.bool gone) [.string ck, .string cv, .bool gone] rfl
  have HA7 : Hid (SpC W (w5.setCell ⟨B, 2, none⟩ (.bool gone)) B (.slice (some ⟨g, 0, none⟩) n cap) R ck cv gone) := ⟨l5, by rw [← hn]; exact h7⟩
  obtain ⟨bq, hbq⟩ : ∃ bq, (!gone && !(q == 0)) = bq := ⟨_, rfl⟩
  have HY := hide (show R[kk]? = some y ∧ y.key.size ≤ 1000 from ⟨hy, hyk⟩)
  have HRs := hide hRs
  have Hn := hide hn
  have hne : g ≠ B := fun e => by
    have h1 := Hold.uniq h6 B
    have h2 : (rowCh (.slice (some ⟨g, 0, none⟩) R.length cap) R).foot B = 1 := by
      rw [e]
      show blkN (.slice (some ⟨B, 0, none⟩) R.length cap) B = 1
      unfold blkN
      simp [Value.ownBlock]
    have h3 : (Res.cell B 69 (encC ⟨ck, cv, cg⟩)).foot B = 1 := one_self _
    simp only [total_cons] at h1
    omega
  obtain ⟨yk, hyke⟩ : ∃ yk, y.key = yk := ⟨_, rfl⟩
  rw [hyke] at y0
  clear h5 h5h h6 h7 hs6 hp hs hRs hn hy hyk hrow hA1 hkk HRw HRo HFw y1 y2
  rw [unhide Hn]
  go_upto_region 10 with fail
  go_cut [54] from 48 to 67 (fun a54 wc => a54 = .bool bq ∧ Hid (SpC W wc B (.slice (some ⟨g, 0, none⟩) n cap) R ck cv gone))
  case first =>
    cases gone with
    | true =>
      have hbq2 : false = bq := by simpa using hbq
      clear hbq
      subst hbq2
      go_wp2_with fail
      go_meet
      exact ⟨rfl, HA7⟩
    | false =>
      cases hq0 : (q == 0) with
      | true =>
        rw [hq0] at hbq
        have hbq2 : false = bq := hbq
        clear hbq
        subst hbq2
        go_wp2_with fail
        go_meet
        exact ⟨by first | rfl | simp [bne, hq0], HA7⟩
      | false =>
        rw [hq0] at hbq
        have hbq2 : true = bq := hbq
        clear hbq
        subst hbq2
        go_wp2_with fail
        go_meet
        exact ⟨by first | rfl | simp [bne, hq0], HA7⟩
  case rest =>
  obtain ⟨rfl, hcut⟩ := hcut
  clear HA7 b0 b1 b2 f0 f1 f2 y0 hbq hq
  obtain ⟨l, hS⟩ := unhide hcut
  have hrw := Hold.sat hS (rowCh (.slice (some ⟨g, 0, none⟩) n cap) R) (.tail _ (.head _))
  obtain ⟨y0, _, _⟩ := ch_cell (by unfold rowCh at hrw; rw [unhide Hn] at hrw; exact hrw) (unhide HY).1
  rw [hyke] at y0
  have f0 := Hold.frozenAt hS (.head _) 0
  have b0 : wc.cell? ⟨B, 0, none⟩ = some (.string ck) := Hold.cellAt hS (.head _) (j := 0) rfl
  have h8 := Hold.store [] hS 0 (.string yk) [.string yk, .string cv, .bool gone] rfl
  have HA8 : Hid (∃ key : ByteArray, key.size ≤ 1000 ∧ SpC W (wc.setCell ⟨B, 0, none⟩ (.string yk)) B (.slice (some ⟨g, 0, none⟩) n cap) R key cv gone) := ⟨yk, by rw [← hyke]; exact (unhide HY).2, l, h8⟩
  have HA9 : Hid (∃ key : ByteArray, key.size ≤ 1000 ∧ SpC W wc B (.slice (some ⟨g, 0, none⟩) n cap) R key cv gone) := ⟨ck, by have := (unhide HKv).1; omega, l, hS⟩
  clear hcut hS hrw h8
  go_upto_if 54 with fail
  go_cut [] from 48 to 67 (fun wc => Hid (∃ key : ByteArray, key.size ≤ 1000 ∧ SpC W wc B (.slice (some ⟨g, 0, none⟩) n cap) R key cv gone))
  case first =>
    cases bq with
    | true =>
      go_wp2_with fail
      go_meet
      exact HA8
    | false =>
      go_wp2_with fail
      go_meet
      exact HA9
  case rest =>
  clear HA8 HA9 y0 f0 b0
  obtain ⟨key, hkey, l, hS⟩ := unhide hcut
  have hrw := Hold.sat hS (rowCh (.slice (some ⟨g, 0, none⟩) n cap) R) (.tail _ (.head _))
  obtain ⟨y0, _, _⟩ := ch_cell (by unfold rowCh at hrw; rw [unhide Hn] at hrw; exact hrw) (unhide HY).1
  rw [hyke] at y0
  have f0 := Hold.frozenAt hS (.head _) 0
  have f1 := Hold.frozenAt hS (.head _) 1
  have f2 := Hold.frozenAt hS (.head _) 2
  have b0 : wc.cell? ⟨B, 0, none⟩ = some (.string key) := Hold.cellAt hS (.head _) (j := 0) rfl
  have b1 : wc.cell? ⟨B, 1, none⟩ = some (.string cv) := Hold.cellAt hS (.head _) (j := 1) rfl
  have b2 : wc.cell? ⟨B, 2, none⟩ = some (.bool gone) := Hold.cellAt hS (.head _) (j := 2) rfl
  have h9a := Hold.store [] hS 0 (.string yk) [.string yk, .string cv, .bool gone] rfl
  have h9b := Hold.store [] h9a 1 (.string ⟨#[]⟩) [.string yk, .string ⟨#[]⟩, .bool gone] rfl
  have h9 := Hold.store [] h9b 2 (.bool true) [.string yk, .string ⟨#[]⟩, .bool true] rfl
  have HA8 : Hid (Spoilt W (((wc.setCell ⟨B, 0, none⟩ (.string yk)).setCell ⟨B, 1, none⟩ (.string ⟨#[]⟩)).setCell ⟨B, 2, none⟩ (.bool true)) B (.slice (some ⟨g, 0, none⟩) n cap) R) := ⟨⟨yk, ⟨#[]⟩, true⟩, l, by rw [← hyke]; exact (unhide HY).2, Nat.zero_le _, h9⟩
  have HA9 : Hid (Spoilt W wc B (.slice (some ⟨g, 0, none⟩) n cap) R) := ⟨⟨key, cv, gone⟩, l, hkey, by have := (unhide HKv).2; show cv.size ≤ 1000; omega, hS⟩
  clear hcut hS hrw h9a h9b h9
  go_upto_if 61 with fail
  go_cut [] from 48 to 67 (fun wc => Hid (Spoilt W wc B (.slice (some ⟨g, 0, none⟩) n cap) R))
  case first =>
    cases gone with
    | true =>
      go_wp2_with fail
      go_meet
      exact HA8
    | false =>
      go_wp2_with fail
      go_meet
      exact HA9
  case rest =>
  clear HA8 HA9 y0 f0 f1 f2 b0 b1 b2 hyke HY HKv
  obtain ⟨⟨ek, ev, eg⟩, l, hck, hcv, hS⟩ := unhide hcut
  have k0 : wc.cell? ⟨B, 0, none⟩ = some (.string ek) := Hold.cellAt hS (.head _) (j := 0) rfl
  have k1 : wc.cell? ⟨B, 1, none⟩ = some (.string ev) := Hold.cellAt hS (.head _) (j := 1) rfl
  have k2 : wc.cell? ⟨B, 2, none⟩ = some (.bool eg) := Hold.cellAt hS (.head _) (j := 2) rfl
  obtain ⟨E, hE⟩ : ∃ E, wc.heap.size = E := ⟨_, rfl⟩
  have hS2 := Hold.made hS (H0.below hS).size 69 (encC ⟨ek, ev, eg⟩)
  rw [hE] at hS2
  obtain ⟨wd, hwd⟩ : ∃ wd, wc.alloc (.cells (encC ⟨ek, ev, eg⟩).toArray 69) = wd := ⟨_, rfl⟩
  have hwd' : wc.alloc (.cells #[.string ek, .string ev, .bool eg] 69) = wd := hwd
  rw [hwd] at hS2
  have hS4 : H0 W wd (rowCh (.slice (some ⟨E, 0, none⟩) 1 1) [(⟨ek, ev, eg⟩ : CH)] :: rowCh (.slice (some ⟨g, 0, none⟩) n cap) R :: .cell B 69 (encC ⟨ek, ev, eg⟩) :: l) := H0.perm (H0.cellRow hS2) (List.Perm.cons _ (List.Perm.swap _ _ _))
  have hrest := spoilt_rest (unhide HR) (by rw [unhide Hn]; omega) (unhide HRs) hck hcv hS4
  have HRest := hide hrest
  clear hcut hck hcv hS hS2 hS4 hwd hrest HRs Hn hmod hkl hn0 hn1 hA2 hne hRl hR0
  go_wp2_with fail
  refine (unhide HRest).mono ?_
  rintro e w6 ⟨py, ny, cy, rfl, hpar⟩
  have HPar := hide hpar
  clear hpar HRest k0 k1 k2 hwd'
  go_wp2_with fail
  refine (unhide HPar).mono ?_
  rintro e w7 (⟨rfl, hb7⟩ | ⟨gb, gm, N', F', nx, Y, l2, rfl, hok, hYm, hYl, h7⟩)
  · have Hb7 := hide hb7
    clear hb7 HPar
    go_wp2_with fail
    go_ret
    exact ⟨rfl, unhide Hb7⟩
  have hrw := rows_calls (unhide HR) h7 hok.rows
  have HRw := hide hrw
  have HOk := hide hok
  have HYm := hide hYm
  have HYl := hide hYl
  clear hrw hok hYm hYl h7 HPar
  go_wp2_with fail
  refine (unhide HRw).mono ?_
  rintro e w8 ⟨v8, R2, rfl, p2, s2, h8⟩
  have e2 : R2 = Y := sorted_once (p2.trans (unhide HOk).perm.symm) s2 (unhide HOk).sorted ((p2.map CH.key).nodup_iff.2 (unhide HOk).rows.keys)
  subst e2
  have o1 := h8.rowAt (v := v8) (e := 69) (k := 3) (.head _)
  have o2 := h8.rowAt (e := 69) (k := 3) (.tail _ (unhide HYm))
  rw [unhide HYl] at o1 o2
  have hYz : ny ≤ 200000 := by
    have h1 := p2.length_eq
    have h2 := (unhide HOk).rows.many
    have h3 := unhide HYl
    omega
  have hsm := sameCh_calls o1 o2 (unhide HYl) hYz
  obtain ⟨p8, c8, rfl⟩ := row_cut o1
  have HSm := hide hsm
  have H8 := hide (FSIn.forget [] h8)
  clear hsm h8 o1 o2 p2 s2 HRw hYz
  go_wp2_with fail
  refine (unhide HSm).mono ?_
  rintro e w9 ⟨rfl, hb9⟩
  have h9 := (unhide H8).step hb9
  have hnd := nodes_calls h9 (unhide HOk).rows.fits (unhide HOk).rows.nodup (unhide HOk).rows.root
  have HNd := hide hnd
  clear h9 hb9 HSm H8 hnd HYm HYl
  go_wp2_with fail
  refine (unhide HNd).mono ?_
  rintro e w10 ⟨vn, L, rfl, hperm, _, h10⟩
  have hlen : L.length = N'.length := hperm.length_eq
  have hpos : 0 < L.length := by rw [hlen]; exact List.length_pos_iff.2 (unhide HOk).rows.root
  have h16 : L.length ≤ 16 := by rw [hlen]; exact (unhide HOk).rows.fits.few
  obtain ⟨gn, capn, rfl, _⟩ := row_shape (h10.rowAt (.head _)) hpos
  obtain ⟨n, hn⟩ : ∃ n, L.length = n := ⟨_, rfl⟩
  rw [hn] at h10 h16 ⊢
  have Hn := hide hn
  have HP := hide hperm
  have H10 := hide h10
  clear HNd hperm h10 hlen hpos hn
  go_wp2_with fail
  go_loopg [18, 19, 20, 21, 22] (n + 1) (fun k v18 v19 v20 v21 v22 wr => ∃ i : Nat, n - i < k ∧ i ≤ n ∧ v18 = .int .i64 i ∧ Hid (FSIn W wr gb gm N' F' nx (rowNd (.slice (some ⟨gn, 0, none⟩) n capn) L :: l2)))
  case atStart => exact ⟨0, by omega, by omega, rfl, H10⟩
  case round =>
    obtain ⟨i, hk, hi, rfl, HI⟩ := hrel
    clear H10
    by_cases hin : i < n
    · have hiz : (i : Int) < (n : Int) := by omega
      obtain ⟨u, hu⟩ := isAt (L := L) (j := i) (by rw [unhide Hn]; exact hin)
      have huN : u ∈ N' := (unhide HP).mem_iff.1 (List.mem_of_getElem? hu)
      have hlow := (unhide HOk).low u huN
      have hlinks := (unhide HOk).links u huN
      have Hu := hide hu
      have HLk := hide hlinks
      clear huN hlinks hu
      obtain ⟨uid, huid⟩ : ∃ uid, u.id = uid := ⟨_, rfl⟩
      rw [huid] at hlow HLk
      have Huid := hide huid
      clear huid
      go_wp2_with fail
      go_loopg [19, 20, 21, 22] (n + 1) (fun k2 v19 v20 v21 v22 wr2 => ∃ (q c : Nat), n - q < k2 ∧ q ≤ n ∧ v20 = .int .i64 q ∧ v19 = .int .i64 c ∧ c ≤ 900 * q ∧ Hid (c = refsE (pairs (L.take q) F') uid) ∧ Hid (FSIn W wr2 gb gm N' F' nx (rowNd (.slice (some ⟨gn, 0, none⟩) n capn) L :: l2)))
      case atStart => exact ⟨0, 0, by omega, by omega, rfl, rfl, by omega, (by show _ = _; simp [pairs, refsE]), HI⟩
      case round =>
        obtain ⟨q, c, hk2, hq, rfl, rfl, hc9, Hc, HQ⟩ := hrel
        clear HI
        by_cases hqn : q < n
        · have hqz : (q : Int) < (n : Int) := by omega
          obtain ⟨y, hy⟩ := isAt (L := L) (j := q) (by rw [unhide Hn]; exact hqn)
          have hrowQ := (unhide HQ).rowAt (v := .slice (some ⟨gn, 0, none⟩) n capn) (.head _)
          rw [unhide Hn] at hrowQ
          obtain ⟨d0, _⟩ := node_cell hrowQ hy
          have hyN : y ∈ N' := (unhide HP).mem_iff.1 (List.mem_of_getElem? hy)
          have hid := (unhide HOk).rows.fits.id y hyN
          have hent := entries_calls (unhide HQ) (unhide HOk).rows.fits y.id (wfI_of (by omega) (by omega))
          rw [atN_of (unhide HOk).rows.nodup hyN] at hent
          have h900 := ents_few (unhide HOk).rows hyN
          have Htk : Hid (pairs (L.take (q + 1)) F' = pairs (L.take q) F' ++ tagE y.id (entsK F' y)) := pairs_take hy F'
          generalize entsK F' y = es at hent h900 Htk
          obtain ⟨yid, hyid⟩ : ∃ yid, y.id = yid := ⟨_, rfl⟩
          rw [hyid] at d0 hent Htk
          have HE := hide hent
          clear hrowQ hyN hid hent hy hyid
          go_wp2_with fail
          refine (unhide HE).mono ?_
          rintro e w4 ⟨ve, rfl, h4⟩
          have hr4 := h4.rowAt (v := ve) (.head _)
          have H4 := hide h4
          clear h4 HE HQ
          rcases entry_shape hr4 (by omega) with ⟨rfl, rfl⟩ | ⟨ge, ce, rfl⟩
          · have H5 := hide (FSIn.forget [] (unhide H4))
            have Hc2 : Hid (c = refsE (pairs (L.take (q + 1)) F') uid) := by show _ = _; rw [unhide Htk, unhide Hc]; simp [tagE]
            clear H4 hr4 Hc Htk
            go_wp2_with fail
            go_loopg [19, 22] 1 (fun k2 v19 v22 wr => v19 = .int .i64 c ∧ v22 = .int .i64 0 ∧ wr = w4)
            case atStart => exact ⟨rfl, rfl, rfl⟩
            case round =>
              obtain ⟨rfl, rfl, rfl⟩ := hrel
              go_wp2_with fail
              go_roundg (n - q)
              case measure => omega
              case rel => exact ⟨q + 1, c, by omega, by omega, by simp, rfl, by omega, Hc2, H5⟩
          · obtain ⟨m, hm⟩ : ∃ m, es.length = m := ⟨_, rfl⟩
            rw [hm] at hr4 H4 h900 ⊢
            have Hm := hide hm
            clear hr4 hm
            go_wp2_with fail
            go_loopg [19, 22] (m + 1) (fun k3 v19 v22 wr3 => ∃ (j c2 : Nat), m - j < k3 ∧ j ≤ m ∧ v22 = .int .i64 j ∧ v19 = .int .i64 c2 ∧ c2 ≤ 900 * q + j ∧ Hid (c2 = refsE (pairs (L.take q) F' ++ tagE yid (es.take j)) uid) ∧ Hid (FSIn W wr3 gb gm N' F' nx (rowE (.slice (some ⟨ge, 0, none⟩) m ce) es :: rowNd (.slice (some ⟨gn, 0, none⟩) n capn) L :: l2)))
            case atStart => exact ⟨0, c, by omega, by omega, rfl, rfl, by omega, (by show _ = _; rw [unhide Hc]; simp [tagE]), H4⟩
            case round =>
              obtain ⟨j, c2, hk3, hj, rfl, rfl, hc9j, Hc2, HJ⟩ := hrel
              clear H4
              by_cases hjm : j < m
              · have hjz : (j : Int) < (m : Int) := by omega
                have hjl : j < es.length := by rw [unhide Hm]; exact hjm
                obtain ⟨x, hx⟩ : ∃ x, es[j]? = some x := ⟨es[j], by simp [hjl]⟩
                have hrE := (unhide HJ).rowAt (v := .slice (some ⟨ge, 0, none⟩) m ce) (.head _)
                have hrN := (unhide HJ).rowAt (v := .slice (some ⟨gn, 0, none⟩) n capn) (.tail _ (.head _))
                rw [unhide Hm] at hrE
                rw [unhide Hn] at hrN
                have qE := fun q : Later wr => cell_later q.bel (entry_cell hrE hx).2
                have hd1 := (node_cell hrN (unhide Hu)).1
                rw [unhide Huid] at hd1
                have qB := fun uq : Later wr => cell_later uq.bel hd1
                have Htg : Hid (pairs (L.take q) F' ++ tagE yid (es.take (j + 1)) = (pairs (L.take q) F' ++ tagE yid (es.take j)) ++ [(yid, x)]) := by show _ = _; rw [tag_take hx, List.append_assoc]
                obtain ⟨bb, hbb⟩ : ∃ bb, (x.node == uid) = bb := ⟨_, rfl⟩
                have Hcs : Hid (refsE (pairs (L.take q) F' ++ tagE yid (es.take (j + 1))) uid = c2 + if bb then 1 else 0) := by
                  show _ = _
                  rw [unhide Htg, refs_snoc, unhide Hc2, ← hbb]
                  simp
                obtain ⟨xnd, hxnd⟩ : ∃ xnd, x.node = xnd := ⟨_, rfl⟩
                rw [hxnd] at qE hbb
                clear hrE hrN hd1 hx hjl Htg Hc2 hxnd
                cases bb with
                | true =>
                  go_wp2_with fail
                  refine wp_region_later (by kernel_rfl) (by kernel_rfl) ?_
                  repeat (go_big_quiet_step (fail))
                  refine wpQuiet_nil ?_
                  intro _ hw'
                  obtain ⟨uq, hw''⟩ := hw'
                  subst hw''
                  clear qE qB
                  go_wp2_with fail
                  go_roundg (m - j)
                  case measure => omega
                  case rel => exact ⟨j + 1, c2 + 1, by omega, by omega, by simp, by simp, by omega, (by show _ = _; rw [unhide Hcs]; rfl), (unhide HJ).step uq.bel⟩
                | false =>
                  go_wp2_with fail
                  refine wp_region_later (by kernel_rfl) (by kernel_rfl) ?_
                  repeat (go_big_quiet_step (fail))
                  refine wpQuiet_nil ?_
                  intro _ hw'
                  obtain ⟨uq, hw''⟩ := hw'
                  subst hw''
                  clear qE qB
                  go_wp2_with fail
                  go_roundg (m - j)
                  case measure => omega
                  case rel => exact ⟨j + 1, c2, by omega, by omega, by simp, by simp, by omega, (by show _ = _; rw [unhide Hcs]; rfl), (unhide HJ).step uq.bel⟩
              · have hjz : ¬ (j : Int) < (m : Int) := by omega
                have hje : es.take j = es := List.take_of_length_le (by rw [unhide Hm]; omega)
                have Hc3 : Hid (c2 = refsE (pairs (L.take (q + 1)) F') uid) := by show _ = _; rw [unhide Htk, unhide Hc2, hje]
                have H5 := hide (FSIn.forget [] (unhide HJ))
                clear HJ hje Hc2
                go_wp2_with fail
                go_roundg (n - q)
                case measure => omega
                case rel => exact ⟨q + 1, c2, by omega, by omega, by simp, rfl, by omega, Hc3, H5⟩
        · have hqz : ¬ (q : Int) < (n : Int) := by omega
          have hqe : L.take q = L := List.take_of_length_le (by rw [unhide Hn]; omega)
          have hcv : c = refsE (pairs N' F') uid := by
            rw [unhide Hc, hqe]
            exact mark_perm (pairs_perm (unhide HP) F') uid
          have hrowN := (unhide HQ).rowAt (v := .slice (some ⟨gn, 0, none⟩) n capn) (.head _)
          rw [unhide Hn] at hrowN
          obtain ⟨e0, _, _, e3, _⟩ := node_cell hrowN (unhide Hu)
          rw [unhide Huid] at e0
          have hlz : ¬ nx ≤ uid := by omega
          by_cases h1 : uid = 1
          · have h1b : (uid == 1) = true := by simpa using h1
            subst h1
            clear hcv hqe hrowN Hc HLk e3
            go_wp2_with fail
            all_goals
              go_roundg (n - i)
              case measure => omega
              case rel => exact ⟨i + 1, by omega, by omega, by simp, HQ⟩
          · have h1b : (uid == 1) = false := by simpa using h1
            have hlk := unhide HLk h1
            rw [← hcv] at hlk
            rw [← hlk] at e3
            clear hcv hqe hrowN Hc HLk hlk h1
            go_wp2_with fail
            all_goals
              go_roundg (n - i)
              case measure => omega
              case rel => exact ⟨i + 1, by omega, by omega, by simp, HQ⟩
    · have hiz : ¬ (i : Int) < (n : Int) := by omega
      go_wp2_with fail
      go_ret
      exact ⟨rfl, by first | exact fs_low (unhide HI) | (rw [← unhide hB2]; exact fs_low (unhide HI))⟩
end Go.Proofs.YtjpmomklkkifjaaGreatDoor.T.J
