import Derived.Test.YtjpmomklkkifjaaGreatDoorCJMade
import Derived.BigRegion
set_option maxRecDepth 100000
set_option linter.unusedVariables false
set_option linter.unusedSimpArgs false
namespace Go.Proofs.YtjpmomklkkifjaaGreatDoor.T.J
open Go.RowKit
variable {w0 w w' : World} {db nb eb : Nat} {D : List DN} {E : List DE} {next : Int} {l : List Res} {A : List (Int × Item)}
set_option maxHeartbeats 16000000 in
theorem made_fil (hR : Ready8 w0) (h : H0 w0 w (dfR db nb eb (mark A D) E next l)) (d : DN) (hd : d ∈ D) (hkd : d.kind = ⟨#[102]⟩) (hr2 : refsE A d.id ≤ 1000) (htz : d.tail.size ≤ 1000) :
    Calls Tryz.prog 120 #[.pointer (some ⟨db, 0, none⟩), .int .i64 d.id, .pointer (some ⟨d.blk, 0, none⟩)] w (MdEnd w0 w (dfR db nb eb (mark A D) E next l) A d) := by
  obtain ⟨B, hB⟩ : ∃ B, w.heap.size = B := ⟨_, rfl⟩
  have h1 := df_push (Hold.made h (H0.below h).size 33 [.int .i64 0, .int .i64 0, .int .i64 0, .int .i64 0, .string ⟨#[]⟩])
  rw [hB] at h1
  obtain ⟨w1, hw1⟩ : ∃ w1, w.alloc (.cells [.int .i64 0, .int .i64 0, .int .i64 0, .int .i64 0, .string ⟨#[]⟩].toArray 33) = w1 := ⟨_, rfl⟩
  rw [hw1] at h1
  have hw1' : w.alloc (.cells #[.int .i64 0, .int .i64 0, .int .i64 0, .int .i64 0, .string ⟨#[]⟩] 33) = w1 := hw1
  have hbw : Below w.heap.size w w1 := by
    rw [← hw1]
    exact (Below.refl _ w).alloc (Nat.le_refl _) _
  have H1 : Hid (MdH w0 w w1 (dfR db nb eb (mark A D) E next (.cell B 33 [.int .i64 0, .int .i64 0, .int .i64 0, .int .i64 0, .string ⟨#[]⟩] :: l))) := ⟨h1, hbw⟩
  have HD : Hid (MdH w0 w w1.drew (dfR db nb eb (mark A D) E next (.cell B 33 [.int .i64 0, .int .i64 0, .int .i64 0, .int .i64 0, .string ⟨#[]⟩] :: l))) := ⟨Hold.drew h1, hbw.drew⟩
  have ht := fun wx (hx : Hid (MdH w0 w wx (dfR db nb eb (mark A D) E next (.cell B 33 [.int .i64 0, .int .i64 0, .int .i64 0, .int .i64 0, .string ⟨#[]⟩] :: l)))) => told_calls (refsE A d.id) hr2 wx (hR.later (H0.below (unhide hx).1))
  have hcut := fun wx => cut_any d.tail (toldS (refsE A d.id)) wx
  have k0 := (df_dn h1 hd).1
  rw [hkd] at k0
  obtain ⟨t0, n0⟩ := mf_cells H1 hd
  have HS : Hid (∀ (wx wy : World), Below wx.heap.size wx wy → Hid (MdH w0 w wx (dfR db nb eb (mark A D) E next (.cell B 33 [.int .i64 0, .int .i64 0, .int .i64 0, .int .i64 0, .string ⟨#[]⟩] :: l))) → Hid (MdH w0 w wy (dfR db nb eb (mark A D) E next (.cell B 33 [.int .i64 0, .int .i64 0, .int .i64 0, .int .i64 0, .string ⟨#[]⟩] :: l))) ∧ wy.cell? ⟨d.blk, 2, none⟩ = some (.string d.tail) ∧ wy.cell? ⟨d.blk, 3, none⟩ = some (.int .i64 (refsE A d.id))) := fun wx wy hb hx => ⟨mfStep hb hx, mf_cells (mfStep hb hx) hd⟩
  have HE : Hid (∀ (text : ByteArray) (wx : World), Hid (MdH w0 w wx (dfR db nb eb (mark A D) E next (.cell B 33 [.int .i64 0, .int .i64 0, .int .i64 0, .int .i64 0, .string ⟨#[]⟩] :: l))) → wx.cell? ⟨d.blk, 3, none⟩ = some (.int .i64 (refsE A d.id)) ∧ Hid (MdH w0 w (wx.alloc (.cells #[.int .i64 d.id, .int .i64 2, .int .i64 0, .int .i64 (refsE A d.id), .string text] 33)) (mdR db nb eb A D E next l B wx.heap.size (.int .i64 d.id) (.int .i64 2) (.int .i64 0) (.int .i64 (refsE A d.id)) (.string text) (.int .i64 0) (.int .i64 0) (.int .i64 0) (.int .i64 0) (.string ⟨#[]⟩)))) := fun text wx hx => ⟨(df_dn (unhide hx).1 hd).2.2.2.1, df_push (Hold.made (unhide hx).1 (H0.below (unhide hx).1).size 33 [.int .i64 d.id, .int .i64 2, .int .i64 0, .int .i64 (refsE A d.id), .string text]), (unhide hx).2.alloc (unhide hx).2.size _⟩
  have HF : Hid (∀ (text : ByteArray) (wx : World) (C : Nat), Hid (MdH w0 w wx (mdR db nb eb A D E next l B C (.int .i64 d.id) (.int .i64 2) (.int .i64 0) (.int .i64 (refsE A d.id)) (.string text) (.int .i64 0) (.int .i64 0) (.int .i64 0) (.int .i64 0) (.string ⟨#[]⟩))) → wx.cell? ⟨d.blk, 3, none⟩ = some (.int .i64 (refsE A d.id)) ∧ wx.cell? ⟨d.blk, 1, none⟩ = some (.int .i64 d.up) ∧ _) := fun text wx C hx => ⟨(df_dn (unhide hx).1 hd).2.2.2.1, (df_dn (unhide hx).1 hd).2.1, mdCells hx hd⟩
  have HOK : Hid (∀ text : ByteArray, 0 < refsE A d.id → text.size ≤ 20 → MdOk A d ⟨d.id, 2, 0, refsE A d.id, text, none⟩) := fun text ha hb => ⟨rfl, .inr ⟨rfl, rfl, rfl, ha, hb, by rw [hkd]; decide⟩⟩
  obtain ⟨OK, hOK⟩ : ∃ OK : NV → Prop, (fun u => MdOk A d u) = OK := ⟨_, rfl⟩
  have HOK2 : Hid (∀ text : ByteArray, 0 < refsE A d.id → text.size ≤ 20 → OK ⟨d.id, 2, 0, refsE A d.id, text, none⟩) := by rw [← hOK]; exact HOK
  have hend : ∀ e w', (∃ (u : NV) (r : Bool), e = .returned (.tuple #[.agg #[.int .i64 u.id, .int .i64 u.kind, .int .i64 u.up, .int .i64 u.links, .string u.text], .bool r]) ∧ (r = true → OK u) ∧ H0 w0 w' (dfR db nb eb (mark A D) E next l) ∧ Below w.heap.size w w') → MdEnd w0 w (dfR db nb eb (mark A D) E next l) A d e w' := fun e w' hh => by rw [← hOK] at hh; exact hh
  refine Calls.mono ?_ hend
  clear hend HOK
  obtain ⟨rf, hrf⟩ : ∃ rf, refsE A d.id = rf := ⟨_, rfl⟩
  obtain ⟨st, hst⟩ : ∃ st, toldS (refsE A d.id) = st := ⟨_, rfl⟩
  obtain ⟨tl, htl2⟩ : ∃ tl, d.tail = tl := ⟨_, rfl⟩
  obtain ⟨bd, hbd⟩ : ∃ bd, d.blk = bd := ⟨_, rfl⟩
  obtain ⟨id, hid⟩ : ∃ id, d.id = id := ⟨_, rfl⟩
  obtain ⟨up, hup⟩ : ∃ up, d.up = up := ⟨_, rfl⟩
  rw [hst] at ht hcut
  rw [htl2] at hcut t0 HS HF htz
  rw [hrf] at ht n0 HS HE HF hr2 HOK2
  rw [hbd] at k0 t0 n0 HS HE HF ⊢
  rw [hid] at HE HF HOK2 ⊢
  rw [hup] at HF
  obtain ⟨isb, hisb⟩ : ∃ isb, Lib.hasPrefix tl.data.toList st.data.toList = isb := ⟨_, rfl⟩
  rw [hisb] at hcut
  have HT := hide ht
  have HC := hide hcut
  clear h h1 hd ht hcut hw1 hst htl2 hbd hid hrf hkd hup hr2 htz hisb hOK hR
  go_enter Tryz.func120, Tryz.ntmps120
  go_wp2_with fail
  go_upto_region 6 with fail
  go_cut [9, 10] from 38 (fun a9 a10 wc => ∃ text : ByteArray, a9 = .string text ∧ a10 = .bool isb ∧ Hid (MdH w0 w wc (dfR db nb eb (mark A D) E next (.cell B 33 [.int .i64 0, .int .i64 0, .int .i64 0, .int .i64 0, .string ⟨#[]⟩] :: l))))
  case first =>
    first | (go_region_with (((first | (go_at_call 68; refine (unhide HT _ (by first | exact hy | exact HD)).mono ?_; rintro e wy ⟨rfl, hb⟩; obtain ⟨hy, t2, n2⟩ := unhide HS _ _ hb (by first | exact hy | exact HD); clear hb) | (go_at_call 115; refine (unhide HC _).mono ?_; rintro e wz ⟨text, rfl, htx, hwz⟩; have hwz := hwz.symm; subst hwz; clear htx))))) | fail
    all_goals
      go_wp2_with fail
      go_meet
      exact ⟨text, rfl, rfl, hy⟩
  case rest =>
  obtain ⟨text, rfl, rfl, hy⟩ := hcut
  obtain ⟨n5, h5⟩ := unhide HE text _ hy
  obtain ⟨n6, u6, hcl⟩ := unhide HF text _ _ h5
  obtain ⟨c0, c1, c2, c3, c4, _, e0, e1, e2, e3, e4, f0, f1, f2, f3, f4⟩ := hcl
  have H5 := hide h5
  clear HE HF HS HT HC hy h5
  have hcase : isb = false ∨ (isb = true ∧ ¬ 0 < rf ∧ decide ((0 : Int) < (rf : Int)) = false) ∨ (isb = true ∧ 0 < rf ∧ (0 : Int) < (rf : Int) ∧ (up == 0) = false) ∨ (isb = true ∧ 0 < rf ∧ (0 : Int) < (rf : Int) ∧ up = 0) := by
    cases isb
    · exact .inl rfl
    · by_cases h1 : 0 < rf
      · by_cases h2 : up = 0
        · exact .inr (.inr (.inr ⟨rfl, h1, by omega, h2⟩))
        · exact .inr (.inr (.inl ⟨rfl, h1, by omega, by simpa using h2⟩))
      · exact .inr (.inl ⟨rfl, h1, by simpa using h1⟩)
  rcases hcase with rfl | ⟨rfl, z1, z2⟩ | ⟨rfl, z1, z2, z3⟩ | ⟨rfl, z1, z2, rfl⟩
  case inr.inr.inr =>
    have HOK3 := hide (unhide HOK2 text z1)
    clear HOK2
    go_wp2_with fail
    generalize wc.alloc (.cells #[.int .i64 id, .int .i64 2, .int .i64 0, .int .i64 rf, .string text] 33) = w7 at *
    first | (go_region) | fail
    all_goals
      go_wp2_with fail
      have hz := mdEnd (Nat.le_of_eq hB) H5 (.int .i64 id) (.int .i64 2) (.int .i64 0) (.int .i64 rf) (.string text)
      refine bodyPost_ret (results_five (p := 6) (u := 7) rfl _ _ B _ _ _ _ _ rfl rfl hz.1) rfl ?_
      exact ⟨⟨id, 2, 0, rf, text, none⟩, _, rfl, fun h => unhide HOK3 (by simp at h; omega), Hold.drew hz.2.1, hz.2.2.drew⟩
  all_goals
    clear HOK2
    go_wp2_with fail
    generalize wc.alloc (.cells #[.int .i64 id, .int .i64 2, .int .i64 0, .int .i64 rf, .string text] 33) = w7 at *
    first | (go_region) | fail
    all_goals
      go_wp2_with fail
      have hz := mdEnd (Nat.le_of_eq hB) H5 (.int .i64 id) (.int .i64 2) (.int .i64 0) (.int .i64 rf) (.string text)
      refine bodyPost_ret (results_five (p := 6) (u := 7) rfl _ _ B _ _ _ _ _ rfl rfl hz.1) rfl ?_
      exact ⟨⟨id, 2, 0, rf, text, none⟩, false, rfl, fun h => (by cases h), Hold.drew hz.2.1, hz.2.2.drew⟩
end Go.Proofs.YtjpmomklkkifjaaGreatDoor.T.J
