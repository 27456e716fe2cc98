/-
  The contract of made, upon a file.
-/
import Derived.Test.YtjpmomklkkifjaaGreatDoorCIMade
namespace Go.Proofs.YtjpmomklkkifjaaGreatDoor.T
open Go.RowKit
set_option maxRecDepth 100000
set_option linter.unusedVariables false
set_option linter.unusedSimpArgs false

variable {w0 w w' : World} {db nb eb : Nat} {D : List DN} {E : List DE} {next : Int} {l : List Res} {A : List (Int × Item)}
theorem mf_cells {w9 : World} {B : Nat} {z0 z1 z2 z3 z4 : Value} (h : Hid (MdH w0 w9 w (dfR db nb eb (mark A D) E next (.cell B 33 [z0, z1, z2, z3, z4] :: l)))) {d : DN} (hd : d ∈ D) : w.cell? ⟨d.blk, 2, none⟩ = some (.string d.tail) ∧ w.cell? ⟨d.blk, 3, none⟩ = some (.int .i64 (refsE A d.id)) := by
  have h1 := df_dn (unhide h).1 hd
  exact ⟨h1.2.2.1, h1.2.2.2.1⟩
theorem mfStep {w9 : World} {rs : List Res} (hb : Below w.heap.size w w') (h : Hid (MdH w0 w9 w rs)) : Hid (MdH w0 w9 w' rs) := ⟨H0.step (unhide h).1 hb, (unhide h).2.trans (hb.mono (unhide h).2.size)⟩
set_option maxHeartbeats 16000000 in
theorem made_file (h : H0 w0 w (dfR db nb eb (mark A D) E next l)) (d : DN) (hd : d ∈ D) (hkd : d.kind = ⟨#[102]⟩) (hup : d.up = 0) (text : ByteArray) (hts : text.size ≤ 20) (htl : d.tail = toldS (refsE A d.id) ++ text) (hr1 : 1 ≤ refsE A d.id) (hr2 : refsE A d.id < 100) :
    Calls Tryz.prog 120 #[.pointer (some ⟨db, 0, none⟩), .int .i64 d.id, .pointer (some ⟨d.blk, 0, none⟩)] w fun e w' => e = .returned (.tuple #[.agg #[.int .i64 d.id, .int .i64 2, .int .i64 0, .int .i64 (refsE A d.id), .string text], .bool true]) ∧ H0 w0 w' (dfR db nb eb (mark A D) E next l) ∧ Below w.heap.size w w' := by
  have ht := fun wx => told_calls (refsE A d.id) hr2 wx
  have hcut := fun wx => cut_yes (toldS (refsE A d.id)) text wx
  rw [← htl] at hcut
  obtain ⟨B, hB⟩ : ∃ B, w.heap.size = B := ⟨_, rfl⟩
  have h1 := df_push (Hold.made h (H0.below h).size 33 [.int .i64 0, .int .i64 0, .int .i64 0, .int .i64 0, .string ⟨#[]⟩])
  rw [hB] at h1
  obtain ⟨w1, hw1⟩ : ∃ w1, w.alloc (.cells [.int .i64 0, .int .i64 0, .int .i64 0, .int .i64 0, .string ⟨#[]⟩].toArray 33) = w1 := ⟨_, rfl⟩
  rw [hw1] at h1
  have hw1' : w.alloc (.cells #[.int .i64 0, .int .i64 0, .int .i64 0, .int .i64 0, .string ⟨#[]⟩] 33) = w1 := hw1
  have hbw : Below w.heap.size w w1 := by
    rw [← hw1]
    exact (Below.refl _ w).alloc (Nat.le_refl _) _
  have H1 : Hid (MdH w0 w w1 (dfR db nb eb (mark A D) E next (.cell B 33 [.int .i64 0, .int .i64 0, .int .i64 0, .int .i64 0, .string ⟨#[]⟩] :: l))) := ⟨h1, hbw⟩
  have HD : Hid (MdH w0 w w1.drew (dfR db nb eb (mark A D) E next (.cell B 33 [.int .i64 0, .int .i64 0, .int .i64 0, .int .i64 0, .string ⟨#[]⟩] :: l))) := ⟨Hold.drew h1, hbw.drew⟩
  have k0 := (df_dn h1 hd).1
  rw [hkd] at k0
  obtain ⟨t0, n0⟩ := mf_cells H1 hd
  have HS : Hid (∀ (wx wy : World), Below wx.heap.size wx wy → Hid (MdH w0 w wx (dfR db nb eb (mark A D) E next (.cell B 33 [.int .i64 0, .int .i64 0, .int .i64 0, .int .i64 0, .string ⟨#[]⟩] :: l))) → Hid (MdH w0 w wy (dfR db nb eb (mark A D) E next (.cell B 33 [.int .i64 0, .int .i64 0, .int .i64 0, .int .i64 0, .string ⟨#[]⟩] :: l))) ∧ wy.cell? ⟨d.blk, 2, none⟩ = some (.string d.tail) ∧ wy.cell? ⟨d.blk, 3, none⟩ = some (.int .i64 (refsE A d.id))) := fun wx wy hb hx => ⟨mfStep hb hx, mf_cells (mfStep hb hx) hd⟩
  have HE : Hid (∀ (wx : World), Hid (MdH w0 w wx (dfR db nb eb (mark A D) E next (.cell B 33 [.int .i64 0, .int .i64 0, .int .i64 0, .int .i64 0, .string ⟨#[]⟩] :: l))) → wx.cell? ⟨d.blk, 3, none⟩ = some (.int .i64 (refsE A d.id)) ∧ Hid (MdH w0 w (wx.alloc (.cells #[.int .i64 d.id, .int .i64 2, .int .i64 0, .int .i64 (refsE A d.id), .string text] 33)) (mdR db nb eb A D E next l B wx.heap.size (.int .i64 d.id) (.int .i64 2) (.int .i64 0) (.int .i64 (refsE A d.id)) (.string text) (.int .i64 0) (.int .i64 0) (.int .i64 0) (.int .i64 0) (.string ⟨#[]⟩)))) := fun wx hx => ⟨(df_dn (unhide hx).1 hd).2.2.2.1, df_push (Hold.made (unhide hx).1 (H0.below (unhide hx).1).size 33 [.int .i64 d.id, .int .i64 2, .int .i64 0, .int .i64 (refsE A d.id), .string text]), (unhide hx).2.alloc (unhide hx).2.size _⟩
  have HF : Hid (∀ (wx : World) (C : Nat), Hid (MdH w0 w wx (mdR db nb eb A D E next l B C (.int .i64 d.id) (.int .i64 2) (.int .i64 0) (.int .i64 (refsE A d.id)) (.string text) (.int .i64 0) (.int .i64 0) (.int .i64 0) (.int .i64 0) (.string ⟨#[]⟩))) → wx.cell? ⟨d.blk, 3, none⟩ = some (.int .i64 (refsE A d.id)) ∧ wx.cell? ⟨d.blk, 1, none⟩ = some (.int .i64 0) ∧ _) := fun wx C hx => ⟨(df_dn (unhide hx).1 hd).2.2.2.1, by have := (df_dn (unhide hx).1 hd).2.1; rw [hup] at this; exact this, mdCells hx hd⟩
  obtain ⟨rf, hrf⟩ : ∃ rf, refsE A d.id = rf := ⟨_, rfl⟩
  obtain ⟨st, hst⟩ : ∃ st, toldS (refsE A d.id) = st := ⟨_, rfl⟩
  obtain ⟨tl, htl2⟩ : ∃ tl, d.tail = tl := ⟨_, rfl⟩
  obtain ⟨bd, hbd⟩ : ∃ bd, d.blk = bd := ⟨_, rfl⟩
  obtain ⟨id, hid⟩ : ∃ id, d.id = id := ⟨_, rfl⟩
  rw [hst] at ht hcut
  rw [htl2] at hcut t0 HS HF
  rw [hrf] at ht n0 HS HE HF hr1 hr2 ⊢
  rw [hbd] at k0 t0 n0 HS HE HF ⊢
  rw [hid] at HE HF ⊢
  have HT := hide ht
  have HC := hide hcut
  have hz1 : (0 : Int) < (rf : Int) := by omega
  have hz2 : (text.size : Int) ≤ 20 := by omega
  have hz3 : 0 < rf := by omega
  have hz4 : text.size ≤ 20 := hts
  clear h h1 hd ht hcut hw1 hst htl htl2 hbd hid hrf hkd hup hr1 hr2 hts
  go_enter Tryz.func120, Tryz.ntmps120
  go_wp2_with fail
  go_region_with (((first | (go_at_call 68; refine (unhide HT _).mono ?_; rintro e wy ⟨rfl, hb⟩; obtain ⟨hy, t2, n2⟩ := unhide HS _ _ hb (by first | exact hy | exact HD); clear hb) | (go_at_call 115; refine (unhide HC _).mono ?_; rintro e wz ⟨rfl, hwz⟩; have hwz := hwz.symm; subst hwz))))
  all_goals
    obtain ⟨n5, h5⟩ := unhide HE _ hy
    obtain ⟨n6, u6, hcl⟩ := unhide HF _ _ h5
    obtain ⟨c0, c1, c2, c3, c4, _, e0, e1, e2, e3, e4, f0, f1, f2, f3, f4⟩ := hcl
    have H5 := hide h5
    clear HE HF HS HT HC
    go_wp2_with fail
    generalize wy.alloc (.cells #[.int .i64 id, .int .i64 2, .int .i64 0, .int .i64 rf, .string text] 33) = w7 at *
    go_region
    all_goals
      go_wp2_with fail
      have hz := mdEnd (Nat.le_of_eq hB) H5 (.int .i64 id) (.int .i64 2) (.int .i64 0) (.int .i64 rf) (.string text)
      refine bodyPost_ret (results_five (p := 6) (u := 7) rfl _ _ B _ _ _ _ _ rfl rfl hz.1) rfl ?_
      exact ⟨rfl, Hold.drew hz.2.1, hz.2.2.drew⟩
end Go.Proofs.YtjpmomklkkifjaaGreatDoor.T
