import Derived.Test.YtjpmomklkkifjaaGreatDoorCIMadeF
import Derived.Test.YtjpmomklkkifjaaGreatDoorCJCut
import Derived.BigRegion
set_option maxRecDepth 100000
set_option linter.unusedVariables false
set_option linter.unusedSimpArgs false
namespace Go.Proofs.YtjpmomklkkifjaaGreatDoor.T.J
open Go.RowKit
def MdOk (A : List (Int × Item)) (d : DN) (u : NV) : Prop := u.id = d.id ∧ ((u.kind = 1 ∧ u.up = d.up ∧ u.links = 1 ∧ u.text = ⟨#[]⟩ ∧ d.kind = ⟨#[100]⟩ ∧ (d.id = 1 ∨ Once A d)) ∨ (u.kind = 2 ∧ u.up = 0 ∧ u.links = (refsE A d.id : Int) ∧ 0 < refsE A d.id ∧ u.text.size ≤ 20 ∧ d.kind ≠ ⟨#[100]⟩))
def MdEnd (w0 w9 : World) (rs : List Res) (A : List (Int × Item)) (d : DN) (e : Ending) (w' : World) : Prop :=
  ∃ (u : NV) (r : Bool), e = .returned (.tuple #[.agg #[.int .i64 u.id, .int .i64 u.kind, .int .i64 u.up, .int .i64 u.links, .string u.text], .bool r]) ∧ (r = true → MdOk A d u) ∧ H0 w0 w' rs ∧ Below w9.heap.size w9 w'
variable {w0 w w' : World} {db nb eb : Nat} {D : List DN} {E : List DE} {next : Int} {l : List Res} {A : List (Int × Item)}
set_option maxHeartbeats 16000000 in
theorem made_dir (hR : Ready8 w0) (h : H0 w0 w (dfR db nb eb (mark A D) E next l)) (d : DN) (hd : d ∈ D) (hkd : d.kind = ⟨#[100]⟩) (htl : d.tail = toldS 1)
    (hh : ∀ wx lx, H0 w0 wx (dfR db nb eb (mark A D) E next lx) → Calls Tryz.prog 169 #[.pointer (some ⟨db, 0, none⟩), .int .i64 d.id] wx fun e w' => ∃ r : Bool, e = .returned (.bool r) ∧ (r = true → d.id = 1 ∨ Once A d) ∧ Below wx.heap.size wx w') :
    Calls Tryz.prog 120 #[.pointer (some ⟨db, 0, none⟩), .int .i64 d.id, .pointer (some ⟨d.blk, 0, none⟩)] w (MdEnd w0 w (dfR db nb eb (mark A D) E next l) A d) := by
  obtain ⟨B, hB⟩ : ∃ B, w.heap.size = B := ⟨_, rfl⟩
  have ht : ∀ wx, Hid (MdH w0 w wx (mdR db nb eb A D E next l B (B + 1) (.int .i64 d.id) (.int .i64 1) (.int .i64 d.up) (.int .i64 1) (.string ⟨#[]⟩) (.int .i64 0) (.int .i64 0) (.int .i64 0) (.int .i64 0) (.string ⟨#[]⟩))) → Calls Tryz.prog 68 #[.int .i64 1] wx fun e w' => e = .returned (.string (toldS 1)) ∧ Below wx.heap.size wx w' := fun wx hx => by
    have := told_calls 1 (by decide) wx (hR.later (H0.below (unhide hx).1))
    exact this
  have h1 := df_push (Hold.made h (H0.below h).size 33 [.int .i64 0, .int .i64 0, .int .i64 0, .int .i64 0, .string ⟨#[]⟩])
  have hz : (w.alloc (.cells [.int .i64 0, .int .i64 0, .int .i64 0, .int .i64 0, .string ⟨#[]⟩].toArray 33)).heap.size = B + 1 := by rw [World.size_alloc, hB]
  have h2 := df_push (Hold.made h1 (H0.below h1).size 33 [.int .i64 d.id, .int .i64 1, .int .i64 d.up, .int .i64 1, .string ⟨#[]⟩])
  rw [hz, hB] at h2
  obtain ⟨w2, hw2⟩ : ∃ w2, (w.alloc (.cells [.int .i64 0, .int .i64 0, .int .i64 0, .int .i64 0, .string ⟨#[]⟩].toArray 33)).alloc (.cells [.int .i64 d.id, .int .i64 1, .int .i64 d.up, .int .i64 1, .string ⟨#[]⟩].toArray 33) = w2 := ⟨_, rfl⟩
  have hbw : Below w.heap.size w w2 := by
    rw [← hw2]
    exact ((Below.refl _ w).alloc (Nat.le_refl _) _).alloc (by rw [World.size_alloc]; omega) _
  rw [hw2] at h2
  have hdn := df_dn h hd
  have k0 := hdn.1
  have k1 := hdn.2.1
  rw [hkd] at k0
  have HH : Hid (MdH w0 w w2 (mdR db nb eb A D E next l B (B + 1) (.int .i64 d.id) (.int .i64 1) (.int .i64 d.up) (.int .i64 1) (.string ⟨#[]⟩) (.int .i64 0) (.int .i64 0) (.int .i64 0) (.int .i64 0) (.string ⟨#[]⟩))) := ⟨h2, hbw⟩
  have HD : Hid (MdH w0 w w2.drew (mdR db nb eb A D E next l B (B + 1) (.int .i64 d.id) (.int .i64 1) (.int .i64 d.up) (.int .i64 1) (.string ⟨#[]⟩) (.int .i64 0) (.int .i64 0) (.int .i64 0) (.int .i64 0) (.string ⟨#[]⟩))) := ⟨Hold.drew h2, hbw.drew⟩
  have hcl := mdCells HH hd
  have hCm : Res.cell (B + 1) 33 [.int .i64 d.id, .int .i64 1, .int .i64 d.up, .int .i64 1, .string ⟨#[]⟩] ∈ mdR db nb eb A D E next l B (B + 1) (.int .i64 d.id) (.int .i64 1) (.int .i64 d.up) (.int .i64 1) (.string ⟨#[]⟩) (.int .i64 0) (.int .i64 0) (.int .i64 0) (.int .i64 0) (.string ⟨#[]⟩) := by simp [mdR, dfR]
  have q0 := Hold.frozenAt h2 hCm 0
  have q1 := Hold.frozenAt h2 hCm 1
  have q2 := Hold.frozenAt h2 hCm 2
  have q3 := Hold.frozenAt h2 hCm 3
  have q4 := Hold.frozenAt h2 hCm 4
  rw [htl] at hcl
  have HST := fun (wx wy : World) (hb : Below wx.heap.size wx wy) (h : Hid (MdH w0 w wx (mdR db nb eb A D E next l B (B + 1) (.int .i64 d.id) (.int .i64 1) (.int .i64 d.up) (.int .i64 1) (.string ⟨#[]⟩) (.int .i64 0) (.int .i64 0) (.int .i64 0) (.int .i64 0) (.string ⟨#[]⟩)))) => (⟨mdStep hb h, mdCells (mdStep hb h) hd⟩ : _ ∧ _)
  rw [htl] at HST
  have HHg : Hid (∀ wx, Hid (MdH w0 w wx (mdR db nb eb A D E next l B (B + 1) (.int .i64 d.id) (.int .i64 1) (.int .i64 d.up) (.int .i64 1) (.string ⟨#[]⟩) (.int .i64 0) (.int .i64 0) (.int .i64 0) (.int .i64 0) (.string ⟨#[]⟩))) → Calls Tryz.prog 169 #[.pointer (some ⟨db, 0, none⟩), .int .i64 d.id] wx fun e w' => ∃ r : Bool, e = .returned (.bool r) ∧ (r = true → MdOk A d ⟨d.id, 1, d.up, 1, ⟨#[]⟩, none⟩) ∧ Below wx.heap.size wx w') := fun wx hx => (hh wx _ (unhide hx).1).mono fun e w' ⟨r, he, hr, hb⟩ => ⟨r, he, fun h => ⟨rfl, .inl ⟨rfl, rfl, rfl, rfl, hkd, hr h⟩⟩, hb⟩
  obtain ⟨s1, hs1⟩ : ∃ s1, toldS 1 = s1 := ⟨_, rfl⟩
  rw [hs1] at ht hcl HST
  obtain ⟨OK, hOK⟩ : ∃ OK : Prop, MdOk A d ⟨d.id, 1, d.up, 1, ⟨#[]⟩, none⟩ = OK := ⟨_, rfl⟩
  rw [hOK] at HHg
  have HOK : Hid (OK → MdOk A d ⟨d.id, 1, d.up, 1, ⟨#[]⟩, none⟩) := fun h => by rw [hOK]; exact h
  clear hOK
  obtain ⟨bd, hbd⟩ : ∃ bd, d.blk = bd := ⟨_, rfl⟩
  obtain ⟨id, hid⟩ : ∃ id, d.id = id := ⟨_, rfl⟩
  obtain ⟨up, hup⟩ : ∃ up, d.up = up := ⟨_, rfl⟩
  rw [hbd] at k0 k1 hcl HST ⊢
  rw [hid] at HH HD hcl HST HHg hw2 ht HOK ⊢
  rw [hup] at k1 HH HD hcl HST HHg hw2 ht HOK
  obtain ⟨c0, c1, c2, c3, c4, t0, e0, e1, e2, e3, e4, f0, f1, f2, f3, f4⟩ := hcl
  have hkk : (s1.toList == s1.toList) = true := by simp
  have HT := hide ht
  have HS := hide HST
  clear HST
  have k0a : ∀ o, (w.alloc o).cell? ⟨bd, 0, none⟩ = some (.string ⟨#[100]⟩) := fun o => Lib.cell?_alloc_some o k0
  have k1a : ∀ o, (w.alloc o).cell? ⟨bd, 1, none⟩ = some (.int .i64 up) := fun o => Lib.cell?_alloc_some o k1
  have HW2 : Hid ((w.alloc (.cells #[.int .i64 0, .int .i64 0, .int .i64 0, .int .i64 0, .string ⟨#[]⟩] 33)).alloc (.cells #[.int .i64 id, .int .i64 1, .int .i64 up, .int .i64 1, .string ⟨#[]⟩] 33) = w2) := hw2
  clear hw2 q0 q1 q2 q3 q4 hCm h h1 h2 hz hdn hd hh hs1 htl hkd ht hbd hid hup hR
  go_enter Tryz.func120, Tryz.ntmps120
  go_wp2_with fail
  rw [unhide HW2]
  go_region_with (((first | (go_at_call 68; refine (unhide HT _ (by first | exact hy | exact HD)).mono ?_; rintro e wy ⟨rfl, hb⟩) | (go_at_call 169; refine (unhide HHg _ (by first | exact hy | exact HD)).mono ?_; rintro e wy ⟨r, rfl, hr, hb⟩; have Hr := hide hr; clear hr)); obtain ⟨hy, b0, b1, b2, b3, b4, t2, g0, g1, g2, g3, g4, h0, h1, h2, h3, h4⟩ := unhide HS _ _ hb (by first | exact hy | exact HD); clear hb))
  all_goals
    go_wp2_with fail
    refine bodyPost_ret (results_five (p := 6) (u := 7) rfl _ _ B _ _ _ _ _ rfl rfl (mdEnd (Nat.le_of_eq hB) hy _ _ _ _ _).1) rfl ?_
    exact ⟨⟨id, 1, up, 1, ⟨#[]⟩, none⟩, r, rfl, fun h => unhide HOK (unhide Hr h), (mdEnd (Nat.le_of_eq hB) hy _ _ _ _ _).2⟩
end Go.Proofs.YtjpmomklkkifjaaGreatDoor.T.J
