/-
  The contract of made: a node of a draft as a node.
-/
import Derived.Test.YtjpmomklkkifjaaGreatDoorCIRound
import Derived.Test.YtjpmomklkkifjaaGreatDoorCBWalkA
import Derived.Deep.RegionHeld3
import Derived.RegionTactic
namespace Go.Proofs.YtjpmomklkkifjaaGreatDoor.T
open Go.RowKit
set_option maxRecDepth 100000
set_option linter.unusedVariables false
set_option linter.unusedSimpArgs false

def MdH (w0 w9 w : World) (rs : List Res) : Prop := H0 w0 w rs ∧ Below w9.heap.size w9 w
section
variable {w0 w w' w9 : World} {db nb eb : Nat} {D : List DN} {E : List DE} {next : Int} {l : List Res} {A : List (Int × Item)} {B C : Nat} {x0 x1 x2 x3 x4 z0 z1 z2 z3 z4 : Value} {d : DN}
abbrev mdR (db nb eb : Nat) (A : List (Int × Item)) (D : List DN) (E : List DE) (next : Int) (l : List Res) (B C : Nat) (x0 x1 x2 x3 x4 z0 z1 z2 z3 z4 : Value) : List Res := dfR db nb eb (mark A D) E next (.cell C 33 [x0, x1, x2, x3, x4] :: .cell B 33 [z0, z1, z2, z3, z4] :: l)
theorem mdStep (hb : Below w.heap.size w w') (h : Hid (MdH w0 w9 w (mdR db nb eb A D E next l B C x0 x1 x2 x3 x4 z0 z1 z2 z3 z4))) : Hid (MdH w0 w9 w' (mdR db nb eb A D E next l B C x0 x1 x2 x3 x4 z0 z1 z2 z3 z4)) := ⟨H0.step (unhide h).1 hb, (unhide h).2.trans (hb.mono (unhide h).2.size)⟩
theorem mdCells (h : Hid (MdH w0 w9 w (mdR db nb eb A D E next l B C x0 x1 x2 x3 x4 z0 z1 z2 z3 z4))) (hd : d ∈ D) :
    w.cell? ⟨C, 0, none⟩ = some x0 ∧ w.cell? ⟨C, 1, none⟩ = some x1 ∧ w.cell? ⟨C, 2, none⟩ = some x2 ∧ w.cell? ⟨C, 3, none⟩ = some x3 ∧ w.cell? ⟨C, 4, none⟩ = some x4 ∧ w.cell? ⟨d.blk, 2, none⟩ = some (.string d.tail) ∧
    w.cell? ⟨B, 0, none⟩ = some z0 ∧ w.cell? ⟨B, 1, none⟩ = some z1 ∧ w.cell? ⟨B, 2, none⟩ = some z2 ∧ w.cell? ⟨B, 3, none⟩ = some z3 ∧ w.cell? ⟨B, 4, none⟩ = some z4 ∧
    w.frozen? ⟨B, 0, none⟩ = false ∧ w.frozen? ⟨B, 1, none⟩ = false ∧ w.frozen? ⟨B, 2, none⟩ = false ∧ w.frozen? ⟨B, 3, none⟩ = false ∧ w.frozen? ⟨B, 4, none⟩ = false := by
  have H := (unhide h).1
  have hC : Res.cell C 33 [x0, x1, x2, x3, x4] ∈ mdR db nb eb A D E next l B C x0 x1 x2 x3 x4 z0 z1 z2 z3 z4 := by simp [mdR, dfR]
  have hB : Res.cell B 33 [z0, z1, z2, z3, z4] ∈ mdR db nb eb A D E next l B C x0 x1 x2 x3 x4 z0 z1 z2 z3 z4 := by simp [mdR, dfR]
  exact ⟨Hold.cellAt H hC rfl, Hold.cellAt H hC rfl, Hold.cellAt H hC rfl, Hold.cellAt H hC rfl, Hold.cellAt H hC rfl, (df_dn H hd).2.2.1, Hold.cellAt H hB rfl, Hold.cellAt H hB rfl, Hold.cellAt H hB rfl, Hold.cellAt H hB rfl, Hold.cellAt H hB rfl, Hold.frozenAt H hB _, Hold.frozenAt H hB _, Hold.frozenAt H hB _, Hold.frozenAt H hB _, Hold.frozenAt H hB _⟩
theorem mdEnd (hB9 : w9.heap.size ≤ B) (h : Hid (MdH w0 w9 w (mdR db nb eb A D E next l B C x0 x1 x2 x3 x4 z0 z1 z2 z3 z4))) (y0 y1 y2 y3 y4 : Value) :
    (((((w.setCell ⟨B, 0, none⟩ y0).setCell ⟨B, 1, none⟩ y1).setCell ⟨B, 2, none⟩ y2).setCell ⟨B, 3, none⟩ y3).setCell ⟨B, 4, none⟩ y4).heap[B]? = some (.cells #[y0, y1, y2, y3, y4] 33 (0, 0)) ∧
    H0 w0 (((((w.setCell ⟨B, 0, none⟩ y0).setCell ⟨B, 1, none⟩ y1).setCell ⟨B, 2, none⟩ y2).setCell ⟨B, 3, none⟩ y3).setCell ⟨B, 4, none⟩ y4) (dfR db nb eb (mark A D) E next l) ∧ Below w9.heap.size w9 (((((w.setCell ⟨B, 0, none⟩ y0).setCell ⟨B, 1, none⟩ y1).setCell ⟨B, 2, none⟩ y2).setCell ⟨B, 3, none⟩ y3).setCell ⟨B, 4, none⟩ y4) := by
  have H := df_pop' (df_pop (unhide h).1)
  have H1 := Hold.store [] H 0 y0 [y0, z1, z2, z3, z4] rfl
  have H2 := Hold.store [] H1 1 y1 [y0, y1, z2, z3, z4] rfl
  have H3 := Hold.store [] H2 2 y2 [y0, y1, y2, z3, z4] rfl
  have H4 := Hold.store [] H3 3 y3 [y0, y1, y2, y3, z4] rfl
  have H5 := Hold.store [] H4 4 y4 [y0, y1, y2, y3, y4] rfl
  exact ⟨(Hold.sat H5 (.cell B 33 [y0, y1, y2, y3, y4]) (by simp)).2, Hold.conv H5 (fun x => by simp only [List.nil_append, total_cons]; omega) fun q hq => Hold.sat H5 q (by simp [hq]), (((((unhide h).2.setCell hB9 y0).setCell hB9 y1).setCell hB9 y2).setCell hB9 y3).setCell hB9 y4⟩
end

variable {w0 w w' : World} {db nb eb : Nat} {D : List DN} {E : List DE} {next : Int} {l : List Res} {A : List (Int × Item)}
set_option maxHeartbeats 16000000 in
theorem made_folder (h : H0 w0 w (dfR db nb eb (mark A D) E next l)) (d : DN) (hd : d ∈ D) (hkd : d.kind = ⟨#[100]⟩) (htl : d.tail = toldS 1)
    (hh : ∀ wx lx, H0 w0 wx (dfR db nb eb (mark A D) E next lx) → Calls Tryz.prog 169 #[.pointer (some ⟨db, 0, none⟩), .int .i64 d.id] wx fun e w' => e = .returned (.bool true) ∧ Below wx.heap.size wx w') :
    Calls Tryz.prog 120 #[.pointer (some ⟨db, 0, none⟩), .int .i64 d.id, .pointer (some ⟨d.blk, 0, none⟩)] w fun e w' => e = .returned (.tuple #[.agg #[.int .i64 d.id, .int .i64 1, .int .i64 d.up, .int .i64 1, .string ⟨#[]⟩], .bool true]) ∧ H0 w0 w' (dfR db nb eb (mark A D) E next l) ∧ Below w.heap.size w w' := by
  have ht : ∀ wx, Calls Tryz.prog 68 #[.int .i64 1] wx fun e w' => e = .returned (.string (toldS 1)) ∧ Below wx.heap.size wx w' := fun wx => told_calls 1 (by decide) wx
  obtain ⟨B, hB⟩ : ∃ B, w.heap.size = B := ⟨_, rfl⟩
  have h1 := df_push (Hold.made h (H0.below h).size 33 [.int .i64 0, .int .i64 0, .int .i64 0, .int .i64 0, .string ⟨#[]⟩])
  have hz : (w.alloc (.cells [.int .i64 0, .int .i64 0, .int .i64 0, .int .i64 0, .string ⟨#[]⟩].toArray 33)).heap.size = B + 1 := by rw [World.size_alloc, hB]
  have h2 := df_push (Hold.made h1 (H0.below h1).size 33 [.int .i64 d.id, .int .i64 1, .int .i64 d.up, .int .i64 1, .string ⟨#[]⟩])
  rw [hz, hB] at h2
  obtain ⟨w2, hw2⟩ : ∃ w2, (w.alloc (.cells [.int .i64 0, .int .i64 0, .int .i64 0, .int .i64 0, .string ⟨#[]⟩].toArray 33)).alloc (.cells [.int .i64 d.id, .int .i64 1, .int .i64 d.up, .int .i64 1, .string ⟨#[]⟩].toArray 33) = w2 := ⟨_, rfl⟩
  have hbw : Below w.heap.size w w2 := by
    rw [← hw2]
    exact ((Below.refl _ w).alloc (Nat.le_refl _) _).alloc (by rw [World.size_alloc]; omega) _
  rw [hw2] at h2
  have hdn := df_dn h hd
  have k0 := hdn.1
  have k1 := hdn.2.1
  rw [hkd] at k0
  have HH : Hid (MdH w0 w w2 (mdR db nb eb A D E next l B (B + 1) (.int .i64 d.id) (.int .i64 1) (.int .i64 d.up) (.int .i64 1) (.string ⟨#[]⟩) (.int .i64 0) (.int .i64 0) (.int .i64 0) (.int .i64 0) (.string ⟨#[]⟩))) := ⟨h2, hbw⟩
  have HD : Hid (MdH w0 w w2.drew (mdR db nb eb A D E next l B (B + 1) (.int .i64 d.id) (.int .i64 1) (.int .i64 d.up) (.int .i64 1) (.string ⟨#[]⟩) (.int .i64 0) (.int .i64 0) (.int .i64 0) (.int .i64 0) (.string ⟨#[]⟩))) := ⟨Hold.drew h2, hbw.drew⟩
  have hcl := mdCells HH hd
  have hCm : Res.cell (B + 1) 33 [.int .i64 d.id, .int .i64 1, .int .i64 d.up, .int .i64 1, .string ⟨#[]⟩] ∈ mdR db nb eb A D E next l B (B + 1) (.int .i64 d.id) (.int .i64 1) (.int .i64 d.up) (.int .i64 1) (.string ⟨#[]⟩) (.int .i64 0) (.int .i64 0) (.int .i64 0) (.int .i64 0) (.string ⟨#[]⟩) := by simp [mdR, dfR]
  have q0 := Hold.frozenAt h2 hCm 0
  have q1 := Hold.frozenAt h2 hCm 1
  have q2 := Hold.frozenAt h2 hCm 2
  have q3 := Hold.frozenAt h2 hCm 3
  have q4 := Hold.frozenAt h2 hCm 4
  rw [htl] at hcl
  have HST := fun (wx wy : World) (hb : Below wx.heap.size wx wy) (h : Hid (MdH w0 w wx (mdR db nb eb A D E next l B (B + 1) (.int .i64 d.id) (.int .i64 1) (.int .i64 d.up) (.int .i64 1) (.string ⟨#[]⟩) (.int .i64 0) (.int .i64 0) (.int .i64 0) (.int .i64 0) (.string ⟨#[]⟩)))) => (⟨mdStep hb h, mdCells (mdStep hb h) hd⟩ : _ ∧ _)
  rw [htl] at HST
  have HHg : Hid (∀ wx, Hid (MdH w0 w wx (mdR db nb eb A D E next l B (B + 1) (.int .i64 d.id) (.int .i64 1) (.int .i64 d.up) (.int .i64 1) (.string ⟨#[]⟩) (.int .i64 0) (.int .i64 0) (.int .i64 0) (.int .i64 0) (.string ⟨#[]⟩))) → Calls Tryz.prog 169 #[.pointer (some ⟨db, 0, none⟩), .int .i64 d.id] wx fun e w' => e = .returned (.bool true) ∧ Below wx.heap.size wx w') := fun wx hx => hh wx _ (unhide hx).1
  obtain ⟨s1, hs1⟩ : ∃ s1, toldS 1 = s1 := ⟨_, rfl⟩
  rw [hs1] at ht hcl HST
  have HT := hide ht
  obtain ⟨bd, hbd⟩ : ∃ bd, d.blk = bd := ⟨_, rfl⟩
  obtain ⟨id, hid⟩ : ∃ id, d.id = id := ⟨_, rfl⟩
  obtain ⟨up, hup⟩ : ∃ up, d.up = up := ⟨_, rfl⟩
  rw [hbd] at k0 k1 hcl HST ⊢
  rw [hid] at HH HD hcl HST HHg hw2 ⊢
  rw [hup] at k1 HH HD hcl HST HHg hw2 ⊢
  obtain ⟨c0, c1, c2, c3, c4, t0, e0, e1, e2, e3, e4, f0, f1, f2, f3, f4⟩ := hcl
  have hkk : (s1.toList == s1.toList) = true := by simp
  have HS := hide HST
  clear HST
  have k0a : ∀ o, (w.alloc o).cell? ⟨bd, 0, none⟩ = some (.string ⟨#[100]⟩) := fun o => Lib.cell?_alloc_some o k0
  have k1a : ∀ o, (w.alloc o).cell? ⟨bd, 1, none⟩ = some (.int .i64 up) := fun o => Lib.cell?_alloc_some o k1
  have HW2 : Hid ((w.alloc (.cells #[.int .i64 0, .int .i64 0, .int .i64 0, .int .i64 0, .string ⟨#[]⟩] 33)).alloc (.cells #[.int .i64 id, .int .i64 1, .int .i64 up, .int .i64 1, .string ⟨#[]⟩] 33) = w2) := hw2
  clear hw2 q0 q1 q2 q3 q4 hCm h h1 h2 hz hdn hd hh hs1 htl hkd ht hbd hid hup
  go_enter Tryz.func120, Tryz.ntmps120
  go_wp2_with fail
  rw [unhide HW2]
  go_region_with (((first | (go_at_call 68; refine (unhide HT _).mono ?_) | (go_at_call 169; refine (unhide HHg _ (by first | exact hy | exact HD)).mono ?_)); rintro e wy ⟨rfl, hb⟩; obtain ⟨hy, b0, b1, b2, b3, b4, t2, g0, g1, g2, g3, g4, h0, h1, h2, h3, h4⟩ := unhide HS _ _ hb (by first | exact hy | exact HD); clear hb))
  all_goals
    go_wp2_with fail
    refine bodyPost_ret (results_five (p := 6) (u := 7) rfl _ _ B _ _ _ _ _ rfl rfl (mdEnd (Nat.le_of_eq hB) hy _ _ _ _ _).1) rfl ?_
    exact ⟨rfl, (mdEnd (Nat.le_of_eq hB) hy _ _ _ _ _).2⟩
end Go.Proofs.YtjpmomklkkifjaaGreatDoor.T
