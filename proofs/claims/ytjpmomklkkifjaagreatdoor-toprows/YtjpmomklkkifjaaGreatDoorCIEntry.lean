/-
  The contract of image.entryRow: an entry as a row.
-/
import Derived.Test.YtjpmomklkkifjaaGreatDoorCBCopied
import Derived.Test.YtjpmomklkkifjaaGreatDoorCFWalk
import Derived.RegionTactic
import Derived.Deep.RegionHeld3
namespace Go.Proofs.YtjpmomklkkifjaaGreatDoor.T
open Go.RowKit
set_option maxRecDepth 100000
set_option linter.unusedVariables false
set_option linter.unusedSimpArgs false

section
variable {W w w' : World} {B : Nat} {a b c n0 d0 : Value}
abbrev rowX (B : Nat) (a b c n0 d0 : Value) : List Res := [.cell (B + 1) 69 [a, b, c], .cell B 38 [n0, d0]]
theorem xStep (hb : Below w.heap.size w w') (h : Hid (H0 W w (rowX B a b c n0 d0))) : Hid (H0 W w' (rowX B a b c n0 d0)) := H0.step (unhide h) hb
theorem xCells (h : Hid (H0 W w (rowX B a b c n0 d0))) : w.cell? ⟨B, 0, none⟩ = some n0 ∧ w.cell? ⟨B, 1, none⟩ = some d0 ∧
    w.cell? ⟨B + 1, 0, none⟩ = some a ∧ w.cell? ⟨B + 1, 1, none⟩ = some b ∧ w.cell? ⟨B + 1, 2, none⟩ = some c ∧ w.frozen? ⟨B + 1, 0, none⟩ = false ∧ w.frozen? ⟨B + 1, 1, none⟩ = false ∧ w.frozen? ⟨B + 1, 2, none⟩ = false := by
  have H : H0 W w (rowX B a b c n0 d0) := unhide h
  have h38 : Res.cell B 38 [n0, d0] ∈ rowX B a b c n0 d0 := by simp
  have h69 : Res.cell (B + 1) 69 [a, b, c] ∈ rowX B a b c n0 d0 := by simp
  exact ⟨Hold.cellAt H h38 rfl, Hold.cellAt H h38 rfl, Hold.cellAt H h69 rfl, Hold.cellAt H h69 rfl, Hold.cellAt H h69 rfl, Hold.frozenAt H h69 _, Hold.frozenAt H h69 _, Hold.frozenAt H h69 _⟩
theorem xEnd (x y z : Value) (h : Hid (H0 W w (rowX B a b c n0 d0))) :
    (((w.setCell ⟨B + 1, 0, none⟩ x).setCell ⟨B + 1, 1, none⟩ y).setCell ⟨B + 1, 2, none⟩ z).heap[B + 1]? = some (.cells #[x, y, z] 69 (0, 0)) ∧ Below W.heap.size W (((w.setCell ⟨B + 1, 0, none⟩ x).setCell ⟨B + 1, 1, none⟩ y).setCell ⟨B + 1, 2, none⟩ z) := by
  have H : H0 W w (rowX B a b c n0 d0) := unhide h
  have H1 := Hold.store [] H 0 x [x, b, c] rfl
  have H2 := Hold.store [] H1 1 y [x, y, c] rfl
  have H3 := Hold.store [] H2 2 z [x, y, z] rfl
  exact ⟨(Hold.sat H3 (.cell (B + 1) 69 [x, y, z]) (by simp)).2, H0.below H3⟩
end

set_option maxHeartbeats 16000000 in
theorem entryRow_calls (i d : Nat) (nm : ByteArray) (hi : i < 100) (hd : d < 100) (hc : checkP nm = none) (hk : (keyS nm).size ≤ 100000) (hn : nm.size ≤ 100000) (W : World) (hR : Ready W) :
    Calls Tryz.prog 70 #[.int .i64 i, .agg #[.string nm, .int .i64 d]] W fun e w' =>
      e = .returned (.agg #[.string ((⟨#[101]⟩ ++ toldS i) ++ keyS nm), .string (toldS d ++ nm), .bool false]) ∧ Below W.heap.size W w' := by
  obtain ⟨sa, hsa⟩ : ∃ sa, toldS i = sa := ⟨_, rfl⟩
  obtain ⟨sb, hsb⟩ : ∃ sb, toldS d = sb := ⟨_, rfl⟩
  obtain ⟨sk, hsk⟩ : ∃ sk, keyS nm = sk := ⟨_, rfl⟩
  obtain ⟨B, hB⟩ : ∃ B, W.heap.size = B := ⟨_, rfl⟩
  have T1 : ∀ wx, Calls Tryz.prog 68 #[.int .i64 i] wx fun e w' => e = .returned (.string sa) ∧ Below wx.heap.size wx w' := fun wx => by rw [← hsa]; exact told_calls i hi wx
  have T2 : ∀ wx, Calls Tryz.prog 68 #[.int .i64 d] wx fun e w' => e = .returned (.string sb) ∧ Below wx.heap.size wx w' := fun wx => by rw [← hsb]; exact told_calls d hd wx
  have T3 : ∀ wx, Hid (H0 W wx (rowX B (.string ⟨#[]⟩) (.string ⟨#[]⟩) (.bool false) (.string nm) (.int .i64 d))) → Calls Tryz.prog 54 #[.string nm] wx fun e w' => e = .returned (.string sk) ∧ Below wx.heap.size wx w' := fun wx h => by rw [← hsk]; exact key_calls hc wx (hR.later (H0.below (unhide h)))
  have HT1 := hide T1
  have HT2 := hide T2
  have HT3 := hide T3
  have a1 : sa.size = 3 := by rw [← hsa]; exact told_size hi
  have a2 : sb.size = 3 := by rw [← hsb]; exact told_size hd
  have k1 : ByteArray.size ⟨#[101]⟩ = 1 := rfl
  have a4 : ((⟨#[101]⟩ : ByteArray) ++ sa).size = 4 := by rw [ByteArray.size_append, a1]; rfl
  have a5 : ¬ 9223372036854775807 < 4 + sk.size := by rw [hsk] at hk; omega
  have a6 : ¬ 9223372036854775807 < 3 + nm.size := by omega
  rw [hsa, hsb, hsk]
  clear T1 T2 T3 hsa hsb hsk
  have h1 := Hold.made (Hold.made (H0.start W) (Nat.le_refl _) 38 [.string nm, .int .i64 d]) (by simp) 69 [.string ⟨#[]⟩, .string ⟨#[]⟩, .bool false]
  rw [World.size_alloc] at h1
  obtain ⟨w1, hw1⟩ : ∃ w1, (W.alloc (.cells [.string nm, .int .i64 d].toArray 38)).alloc (.cells [.string ⟨#[]⟩, .string ⟨#[]⟩, .bool false].toArray 69) = w1 := ⟨_, rfl⟩
  rw [hw1] at h1
  have HH : Hid (H0 W w1 (rowX B (.string ⟨#[]⟩) (.string ⟨#[]⟩) (.bool false) (.string nm) (.int .i64 d))) := by rw [← hB]; exact hide h1
  have HD : Hid (H0 W w1.drew (rowX B (.string ⟨#[]⟩) (.string ⟨#[]⟩) (.bool false) (.string nm) (.int .i64 d))) := by rw [← hB]; exact hide (Hold.drew h1)
  obtain ⟨c0, c1, d0, d1, d2, f0, f1, f2⟩ := xCells HH
  have HST := fun (wx wy : World) (hb : Below wx.heap.size wx wy) (h : Hid (H0 W wx (rowX B (.string ⟨#[]⟩) (.string ⟨#[]⟩) (.bool false) (.string nm) (.int .i64 d)))) => (⟨xStep hb h, xCells (xStep hb h)⟩ : _ ∧ _)
  clear h1 hi hd hc hk hn hR
  go_enter Tryz.func70, Tryz.ntmps70
  go_wp2_with fail
  go_region_held3 (fun w' => w'.cell? ⟨B, 0, none⟩ = some (.string nm) ∧ w'.cell? ⟨B, 1, none⟩ = some (.int .i64 d)) (first | exact ⟨by assumption, by assumption⟩ | go_keep) (((first | (go_at_call_of 68 i; refine (unhide HT1 _).mono ?_) | (go_at_call_of 68 d; refine (unhide HT2 _).mono ?_) | (go_at_call 54; refine (unhide HT3 _ (by assumption)).mono ?_)); rintro e wy ⟨rfl, hb⟩; obtain ⟨hy, b0, b1, e0, e1, e2, g0, g1, g2⟩ := HST _ _ hb (by assumption); clear hb))
  all_goals
    go_wp2_with fail
    refine bodyPost_ret (results_cell_row (p := 4) rfl _ _ (B + 1) _ _ (0, 0) _ rfl (xEnd _ _ _ (by assumption)).1 Tryz.underlying69 rfl (by kernel_rfl)) rfl ?_
    exact ⟨rfl, (xEnd _ _ _ (by assumption)).2⟩
end Go.Proofs.YtjpmomklkkifjaaGreatDoor.T
