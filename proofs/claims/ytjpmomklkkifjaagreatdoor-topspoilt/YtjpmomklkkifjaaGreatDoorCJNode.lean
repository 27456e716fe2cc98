import Derived.Test.YtjpmomklkkifjaaGreatDoorCJCut
import Derived.Test.YtjpmomklkkifjaaGreatDoorCFFrame
import Derived.RegionTactic
import Derived.Deep.RegionHeld3
set_option maxRecDepth 100000
set_option linter.unusedVariables false
set_option linter.unusedSimpArgs false
namespace Go.Proofs.YtjpmomklkkifjaaGreatDoor.T.J
open Go.RowKit
section
variable {W w w' : World} {B : Nat} {a b c i0 k0 p0 l0 t0 : Value}
abbrev rowR (B : Nat) (a b c i0 k0 p0 l0 t0 : Value) : List Res := [.cell (B + 1) 69 [a, b, c], .cell B 33 [i0, k0, p0, l0, t0]]
theorem rowStep (hb : Below w.heap.size w w') (h : Hid (H0 W w (rowR B a b c i0 k0 p0 l0 t0))) : Hid (H0 W w' (rowR B a b c i0 k0 p0 l0 t0)) := H0.step (unhide h) hb
theorem rowCells (h : Hid (H0 W w (rowR B a b c i0 k0 p0 l0 t0))) : w.cell? ⟨B, 0, none⟩ = some i0 ∧ w.cell? ⟨B, 1, none⟩ = some k0 ∧ w.cell? ⟨B, 2, none⟩ = some p0 ∧ w.cell? ⟨B, 3, none⟩ = some l0 ∧ w.cell? ⟨B, 4, none⟩ = some t0 ∧
    w.cell? ⟨B + 1, 0, none⟩ = some a ∧ w.cell? ⟨B + 1, 1, none⟩ = some b ∧ w.cell? ⟨B + 1, 2, none⟩ = some c ∧ w.frozen? ⟨B + 1, 0, none⟩ = false ∧ w.frozen? ⟨B + 1, 1, none⟩ = false ∧ w.frozen? ⟨B + 1, 2, none⟩ = false := by
  have H : H0 W w (rowR B a b c i0 k0 p0 l0 t0) := unhide h
  have h33 : Res.cell B 33 [i0, k0, p0, l0, t0] ∈ rowR B a b c i0 k0 p0 l0 t0 := by simp
  have h69 : Res.cell (B + 1) 69 [a, b, c] ∈ rowR B a b c i0 k0 p0 l0 t0 := by simp
  exact ⟨Hold.cellAt H h33 rfl, Hold.cellAt H h33 rfl, Hold.cellAt H h33 rfl, Hold.cellAt H h33 rfl, Hold.cellAt H h33 rfl, Hold.cellAt H h69 rfl, Hold.cellAt H h69 rfl, Hold.cellAt H h69 rfl, Hold.frozenAt H h69 _, Hold.frozenAt H h69 _, Hold.frozenAt H h69 _⟩
theorem rowEnd (x y z : Value) (h : Hid (H0 W w (rowR B a b c i0 k0 p0 l0 t0))) :
    (((w.setCell ⟨B + 1, 0, none⟩ x).setCell ⟨B + 1, 1, none⟩ y).setCell ⟨B + 1, 2, none⟩ z).heap[B + 1]? = some (.cells #[x, y, z] 69 (0, 0)) ∧ Below W.heap.size W (((w.setCell ⟨B + 1, 0, none⟩ x).setCell ⟨B + 1, 1, none⟩ y).setCell ⟨B + 1, 2, none⟩ z) := by
  have H : H0 W w (rowR B a b c i0 k0 p0 l0 t0) := unhide h
  have H1 := Hold.store [] H 0 x [x, b, c] rfl
  have H2 := Hold.store [] H1 1 y [x, y, c] rfl
  have H3 := Hold.store [] H2 2 z [x, y, z] rfl
  exact ⟨(Hold.sat H3 (.cell (B + 1) 69 [x, y, z]) (by simp)).2, H0.below H3⟩
end
set_option maxHeartbeats 16000000 in
theorem nodeRow_calls (i : Nat) (k : Int) (p l : Nat) (text : ByteArray) (hi : i < 1000) (hp : p < 1000) (hl : l < 1000) (ht : text.size ≤ 100000) (W : World) (hR : Ready8 W) :
    Calls Tryz.prog 69 #[.agg #[.int .i64 i, .int .i64 k, .int .i64 p, .int .i64 l, .string text]] W fun e w' =>
      e = .returned (.agg #[.string (⟨#[110]⟩ ++ toldS i), .string (((⟨#[if k = 1 then 100 else 102]⟩ ++ toldS p) ++ toldS l) ++ text), .bool false]) ∧ Below W.heap.size W w' := by
  obtain ⟨sa, hsa⟩ : ∃ sa, toldS i = sa := ⟨_, rfl⟩
  obtain ⟨sb, hsb⟩ : ∃ sb, toldS p = sb := ⟨_, rfl⟩
  obtain ⟨sc, hsc⟩ : ∃ sc, toldS l = sc := ⟨_, rfl⟩
  obtain ⟨B, hB⟩ : ∃ B, W.heap.size = B := ⟨_, rfl⟩
  have T1 : ∀ wx, Hid (H0 W wx (rowR B (.string ⟨#[]⟩) (.string ⟨#[]⟩) (.bool false) (.int .i64 i) (.int .i64 k) (.int .i64 p) (.int .i64 l) (.string text))) → Calls Tryz.prog 68 #[.int .i64 i] wx fun e w' => e = .returned (.string sa) ∧ Below wx.heap.size wx w' := fun wx hx => by rw [← hsa]; exact told_calls i (by omega) wx (hR.later (H0.below (unhide hx)))
  have T2 : ∀ wx, Hid (H0 W wx (rowR B (.string ⟨#[]⟩) (.string ⟨#[]⟩) (.bool false) (.int .i64 i) (.int .i64 k) (.int .i64 p) (.int .i64 l) (.string text))) → Calls Tryz.prog 68 #[.int .i64 p] wx fun e w' => e = .returned (.string sb) ∧ Below wx.heap.size wx w' := fun wx hx => by rw [← hsb]; exact told_calls p (by omega) wx (hR.later (H0.below (unhide hx)))
  have T3 : ∀ wx, Hid (H0 W wx (rowR B (.string ⟨#[]⟩) (.string ⟨#[]⟩) (.bool false) (.int .i64 i) (.int .i64 k) (.int .i64 p) (.int .i64 l) (.string text))) → Calls Tryz.prog 68 #[.int .i64 l] wx fun e w' => e = .returned (.string sc) ∧ Below wx.heap.size wx w' := fun wx hx => by rw [← hsc]; exact told_calls l (by omega) wx (hR.later (H0.below (unhide hx)))
  have HT1 := hide T1
  have HT2 := hide T2
  have HT3 := hide T3
  have a1 : sa.size = 3 := by rw [← hsa]; exact told_size hi
  have a2 : sb.size = 3 := by rw [← hsb]; exact told_size hp
  have a3 : sc.size = 3 := by rw [← hsc]; exact told_size hl
  have k1 : ByteArray.size ⟨#[110]⟩ = 1 := rfl
  have k2 : ByteArray.size ⟨#[100]⟩ = 1 := rfl
  have k3 : ByteArray.size ⟨#[102]⟩ = 1 := rfl
  have a4 : ∀ x : UInt8, ((⟨#[x]⟩ : ByteArray) ++ sb).size = 4 := fun x => by rw [ByteArray.size_append, a2]; rfl
  have a5 : ∀ x : UInt8, (((⟨#[x]⟩ : ByteArray) ++ sb) ++ sc).size = 7 := fun x => by rw [ByteArray.size_append, a4, a3]
  have a6 : ¬ 9223372036854775807 < 7 + text.size := by omega
  rw [hsa, hsb, hsc]
  clear T1 T2 T3 hsa hsb hsc
  have h1 := Hold.made (Hold.made (H0.start W) (Nat.le_refl _) 33 [.int .i64 i, .int .i64 k, .int .i64 p, .int .i64 l, .string text]) (by simp) 69 [.string ⟨#[]⟩, .string ⟨#[]⟩, .bool false]
  rw [World.size_alloc] at h1
  obtain ⟨w1, hw1⟩ : ∃ w1, (W.alloc (.cells [.int .i64 i, .int .i64 k, .int .i64 p, .int .i64 l, .string text].toArray 33)).alloc (.cells [.string ⟨#[]⟩, .string ⟨#[]⟩, .bool false].toArray 69) = w1 := ⟨_, rfl⟩
  rw [hw1] at h1
  have HH : Hid (H0 W w1 (rowR B (.string ⟨#[]⟩) (.string ⟨#[]⟩) (.bool false) (.int .i64 i) (.int .i64 k) (.int .i64 p) (.int .i64 l) (.string text))) := by rw [← hB]; exact hide h1
  have HD : Hid (H0 W w1.drew (rowR B (.string ⟨#[]⟩) (.string ⟨#[]⟩) (.bool false) (.int .i64 i) (.int .i64 k) (.int .i64 p) (.int .i64 l) (.string text))) := by rw [← hB]; exact hide (Hold.drew h1)
  obtain ⟨c0, c1, c2, c3, c4, d0, d1, d2, f0, f1, f2⟩ := rowCells HH
  have HST := fun (wx wy : World) (hb : Below wx.heap.size wx wy) (h : Hid (H0 W wx (rowR B (.string ⟨#[]⟩) (.string ⟨#[]⟩) (.bool false) (.int .i64 i) (.int .i64 k) (.int .i64 p) (.int .i64 l) (.string text)))) => (⟨rowStep hb h, rowCells (rowStep hb h)⟩ : _ ∧ _)
  clear h1 hi hp hl ht hR
  by_cases hk : k = 1
  · subst hk
    rw [if_pos rfl]
    go_enter Tryz.func69, Tryz.ntmps69
    go_wp2_with fail
    go_region_held3 (fun w' => w'.cell? ⟨B, 0, none⟩ = some (.int .i64 i) ∧ w'.cell? ⟨B, 2, none⟩ = some (.int .i64 p) ∧ w'.cell? ⟨B, 3, none⟩ = some (.int .i64 l) ∧ w'.cell? ⟨B, 4, none⟩ = some (.string text)) (first | exact ⟨by assumption, by assumption, by assumption, by assumption⟩ | go_keep) (((first | (go_at_call_of 68 i; refine (unhide HT1 _ (by assumption)).mono ?_) | (go_at_call_of 68 p; refine (unhide HT2 _ (by assumption)).mono ?_) | (go_at_call_of 68 l; refine (unhide HT3 _ (by assumption)).mono ?_)); rintro e wy ⟨rfl, hb⟩; obtain ⟨hy, b0, b1, b2, b3, b4, e0, e1, e2, g0, g1, g2⟩ := HST _ _ hb (by assumption); clear hb))
    all_goals
      go_wp2_with fail
      refine bodyPost_ret (results_cell_row (p := 2) rfl _ _ (B + 1) _ _ (0, 0) _ rfl (rowEnd _ _ _ (by assumption)).1 Tryz.underlying69 rfl (by kernel_rfl)) rfl ?_
      exact ⟨rfl, (rowEnd _ _ _ (by assumption)).2⟩
  · rw [if_neg hk]
    have hkz : (k == 1) = false := by simpa using hk
    clear hk
    go_enter Tryz.func69, Tryz.ntmps69
    go_wp2_with fail
    go_region_held3 (fun w' => w'.cell? ⟨B, 0, none⟩ = some (.int .i64 i) ∧ w'.cell? ⟨B, 2, none⟩ = some (.int .i64 p) ∧ w'.cell? ⟨B, 3, none⟩ = some (.int .i64 l) ∧ w'.cell? ⟨B, 4, none⟩ = some (.string text)) (first | exact ⟨by assumption, by assumption, by assumption, by assumption⟩ | go_keep) (((first | (go_at_call_of 68 i; refine (unhide HT1 _ (by assumption)).mono ?_) | (go_at_call_of 68 p; refine (unhide HT2 _ (by assumption)).mono ?_) | (go_at_call_of 68 l; refine (unhide HT3 _ (by assumption)).mono ?_)); rintro e wy ⟨rfl, hb⟩; obtain ⟨hy, b0, b1, b2, b3, b4, e0, e1, e2, g0, g1, g2⟩ := HST _ _ hb (by assumption); clear hb))
    all_goals
      go_wp2_with fail
      refine bodyPost_ret (results_cell_row (p := 2) rfl _ _ (B + 1) _ _ (0, 0) _ rfl (rowEnd _ _ _ (by assumption)).1 Tryz.underlying69 rfl (by kernel_rfl)) rfl ?_
      exact ⟨rfl, (rowEnd _ _ _ (by assumption)).2⟩
end Go.Proofs.YtjpmomklkkifjaaGreatDoor.T.J
