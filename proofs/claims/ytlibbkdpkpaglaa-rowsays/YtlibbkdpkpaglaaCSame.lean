/-
  The contracts of the document's SameChanges and of goodRows, over the seat's program.
-/
import Derived.Test.YtlibbkdpkpaglaaCRef
import Derived.Deep.RegionHeldLaw
namespace Go.Proofs.Ytlibbkdpkpaglaa
open Go.RowKit Go.Lib
set_option maxRecDepth 100000
set_option linter.unusedVariables false
set_option linter.unusedSimpArgs false

set_option maxHeartbeats 2000000 in
theorem sameCh_calls (w0 w : World) (v1 v2 : Value) (L : List ChD) (l2 : List Res) (H : Hold w0 w (rowI v1 L :: rowI v2 L :: l2)) (hl : L.length ≤ 1000) :
    Calls Try.prog 35 #[v1, v2] w fun e w' => e = .returned (.bool true) ∧ Hold w0 w' (rowI v1 L :: rowI v2 L :: l2) := by
  obtain ⟨p1, c1, hv1, _⟩ := row_slice (H.rowAt (.head _))
  obtain ⟨p2, c2, hv2, _⟩ := row_slice (H.rowAt (.tail _ (.head _)))
  subst hv1 hv2
  obtain ⟨n, hn⟩ : ∃ n, L.length = n := ⟨_, rfl⟩
  rw [hn] at H hl ⊢
  have HH := hide H
  have Hn := hide hn
  clear H hn
  go_enter Try.func35, Try.ntmps35
  go_wp2_with fail
  go_loopg [5] (n + 1) (fun g vi wr => ∃ (i : Nat), n - i < g ∧ i ≤ n ∧ vi = .int .i64 i ∧ Hid (Hold w0 wr (rowI (.slice p1 n c1) L :: rowI (.slice p2 n c2) L :: l2)))
  case atStart => exact ⟨0, by omega, by omega, rfl, HH⟩
  case round =>
    obtain ⟨i, hg, hi, rfl, HX⟩ := hrel
    by_cases hin : i < n
    · have hiz : (i : Int) < (n : Int) := by omega
      have hX := unhide HX
      unfold rowI at hX
      rw [unhide Hn] at hX
      obtain ⟨g1, cc1, h1, _⟩ := row_shape (hX.rowAt (.head _)) (by omega)
      injection h1 with h1 _ hc1
      subst h1 hc1
      obtain ⟨g2, cc2, h2, _⟩ := row_shape (hX.rowAt (.tail _ (.head _))) (by omega)
      injection h2 with h2 _ hc2
      subst h2 hc2
      have hkl : i < L.length := by rw [unhide Hn]; exact hin
      have hgt := flat_get L i hkl
      obtain ⟨⟨xk, xv, xg⟩, hx⟩ : ∃ x, L[i] = x := ⟨_, rfl⟩
      rw [hx] at hgt
      have a0 := hX.rowCell (.head _) hgt.1
      have a1 := hX.rowCell (.head _) hgt.2.1
      have a2 := hX.rowCell (.head _) hgt.2.2
      have b0 := hX.rowCell (.tail _ (.head _)) hgt.1
      have b1 := hX.rowCell (.tail _ (.head _)) hgt.2.1
      have b2 := hX.rowCell (.tail _ (.head _)) hgt.2.2
      simp only at a0 a1 a2 b0 b1 b2
      clear hX hgt hx hkl
      go_wp2_with fail
      go_quiet (fail)
      go_wp2_with fail
      go_roundg (n - i)
      case measure => omega
      case rel => exact ⟨i + 1, by omega, by omega, by simp, (unhide HX).drewN _⟩
    · have hiz : ¬ (i : Int) < (n : Int) := by omega
      go_wp2_with fail
      go_ret
      exact ⟨rfl, unhide HX⟩

#print axioms sameCh_calls
end Go.Proofs.Ytlibbkdpkpaglaa
