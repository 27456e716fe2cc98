/-
  The contract of slices.symMergeCmpFunc at marks, over the seat's program: two rows in order become one, those of one class as they stood; the whole.
-/
import Derived.Test.YtjpmomklkkifjaaGreatDoorCSymMerge
namespace Go.Proofs.YtjpmomklkkifjaaGreatDoor
open Go.RowKit Go.Sort
set_option maxRecDepth 100000

def SymSpec (k : Nat) : Prop := ∀ (w0 : World) (g cap : Nat) (tail : List Value) (P L R S : List Int) (w : World), L.length + R.length ≤ k → L ≠ [] → R ≠ [] → Srt L → Srt R → (P ++ L ++ R ++ S).length ≤ 1000 → RowAt w0 g tail (P ++ L ++ R ++ S) w →
    Calls Tryz.prog 208 #[.slice (some ⟨g, 0, none⟩) (P ++ L ++ R ++ S).length cap, .int .i64 P.length, .int .i64 (P ++ L).length, .int .i64 (P ++ L ++ R).length, .func (.func 137) #[] #[]] w fun e w' =>
      e = .returned (.tuple #[]) ∧ RowAt w0 g tail (P ++ sortM (L ++ R) ++ S) w'

theorem SymSpec.at {k : Nat} (ih : SymSpec k) {w0 : World} {g cap : Nat} {tail : List Value} {P L R S zs ys : List Int} {N a m b : Nat} (hk : L.length + R.length ≤ k) (hL0 : L ≠ []) (hR0 : R ≠ []) (hL : Srt L) (hR : Srt R) (hN : zs.length = N) (hN2 : N ≤ 1000)
    (hz : zs = P ++ L ++ R ++ S) (hy : ys = P ++ sortM (L ++ R) ++ S) (ha : P.length = a) (hm : a + L.length = m) (hb : m + R.length = b) : ∀ w, RowAt w0 g tail zs w → Calls Tryz.prog 208 #[.slice (some ⟨g, 0, none⟩) N cap, .int .i64 a, .int .i64 m, .int .i64 b, .func (.func 137) #[] #[]] w fun e w' =>
      e = .returned (.tuple #[]) ∧ RowAt w0 g tail ys w' := by
  intro w h
  subst hz hy
  have := ih w0 g cap tail P L R S w hk hL0 hR0 hL hR (by omega) h
  rw [hN, ha, show (P ++ L).length = m by rw [List.length_append]; omega, show (P ++ L ++ R).length = b by simp only [List.length_append]; omega] at this
  exact this
end Go.Proofs.YtjpmomklkkifjaaGreatDoor
