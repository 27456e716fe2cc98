/-
  Keys are the same just if names are alike: the facts of it. Plain facts; no Go text. What is split up is split up once; what is folded is folded once; letters the other way round are alike. Plain facts; no Go text. The contracts of plain.Fold and plain.Alike, over the seat's program, of any bytes that have fewer than forty marks; what is split up is split up once.
-/
import Derived.Test.YtjpmomklkkifjaaGreatDoorCFParts
import Derived.Test.YtjpmomklkkifjaaGreatDoorCPlainW
namespace Go.Proofs.YtjpmomklkkifjaaGreatDoor
open Go.Lib
set_option maxRecDepth 100000

def GoodT (ts : List Int) : Prop := (∀ q ∈ ts, (BaseF q ∨ q = 67) ∨ Mark q) ∧ ∀ q t, ts = q :: t → (BaseF q ∨ q = 67)

theorem GoodT.empty {ts : List Int} (h : GoodT ts) (he : (runK ts).1 = []) : ts = [] := by
  cases ts with
  | nil => rfl
  | cons q t => exact absurd he (runK_ne (by have := weight_base (h.2 q t rfl); omega))
def unrepl (ts : List Int) : List Int := ts.flatMap fun r => if r = 67 then [99, 104] else [r]
end Go.Proofs.YtjpmomklkkifjaaGreatDoor
namespace Go.Proofs.YtjpmomklkkifjaaGreatDoor
set_option maxRecDepth 100000

def joinS (ps : List Int) : List Int := (runS ps).1 ++ sortM (runS ps).2
def swapZ (r : Int) : Int := if 97 ≤ r ∧ r ≤ 122 then r - 32 else if 65 ≤ r ∧ r ≤ 90 then r + 32 else r
theorem Name.part {rs : List Int} (h : Name rs) : ∀ p ∈ splitL rs, baseZ p = true ∨ Mark p := by
  intro p hp
  obtain ⟨r, hr, hpr⟩ := List.mem_flatMap.1 (splitL_mem p hp)
  exact parts_sign (h.signs r hr) p hpr

end Go.Proofs.YtjpmomklkkifjaaGreatDoor
namespace Go.Proofs.YtjpmomklkkifjaaGreatDoor
open Go.RowKit
set_option maxRecDepth 100000

end Go.Proofs.YtjpmomklkkifjaaGreatDoor
