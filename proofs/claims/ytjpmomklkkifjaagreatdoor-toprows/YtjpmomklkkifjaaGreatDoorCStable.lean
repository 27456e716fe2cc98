/-
  The contract of slices.SortStableFunc at fewer than forty marks, over the seat's program: they are sorted by their classes, those of one class as they stood.
-/
import Derived.Test.YtjpmomklkkifjaaGreatDoorCSymAll
namespace Go.Proofs.YtjpmomklkkifjaaGreatDoor
open Go.RowKit Go.Sort Go.Lib
set_option maxRecDepth 100000

end Go.Proofs.YtjpmomklkkifjaaGreatDoor
