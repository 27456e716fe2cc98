/-
  The contract of plain.Split, over the seat's program, of any bytes that have up to nine hundred marks.
-/
import Derived.Test.YtjpmomklkkifjaaGreatDoorCFParts
import Derived.Test.YtjpmomklkkifjaaGreatDoorCStableB
namespace Go.Proofs.YtjpmomklkkifjaaGreatDoor
open Go.RowKit
set_option maxRecDepth 100000

end Go.Proofs.YtjpmomklkkifjaaGreatDoor
