import Derived.Test.YtphcnmlbieokoaaGreatDoorC2
set_option maxRecDepth 100000
set_option maxHeartbeats 16000000
set_option linter.unusedVariables false
set_option linter.unusedSimpArgs false
namespace Go.Proofs.YtphcnmlbieokoaaGreatDoor
open Go.RowKit List Go.Proofs.Tryz
structure Kyd (rs:List Int):Prop where
 small:∀r∈rs,bA r
 short:rs.length<=400
 ix:marks (bT rs)<20
 elem:∀r∈fA (gT rs),JQ r
 ne:(runK (fA (gT rs))).1≠[]
theorem Name.keyed {rs:List Int} (h:Name rs):Kyd rs:=⟨h.small,by have:=h.short;omega,h.marks,h.elem,h.XB⟩
def kOf (rs:List Int):ByteArray:=Rb (fA (gT rs))
theorem Iv (rs:List Int) (w:World) (hR:bF w) (h:Kyd rs):
 Calls prog 91 #[.string (bL rs)] w fun e w'=>e=.returned (.string (kOf rs))/\Below w.heap.size w w':=
 AE rs w hR h.small h.short h.ix h.elem h.ne
end Go.Proofs.YtphcnmlbieokoaaGreatDoor
