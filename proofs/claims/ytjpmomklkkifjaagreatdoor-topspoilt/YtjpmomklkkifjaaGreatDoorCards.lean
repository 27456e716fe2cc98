/-
  DERIVED. GIVEN WITH THE SEED: THE CARDS: each row of YtjpmomklkkifjaaGreatDoorRows.lean that lists a variable, with what it lists TIED to the program's text (the seventh form; the later family's looks); each row that meets fmt, with fmt's text TOLD by the authors' own Lean function (tested against real Go, not proved from fmt's source: count such statements apart). THE CARD IS WHAT COUNTS. Prove the row's statement (the work); the ties are given (YtjpmomklkkifjaaGreatDoorTie.lean); close each card by the builder's one call (the guide's Derived/Test/ToyasCard.lean, 'card_holds'). Laid BY PROGRAM, IN A SANDBOX (cutbox-door.mjs). By AI agents, Wed Nov 11 2026. No macro, syntax, notation, axiom, sorry.
-/
import Derived.Test.YtjpmomklkkifjaaGreatDoorRows
import GoSem.ClaimSeven
namespace Go.Proofs.YtjpmomklkkifjaaGreatDoor
namespace Rows

/-- THE TIED CARD OF 'jobcasetop.TopOnce'. -/
def topOnceCard : Claim7 := { stood := { row := topOnceRow, standIns := [], harness := (true, "50e77c69c0bd15920f85c5330c863c1f6a2ebb03c3f06a288f8cb115d9052b69"), looks := true }, kinds := [], alts := [], laidByText := true, laidKinds := [.data, .data, .pinned], laidTests := true, laidLooks := .later }
def TopOnceCardSaid : Prop := Claim7.holds Tryz.pinned (.plain (OpenSpec.ofChange topOnceSpec)) topOnceCard

/-- THE TIED CARD OF 'jobcasetop.TopLinks'. -/
def topLinksCard : Claim7 := { stood := { row := topLinksRow, standIns := [], harness := (true, "50e77c69c0bd15920f85c5330c863c1f6a2ebb03c3f06a288f8cb115d9052b69"), looks := true }, kinds := [], alts := [], laidByText := true, laidKinds := [.data, .data, .pinned], laidTests := true, laidLooks := .later }
def TopLinksCardSaid : Prop := Claim7.holds Tryz.pinned (.plain (OpenSpec.ofChange topLinksSpec)) topLinksCard

/-- THE TIED CARD OF 'jobcasetop.TopFind'. -/
def topFindCard : Claim7 := { stood := { row := topFindRow, standIns := [], harness := (true, "50e77c69c0bd15920f85c5330c863c1f6a2ebb03c3f06a288f8cb115d9052b69"), looks := true }, kinds := [], alts := [], laidByText := true, laidKinds := [.data, .data, .pinned], laidTests := true, laidLooks := .later }
def TopFindCardSaid : Prop := Claim7.holds Tryz.pinned (.plain (OpenSpec.ofChange topFindSpec)) topFindCard

/-- THE TIED CARD OF 'jobcasetop.TopName'. -/
def topNameCard : Claim7 := { stood := { row := topNameRow, standIns := [], harness := (true, "50e77c69c0bd15920f85c5330c863c1f6a2ebb03c3f06a288f8cb115d9052b69"), looks := true }, kinds := [], alts := [], laidByText := true, laidKinds := [.data, .data, .pinned], laidTests := true, laidLooks := .later }
def TopNameCardSaid : Prop := Claim7.holds Tryz.pinned (.plain (OpenSpec.ofChange topNameSpec)) topNameCard

/-- THE TIED CARD OF 'jobcasetop.TopBack'. -/
def topBackCard : Claim7 := { stood := { row := topBackRow, standIns := [], harness := (true, "50e77c69c0bd15920f85c5330c863c1f6a2ebb03c3f06a288f8cb115d9052b69"), looks := true }, kinds := [], alts := [], laidByText := true, laidKinds := [.data, .data, .data, .data, .data, .pinned], laidTests := true, laidLooks := .later }
def TopBackCardSaid : Prop := Claim7.holds Tryz.pinned (.plain (OpenSpec.ofChange topBackSpec)) topBackCard

/-- THE TIED CARD OF 'jobcasetop.TopRound'. -/
def topRoundCard : Claim7 := { stood := { row := topRoundRow, standIns := [], harness := (true, "50e77c69c0bd15920f85c5330c863c1f6a2ebb03c3f06a288f8cb115d9052b69"), looks := true }, kinds := [], alts := [], laidByText := true, laidKinds := [.data, .data, .data, .data, .data, .pinned], laidTests := true, laidLooks := .later }
def TopRoundCardSaid : Prop := Claim7.holds Tryz.pinned (.plain (OpenSpec.ofChange topRoundSpec)) topRoundCard

/-- THE TIED CARD OF 'jobcasetop.TopList'. -/
def topListCard : Claim7 := { stood := { row := topListRow, standIns := [], harness := (true, "50e77c69c0bd15920f85c5330c863c1f6a2ebb03c3f06a288f8cb115d9052b69"), looks := true }, kinds := [], alts := [], laidByText := true, laidKinds := [.data, .data, .pinned], laidTests := true, laidLooks := .later }
def TopListCardSaid : Prop := Claim7.holds Tryz.pinned (.plain (OpenSpec.ofChange topListSpec)) topListCard

/-- THE TIED CARD OF 'jobcasetop.TopRefuse'. -/
def topRefuseCard : Claim7 := { stood := { row := topRefuseRow, standIns := [], harness := (true, "50e77c69c0bd15920f85c5330c863c1f6a2ebb03c3f06a288f8cb115d9052b69"), looks := true }, kinds := [], alts := [], laidByText := true, laidKinds := [.data, .data, .data, .data, .data, .pinned], laidTests := true, laidLooks := .later }
def TopRefuseCardSaid : Prop := Claim7.holds Tryz.pinned (.plain (OpenSpec.ofChange topRefuseSpec)) topRefuseCard

/-- THE TIED CARD OF 'jobcasetop.TopRows'. -/
def topRowsCard : Claim7 := { stood := { row := topRowsRow, standIns := [], harness := (true, "50e77c69c0bd15920f85c5330c863c1f6a2ebb03c3f06a288f8cb115d9052b69"), looks := true }, kinds := [], alts := [], laidByText := true, laidKinds := [.data, .data, .data, .data, .data, .sentinel, .sentinel, .pinned], laidTests := true, laidLooks := .later }
def TopRowsCardSaid : Prop := Claim7.holds Tryz.pinned (.plain (OpenSpec.ofChange topRowsSpec)) topRowsCard

/-- THE TIED CARD OF 'jobcasetop.TopSpoilt'. -/
def topSpoiltCard : Claim7 := { stood := { row := topSpoiltRow, standIns := [], harness := (true, "50e77c69c0bd15920f85c5330c863c1f6a2ebb03c3f06a288f8cb115d9052b69"), looks := true }, kinds := [], alts := [], laidByText := true, laidKinds := [.data, .data, .data, .data, .data, .sentinel, .sentinel, .pinned], laidTests := true, laidLooks := .later }
def TopSpoiltCardSaid : Prop := Claim7.holds Tryz.pinned (.plain (OpenSpec.ofChange topSpoiltSpec)) topSpoiltCard

/-- THE SECOND FORM's CARD OF 'jobcasetop.TopOnce'. -/
def topOnceUptoCard : Claim7 := { stood := { row := topOnceUptoRow, standIns := [], harness := (true, "50e77c69c0bd15920f85c5330c863c1f6a2ebb03c3f06a288f8cb115d9052b69"), looks := true }, kinds := [], alts := [], laidByText := true, laidKinds := [.data, .data, .pinned], laidTests := true, laidLooks := .later }
def TopOnceUptoCardSaid : Prop := Claim7.holds Tryz.pinned (.plain (OpenSpec.upto topOnceSpec)) topOnceUptoCard

/-- THE SECOND FORM's CARD OF 'jobcasetop.TopLinks'. -/
def topLinksUptoCard : Claim7 := { stood := { row := topLinksUptoRow, standIns := [], harness := (true, "50e77c69c0bd15920f85c5330c863c1f6a2ebb03c3f06a288f8cb115d9052b69"), looks := true }, kinds := [], alts := [], laidByText := true, laidKinds := [.data, .data, .pinned], laidTests := true, laidLooks := .later }
def TopLinksUptoCardSaid : Prop := Claim7.holds Tryz.pinned (.plain (OpenSpec.upto topLinksSpec)) topLinksUptoCard

/-- THE SECOND FORM's CARD OF 'jobcasetop.TopFind'. -/
def topFindUptoCard : Claim7 := { stood := { row := topFindUptoRow, standIns := [], harness := (true, "50e77c69c0bd15920f85c5330c863c1f6a2ebb03c3f06a288f8cb115d9052b69"), looks := true }, kinds := [], alts := [], laidByText := true, laidKinds := [.data, .data, .pinned], laidTests := true, laidLooks := .later }
def TopFindUptoCardSaid : Prop := Claim7.holds Tryz.pinned (.plain (OpenSpec.upto topFindSpec)) topFindUptoCard

/-- THE SECOND FORM's CARD OF 'jobcasetop.TopName'. -/
def topNameUptoCard : Claim7 := { stood := { row := topNameUptoRow, standIns := [], harness := (true, "50e77c69c0bd15920f85c5330c863c1f6a2ebb03c3f06a288f8cb115d9052b69"), looks := true }, kinds := [], alts := [], laidByText := true, laidKinds := [.data, .data, .pinned], laidTests := true, laidLooks := .later }
def TopNameUptoCardSaid : Prop := Claim7.holds Tryz.pinned (.plain (OpenSpec.upto topNameSpec)) topNameUptoCard

/-- THE SECOND FORM's CARD OF 'jobcasetop.TopBack'. -/
def topBackUptoCard : Claim7 := { stood := { row := topBackUptoRow, standIns := [], harness := (true, "50e77c69c0bd15920f85c5330c863c1f6a2ebb03c3f06a288f8cb115d9052b69"), looks := true }, kinds := [], alts := [], laidByText := true, laidKinds := [.data, .data, .data, .data, .data, .pinned], laidTests := true, laidLooks := .later }
def TopBackUptoCardSaid : Prop := Claim7.holds Tryz.pinned (.plain (OpenSpec.upto topBackSpec)) topBackUptoCard

/-- THE SECOND FORM's CARD OF 'jobcasetop.TopRound'. -/
def topRoundUptoCard : Claim7 := { stood := { row := topRoundUptoRow, standIns := [], harness := (true, "50e77c69c0bd15920f85c5330c863c1f6a2ebb03c3f06a288f8cb115d9052b69"), looks := true }, kinds := [], alts := [], laidByText := true, laidKinds := [.data, .data, .data, .data, .data, .pinned], laidTests := true, laidLooks := .later }
def TopRoundUptoCardSaid : Prop := Claim7.holds Tryz.pinned (.plain (OpenSpec.upto topRoundSpec)) topRoundUptoCard

/-- THE SECOND FORM's CARD OF 'jobcasetop.TopList'. -/
def topListUptoCard : Claim7 := { stood := { row := topListUptoRow, standIns := [], harness := (true, "50e77c69c0bd15920f85c5330c863c1f6a2ebb03c3f06a288f8cb115d9052b69"), looks := true }, kinds := [], alts := [], laidByText := true, laidKinds := [.data, .data, .pinned], laidTests := true, laidLooks := .later }
def TopListUptoCardSaid : Prop := Claim7.holds Tryz.pinned (.plain (OpenSpec.upto topListSpec)) topListUptoCard

/-- THE SECOND FORM's CARD OF 'jobcasetop.TopRefuse'. -/
def topRefuseUptoCard : Claim7 := { stood := { row := topRefuseUptoRow, standIns := [], harness := (true, "50e77c69c0bd15920f85c5330c863c1f6a2ebb03c3f06a288f8cb115d9052b69"), looks := true }, kinds := [], alts := [], laidByText := true, laidKinds := [.data, .data, .data, .data, .data, .pinned], laidTests := true, laidLooks := .later }
def TopRefuseUptoCardSaid : Prop := Claim7.holds Tryz.pinned (.plain (OpenSpec.upto topRefuseSpec)) topRefuseUptoCard

/-- THE SECOND FORM's CARD OF 'jobcasetop.TopRows'. -/
def topRowsUptoCard : Claim7 := { stood := { row := topRowsUptoRow, standIns := [], harness := (true, "50e77c69c0bd15920f85c5330c863c1f6a2ebb03c3f06a288f8cb115d9052b69"), looks := true }, kinds := [], alts := [], laidByText := true, laidKinds := [.data, .data, .data, .data, .data, .sentinel, .sentinel, .pinned], laidTests := true, laidLooks := .later }
def TopRowsUptoCardSaid : Prop := Claim7.holds Tryz.pinned (.plain (OpenSpec.upto topRowsSpec)) topRowsUptoCard

/-- THE SECOND FORM's CARD OF 'jobcasetop.TopSpoilt'. -/
def topSpoiltUptoCard : Claim7 := { stood := { row := topSpoiltUptoRow, standIns := [], harness := (true, "50e77c69c0bd15920f85c5330c863c1f6a2ebb03c3f06a288f8cb115d9052b69"), looks := true }, kinds := [], alts := [], laidByText := true, laidKinds := [.data, .data, .data, .data, .data, .sentinel, .sentinel, .pinned], laidTests := true, laidLooks := .later }
def TopSpoiltUptoCardSaid : Prop := Claim7.holds Tryz.pinned (.plain (OpenSpec.upto topSpoiltSpec)) topSpoiltUptoCard
end Rows
end Go.Proofs.YtjpmomklkkifjaaGreatDoor
