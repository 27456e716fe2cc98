/-
  DERIVED. GIVEN WITH THE SEED: THE CARDS: each row of YtdflokjpgbeniaaDoorRows.lean that lists a variable, with what it lists TIED to the program's text (the seventh form; the later family's looks); each row that meets fmt, with fmt's text TOLD by the authors' own Lean function (tested against real Go, not proved from fmt's source: count such statements apart). THE CARD IS WHAT COUNTS. Prove the row's statement (the work); the ties are given (YtdflokjpgbeniaaDoorTie.lean); close each card by the builder's one call (the guide's Derived/Test/ToyasCard.lean, 'card_holds'). Laid BY PROGRAM, IN A SANDBOX (cutbox-door.mjs). By AI agents, Wed Nov 11 2026. No macro, syntax, notation, axiom, sorry.
-/
import Derived.Test.YtdflokjpgbeniaaDoorRows
import GoSem.ClaimSeven
namespace Go.Proofs.YtdflokjpgbeniaaDoor
namespace Rows

/-- THE TIED CARD OF 'jobcaselaw.Names'. -/
def namesCard : Claim7 := { stood := { row := namesRow, standIns := [], harness := (true, "d3acebdb2d23c3814f3b58e5e94c111535ad056e6537d0b59763dc43af16f176"), looks := true }, kinds := [], alts := [], laidByText := true, laidKinds := [.data, .data, .data], laidTests := true, laidLooks := .later }
def NamesCardSaid : Prop := Claim7.holds Tryd.pinned (.plain (OpenSpec.ofChange namesSpec)) namesCard

/-- THE TIED CARD OF 'jobcasetop.TopSigns'. -/
def topSignsCard : Claim7 := { stood := { row := topSignsRow, standIns := [], harness := (true, "d3acebdb2d23c3814f3b58e5e94c111535ad056e6537d0b59763dc43af16f176"), looks := true }, kinds := [], alts := [], laidByText := true, laidKinds := [.data], laidTests := true, laidLooks := .later }
def TopSignsCardSaid : Prop := Claim7.holds Tryd.pinned (.plain (OpenSpec.ofChange topSignsSpec)) topSignsCard

/-- THE TIED CARD OF 'jobcasetop.TopSplit'. -/
def topSplitCard : Claim7 := { stood := { row := topSplitRow, standIns := [], harness := (true, "d3acebdb2d23c3814f3b58e5e94c111535ad056e6537d0b59763dc43af16f176"), looks := true }, kinds := [], alts := [], laidByText := true, laidKinds := [.data, .data, .pinned], laidTests := true, laidLooks := .later }
def TopSplitCardSaid : Prop := Claim7.holds Tryd.pinned (.plain (OpenSpec.ofChange topSplitSpec)) topSplitCard

/-- THE TIED CARD OF 'jobcasetop.TopMarks'. -/
def topMarksCard : Claim7 := { stood := { row := topMarksRow, standIns := [], harness := (true, "d3acebdb2d23c3814f3b58e5e94c111535ad056e6537d0b59763dc43af16f176"), looks := true }, kinds := [], alts := [], laidByText := true, laidKinds := [.data, .data, .pinned], laidTests := true, laidLooks := .later }
def TopMarksCardSaid : Prop := Claim7.holds Tryd.pinned (.plain (OpenSpec.ofChange topMarksSpec)) topMarksCard

/-- THE TIED CARD OF 'jobcasetop.TopCase'. -/
def topCaseCard : Claim7 := { stood := { row := topCaseRow, standIns := [], harness := (true, "d3acebdb2d23c3814f3b58e5e94c111535ad056e6537d0b59763dc43af16f176"), looks := true }, kinds := [], alts := [], laidByText := true, laidKinds := [.data, .data, .pinned], laidTests := true, laidLooks := .later }
def TopCaseCardSaid : Prop := Claim7.holds Tryd.pinned (.plain (OpenSpec.ofChange topCaseSpec)) topCaseCard

/-- THE TIED CARD OF 'jobcasetop.TopKey'. -/
def topKeyCard : Claim7 := { stood := { row := topKeyRow, standIns := [], harness := (true, "d3acebdb2d23c3814f3b58e5e94c111535ad056e6537d0b59763dc43af16f176"), looks := true }, kinds := [], alts := [], laidByText := true, laidKinds := [.data, .data, .pinned], laidTests := true, laidLooks := .later }
def TopKeyCardSaid : Prop := Claim7.holds Tryd.pinned (.plain (OpenSpec.ofChange topKeySpec)) topKeyCard

/-- THE TIED CARD OF 'jobcasetop.TopOrder'. -/
def topOrderCard : Claim7 := { stood := { row := topOrderRow, standIns := [], harness := (true, "d3acebdb2d23c3814f3b58e5e94c111535ad056e6537d0b59763dc43af16f176"), looks := true }, kinds := [], alts := [], laidByText := true, laidKinds := [.data, .data, .pinned], laidTests := true, laidLooks := .later }
def TopOrderCardSaid : Prop := Claim7.holds Tryd.pinned (.plain (OpenSpec.ofChange topOrderSpec)) topOrderCard

/-- THE TIED CARD OF 'jobcasetop.TopFirst'. -/
def topFirstCard : Claim7 := { stood := { row := topFirstRow, standIns := [], harness := (true, "d3acebdb2d23c3814f3b58e5e94c111535ad056e6537d0b59763dc43af16f176"), looks := true }, kinds := [], alts := [], laidByText := true, laidKinds := [.data, .data, .pinned], laidTests := true, laidLooks := .later }
def TopFirstCardSaid : Prop := Claim7.holds Tryd.pinned (.plain (OpenSpec.ofChange topFirstSpec)) topFirstCard

/-- THE SECOND FORM's CARD OF 'jobcaselaw.Names'. -/
def namesUptoCard : Claim7 := { stood := { row := namesUptoRow, standIns := [], harness := (true, "d3acebdb2d23c3814f3b58e5e94c111535ad056e6537d0b59763dc43af16f176"), looks := true }, kinds := [], alts := [], laidByText := true, laidKinds := [.data, .data, .data], laidTests := true, laidLooks := .later }
def NamesUptoCardSaid : Prop := Claim7.holds Tryd.pinned (.plain (OpenSpec.upto namesSpec)) namesUptoCard

/-- THE SECOND FORM's CARD OF 'jobcasetop.TopSigns'. -/
def topSignsUptoCard : Claim7 := { stood := { row := topSignsUptoRow, standIns := [], harness := (true, "d3acebdb2d23c3814f3b58e5e94c111535ad056e6537d0b59763dc43af16f176"), looks := true }, kinds := [], alts := [], laidByText := true, laidKinds := [.data], laidTests := true, laidLooks := .later }
def TopSignsUptoCardSaid : Prop := Claim7.holds Tryd.pinned (.plain (OpenSpec.upto topSignsSpec)) topSignsUptoCard

/-- THE SECOND FORM's CARD OF 'jobcasetop.TopSplit'. -/
def topSplitUptoCard : Claim7 := { stood := { row := topSplitUptoRow, standIns := [], harness := (true, "d3acebdb2d23c3814f3b58e5e94c111535ad056e6537d0b59763dc43af16f176"), looks := true }, kinds := [], alts := [], laidByText := true, laidKinds := [.data, .data, .pinned], laidTests := true, laidLooks := .later }
def TopSplitUptoCardSaid : Prop := Claim7.holds Tryd.pinned (.plain (OpenSpec.upto topSplitSpec)) topSplitUptoCard

/-- THE SECOND FORM's CARD OF 'jobcasetop.TopMarks'. -/
def topMarksUptoCard : Claim7 := { stood := { row := topMarksUptoRow, standIns := [], harness := (true, "d3acebdb2d23c3814f3b58e5e94c111535ad056e6537d0b59763dc43af16f176"), looks := true }, kinds := [], alts := [], laidByText := true, laidKinds := [.data, .data, .pinned], laidTests := true, laidLooks := .later }
def TopMarksUptoCardSaid : Prop := Claim7.holds Tryd.pinned (.plain (OpenSpec.upto topMarksSpec)) topMarksUptoCard

/-- THE SECOND FORM's CARD OF 'jobcasetop.TopCase'. -/
def topCaseUptoCard : Claim7 := { stood := { row := topCaseUptoRow, standIns := [], harness := (true, "d3acebdb2d23c3814f3b58e5e94c111535ad056e6537d0b59763dc43af16f176"), looks := true }, kinds := [], alts := [], laidByText := true, laidKinds := [.data, .data, .pinned], laidTests := true, laidLooks := .later }
def TopCaseUptoCardSaid : Prop := Claim7.holds Tryd.pinned (.plain (OpenSpec.upto topCaseSpec)) topCaseUptoCard

/-- THE SECOND FORM's CARD OF 'jobcasetop.TopKey'. -/
def topKeyUptoCard : Claim7 := { stood := { row := topKeyUptoRow, standIns := [], harness := (true, "d3acebdb2d23c3814f3b58e5e94c111535ad056e6537d0b59763dc43af16f176"), looks := true }, kinds := [], alts := [], laidByText := true, laidKinds := [.data, .data, .pinned], laidTests := true, laidLooks := .later }
def TopKeyUptoCardSaid : Prop := Claim7.holds Tryd.pinned (.plain (OpenSpec.upto topKeySpec)) topKeyUptoCard

/-- THE SECOND FORM's CARD OF 'jobcasetop.TopOrder'. -/
def topOrderUptoCard : Claim7 := { stood := { row := topOrderUptoRow, standIns := [], harness := (true, "d3acebdb2d23c3814f3b58e5e94c111535ad056e6537d0b59763dc43af16f176"), looks := true }, kinds := [], alts := [], laidByText := true, laidKinds := [.data, .data, .pinned], laidTests := true, laidLooks := .later }
def TopOrderUptoCardSaid : Prop := Claim7.holds Tryd.pinned (.plain (OpenSpec.upto topOrderSpec)) topOrderUptoCard

/-- THE SECOND FORM's CARD OF 'jobcasetop.TopFirst'. -/
def topFirstUptoCard : Claim7 := { stood := { row := topFirstUptoRow, standIns := [], harness := (true, "d3acebdb2d23c3814f3b58e5e94c111535ad056e6537d0b59763dc43af16f176"), looks := true }, kinds := [], alts := [], laidByText := true, laidKinds := [.data, .data, .pinned], laidTests := true, laidLooks := .later }
def TopFirstUptoCardSaid : Prop := Claim7.holds Tryd.pinned (.plain (OpenSpec.upto topFirstSpec)) topFirstUptoCard
end Rows
end Go.Proofs.YtdflokjpgbeniaaDoor
