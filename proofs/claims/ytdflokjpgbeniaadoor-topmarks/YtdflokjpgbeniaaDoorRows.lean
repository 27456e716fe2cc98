/-
  NARROWER THAN 'FOR EVERY INPUT', by the rows' own cells (each row's printed sentence says how): Names: laid · TopSigns: laid · TopSplit: laid · TopMarks: laid · TopCase: laid · TopKey: laid · TopOrder: laid · TopFirst: laid.
  DERIVED. THE GIVEN ROWS OF THIS SEAT. 8 by the template 'for every input the law returns true; each argument reads behind the call as it read before'; 0 by the template 'total and deterministic' (their statements: YtdflokjpgbeniaaDoorTotals.lean).
  GIVEN WITH THE SEED: the statements are not yours to turn. If you find one false, say at which input.
  Laid BY PROGRAM, IN A SANDBOX (cutbox-rows.mjs): the forced cells as the released guide's own fill.sh prints them over the translation 7f39374513ee5ebc… (all of the seat's roots in one cut). By AI agents, Wed Nov 11 2026. No macro, syntax, notation, axiom, sorry.
-/
import Derived.Test.YtdflokjpgbeniaaDoorChecked
import GoSem.PinnedTables
import GoSem.Claim
import GoSem.ClaimJoined
import GoSem.ClaimMapViews
import Derived.JoinedTies
import Derived.KernelRfl
namespace Go.Proofs.YtdflokjpgbeniaaDoor
/- THE CELL 'sum', in the pinned program and in every row, IS THE sha256 OF THE DUMP (.gsa) THAT YtdflokjpgbeniaaDoorProg.lean LOADS. Nothing in Lean hashes anything: it is a label: what it is worth is what the hold of that sum in a sandbox is worth. -/
noncomputable def Tryd.pinned : Pinned := { name := "ytdflokjpgbeniaadoor", sum := "7f39374513ee5ebc6652f814118bbb777c9a5a743d2bf1e966a999d3b9b8ebcf", checked := Tryd.checked }
namespace Rows
def none {H : Type} : Left H := { results := [], args := [] }

/- WHAT THE LISTED PACKAGE-LEVEL VARIABLES READ AS WHEN THE CALL BEGINS. Each datum BY PROGRAM (the guide's laid-datum.mjs) off the statement by which the dump's own 'gosem.cut.vars' lays the variable. In a bare row this is a premise. The card (YtdflokjpgbeniaaDoorCards.lean) ties it to the program's text. -/
def laid_math_bits_deBruijn32tab {H : Type} : DataW H := .agg [.lit (.int .u8 0), .lit (.int .u8 1), .lit (.int .u8 28), .lit (.int .u8 2), .lit (.int .u8 29), .lit (.int .u8 14), .lit (.int .u8 24), .lit (.int .u8 3), .lit (.int .u8 30), .lit (.int .u8 22), .lit (.int .u8 20), .lit (.int .u8 15), .lit (.int .u8 25), .lit (.int .u8 17), .lit (.int .u8 4), .lit (.int .u8 8), .lit (.int .u8 31), .lit (.int .u8 27), .lit (.int .u8 13), .lit (.int .u8 23), .lit (.int .u8 21), .lit (.int .u8 19), .lit (.int .u8 16), .lit (.int .u8 7), .lit (.int .u8 26), .lit (.int .u8 12), .lit (.int .u8 18), .lit (.int .u8 6), .lit (.int .u8 11), .lit (.int .u8 5), .lit (.int .u8 10), .lit (.int .u8 9)]
def laid_math_bits_deBruijn64tab {H : Type} : DataW H := .agg [.lit (.int .u8 0), .lit (.int .u8 1), .lit (.int .u8 56), .lit (.int .u8 2), .lit (.int .u8 57), .lit (.int .u8 49), .lit (.int .u8 28), .lit (.int .u8 3), .lit (.int .u8 61), .lit (.int .u8 58), .lit (.int .u8 42), .lit (.int .u8 50), .lit (.int .u8 38), .lit (.int .u8 29), .lit (.int .u8 17), .lit (.int .u8 4), .lit (.int .u8 62), .lit (.int .u8 47), .lit (.int .u8 59), .lit (.int .u8 36), .lit (.int .u8 45), .lit (.int .u8 43), .lit (.int .u8 51), .lit (.int .u8 22), .lit (.int .u8 53), .lit (.int .u8 39), .lit (.int .u8 33), .lit (.int .u8 30), .lit (.int .u8 24), .lit (.int .u8 18), .lit (.int .u8 12), .lit (.int .u8 5), .lit (.int .u8 63), .lit (.int .u8 55), .lit (.int .u8 48), .lit (.int .u8 27), .lit (.int .u8 60), .lit (.int .u8 41), .lit (.int .u8 37), .lit (.int .u8 16), .lit (.int .u8 46), .lit (.int .u8 35), .lit (.int .u8 44), .lit (.int .u8 21), .lit (.int .u8 52), .lit (.int .u8 32), .lit (.int .u8 23), .lit (.int .u8 11), .lit (.int .u8 54), .lit (.int .u8 26), .lit (.int .u8 40), .lit (.int .u8 15), .lit (.int .u8 34), .lit (.int .u8 20), .lit (.int .u8 31), .lit (.int .u8 10), .lit (.int .u8 25), .lit (.int .u8 14), .lit (.int .u8 19), .lit (.int .u8 9), .lit (.int .u8 13), .lit (.int .u8 8), .lit (.int .u8 7), .lit (.int .u8 6)]
def laid_internal_strconv_uint64pow10 {H : Type} : DataW H := .agg [.lit (.int .u64 1), .lit (.int .u64 10), .lit (.int .u64 100), .lit (.int .u64 1000), .lit (.int .u64 10000), .lit (.int .u64 100000), .lit (.int .u64 1000000), .lit (.int .u64 10000000), .lit (.int .u64 100000000), .lit (.int .u64 1000000000), .lit (.int .u64 10000000000), .lit (.int .u64 100000000000), .lit (.int .u64 1000000000000), .lit (.int .u64 10000000000000), .lit (.int .u64 100000000000000), .lit (.int .u64 1000000000000000), .lit (.int .u64 10000000000000000), .lit (.int .u64 100000000000000000), .lit (.int .u64 1000000000000000000), .lit (.int .u64 10000000000000000000)]
def laid_jobcase_sign_wholes {H : Type} : DataW H := .agg [.agg [.lit (.int .i32 192), .lit (.int .i32 65), .lit (.int .i32 768)], .agg [.lit (.int .i32 200), .lit (.int .i32 69), .lit (.int .i32 768)], .agg [.lit (.int .i32 204), .lit (.int .i32 73), .lit (.int .i32 768)], .agg [.lit (.int .i32 210), .lit (.int .i32 79), .lit (.int .i32 768)], .agg [.lit (.int .i32 217), .lit (.int .i32 85), .lit (.int .i32 768)], .agg [.lit (.int .i32 224), .lit (.int .i32 97), .lit (.int .i32 768)], .agg [.lit (.int .i32 232), .lit (.int .i32 101), .lit (.int .i32 768)], .agg [.lit (.int .i32 236), .lit (.int .i32 105), .lit (.int .i32 768)], .agg [.lit (.int .i32 242), .lit (.int .i32 111), .lit (.int .i32 768)], .agg [.lit (.int .i32 249), .lit (.int .i32 117), .lit (.int .i32 768)], .agg [.lit (.int .i32 193), .lit (.int .i32 65), .lit (.int .i32 769)], .agg [.lit (.int .i32 201), .lit (.int .i32 69), .lit (.int .i32 769)], .agg [.lit (.int .i32 205), .lit (.int .i32 73), .lit (.int .i32 769)], .agg [.lit (.int .i32 211), .lit (.int .i32 79), .lit (.int .i32 769)], .agg [.lit (.int .i32 218), .lit (.int .i32 85), .lit (.int .i32 769)], .agg [.lit (.int .i32 221), .lit (.int .i32 89), .lit (.int .i32 769)], .agg [.lit (.int .i32 225), .lit (.int .i32 97), .lit (.int .i32 769)], .agg [.lit (.int .i32 233), .lit (.int .i32 101), .lit (.int .i32 769)], .agg [.lit (.int .i32 237), .lit (.int .i32 105), .lit (.int .i32 769)], .agg [.lit (.int .i32 243), .lit (.int .i32 111), .lit (.int .i32 769)], .agg [.lit (.int .i32 250), .lit (.int .i32 117), .lit (.int .i32 769)], .agg [.lit (.int .i32 253), .lit (.int .i32 121), .lit (.int .i32 769)], .agg [.lit (.int .i32 196), .lit (.int .i32 65), .lit (.int .i32 776)], .agg [.lit (.int .i32 203), .lit (.int .i32 69), .lit (.int .i32 776)], .agg [.lit (.int .i32 207), .lit (.int .i32 73), .lit (.int .i32 776)], .agg [.lit (.int .i32 214), .lit (.int .i32 79), .lit (.int .i32 776)], .agg [.lit (.int .i32 220), .lit (.int .i32 85), .lit (.int .i32 776)], .agg [.lit (.int .i32 228), .lit (.int .i32 97), .lit (.int .i32 776)], .agg [.lit (.int .i32 235), .lit (.int .i32 101), .lit (.int .i32 776)], .agg [.lit (.int .i32 239), .lit (.int .i32 105), .lit (.int .i32 776)], .agg [.lit (.int .i32 246), .lit (.int .i32 111), .lit (.int .i32 776)], .agg [.lit (.int .i32 252), .lit (.int .i32 117), .lit (.int .i32 776)], .agg [.lit (.int .i32 199), .lit (.int .i32 67), .lit (.int .i32 807)], .agg [.lit (.int .i32 231), .lit (.int .i32 99), .lit (.int .i32 807)]]
def laid_unicode_utf8_acceptRanges {H : Type} : DataW H := .agg [.agg [.lit (.int .u8 128), .lit (.int .u8 191)], .agg [.lit (.int .u8 160), .lit (.int .u8 191)], .agg [.lit (.int .u8 128), .lit (.int .u8 159)], .agg [.lit (.int .u8 144), .lit (.int .u8 191)], .agg [.lit (.int .u8 128), .lit (.int .u8 143)], .agg [.lit (.int .u8 0), .lit (.int .u8 0)], .agg [.lit (.int .u8 0), .lit (.int .u8 0)], .agg [.lit (.int .u8 0), .lit (.int .u8 0)], .agg [.lit (.int .u8 0), .lit (.int .u8 0)], .agg [.lit (.int .u8 0), .lit (.int .u8 0)], .agg [.lit (.int .u8 0), .lit (.int .u8 0)], .agg [.lit (.int .u8 0), .lit (.int .u8 0)], .agg [.lit (.int .u8 0), .lit (.int .u8 0)], .agg [.lit (.int .u8 0), .lit (.int .u8 0)], .agg [.lit (.int .u8 0), .lit (.int .u8 0)], .agg [.lit (.int .u8 0), .lit (.int .u8 0)]]
/-- One of Go's own tables, pinned by name: the form's constant. -/
def laid_unicode_utf8_first : DataW Unit := Go.Pinned.utf8First

/-- 'jobcaselaw.Names': WHATEVER THE INPUT: true; the input reads as it did. -/
def namesSpec : ChangeSpec := { name := "names", fn := fun _ => fun
  | [] => { results := [.lit (.bool true)], args := [] }
  | _ => none }
def namesRow : OpenClaim := { program := "ytdflokjpgbeniaadoor", sum := "7f39374513ee5ebc6652f814118bbb777c9a5a743d2bf1e966a999d3b9b8ebcf", func := "jobcase/jobcaselaw.Names", spec := "names", named := ["internal/strconv.uint64pow10", "math/bits.deBruijn32tab", "math/bits.deBruijn64tab"], apart := false, laid := [("math/bits.deBruijn32tab", laid_math_bits_deBruijn32tab), ("math/bits.deBruijn64tab", laid_math_bits_deBruijn64tab), ("internal/strconv.uint64pow10", laid_internal_strconv_uint64pow10)] }
def NamesSaid : Prop := namesRow.holds Tryd.pinned (OpenSpec.ofChange namesSpec)

/-- ITS FALSE NEIGHBOUR: 'it returns false'. Refute it at one input. -/
def namesWrong : ChangeSpec := { name := "names", fn := fun _ => fun
  | [] => { results := [.lit (.bool false)], args := [] }
  | _ => none }
def NamesWrongFalsely : Prop := namesRow.holds Tryd.pinned (OpenSpec.ofChange namesWrong)

/-- 'jobcasetop.TopSigns': WHATEVER THE INPUT: true; the input reads as it did. -/
def topSignsSpec : ChangeSpec := { name := "topSigns", fn := fun _ => fun
  | [d] => { results := [.lit (.bool true)], args := [d] }
  | _ => none }
def topSignsRow : OpenClaim := { program := "ytdflokjpgbeniaadoor", sum := "7f39374513ee5ebc6652f814118bbb777c9a5a743d2bf1e966a999d3b9b8ebcf", func := "jobcase/jobcasetop.TopSigns", spec := "topSigns", named := ["jobcase/sign.wholes"], apart := false, laid := [("jobcase/sign.wholes", laid_jobcase_sign_wholes)] }
def TopSignsSaid : Prop := topSignsRow.holds Tryd.pinned (OpenSpec.ofChange topSignsSpec)

/-- ITS FALSE NEIGHBOUR: 'it returns false'. Refute it at one input. -/
def topSignsWrong : ChangeSpec := { name := "topSigns", fn := fun _ => fun
  | [d] => { results := [.lit (.bool false)], args := [d] }
  | _ => none }
def TopSignsWrongFalsely : Prop := topSignsRow.holds Tryd.pinned (OpenSpec.ofChange topSignsWrong)

/-- 'jobcasetop.TopSplit': WHATEVER THE INPUT: true; the input reads as it did. -/
def topSplitSpec : ChangeSpec := { name := "topSplit", fn := fun _ => fun
  | [d] => { results := [.lit (.bool true)], args := [d] }
  | _ => none }
def topSplitRow : OpenClaim := { program := "ytdflokjpgbeniaadoor", sum := "7f39374513ee5ebc6652f814118bbb777c9a5a743d2bf1e966a999d3b9b8ebcf", func := "jobcase/jobcasetop.TopSplit", spec := "topSplit", inPlace := ["internal/abi.NoEscape", "internal/bytealg.MakeNoZero"], unfollowed := true, recurses := true, named := ["jobcase/sign.wholes", "unicode/utf8.first", "unicode/utf8.acceptRanges"], apart := false, laid := [("jobcase/sign.wholes", laid_jobcase_sign_wholes), ("unicode/utf8.acceptRanges", laid_unicode_utf8_acceptRanges), ("unicode/utf8.first", laid_unicode_utf8_first)] }
def TopSplitSaid : Prop := topSplitRow.holds Tryd.pinned (OpenSpec.ofChange topSplitSpec)

/-- ITS FALSE NEIGHBOUR: 'it returns false'. Refute it at one input. -/
def topSplitWrong : ChangeSpec := { name := "topSplit", fn := fun _ => fun
  | [d] => { results := [.lit (.bool false)], args := [d] }
  | _ => none }
def TopSplitWrongFalsely : Prop := topSplitRow.holds Tryd.pinned (OpenSpec.ofChange topSplitWrong)

/-- 'jobcasetop.TopMarks': WHATEVER THE INPUT: true; the input reads as it did. -/
def topMarksSpec : ChangeSpec := { name := "topMarks", fn := fun _ => fun
  | [d1, d2, d3, d4] => { results := [.lit (.bool true)], args := [d1, d2, d3, d4] }
  | _ => none }
def topMarksRow : OpenClaim := { program := "ytdflokjpgbeniaadoor", sum := "7f39374513ee5ebc6652f814118bbb777c9a5a743d2bf1e966a999d3b9b8ebcf", func := "jobcase/jobcasetop.TopMarks", spec := "topMarks", inPlace := ["internal/abi.NoEscape", "internal/bytealg.MakeNoZero"], unfollowed := true, recurses := true, named := ["jobcase/sign.wholes", "unicode/utf8.first", "unicode/utf8.acceptRanges"], apart := false, laid := [("jobcase/sign.wholes", laid_jobcase_sign_wholes), ("unicode/utf8.acceptRanges", laid_unicode_utf8_acceptRanges), ("unicode/utf8.first", laid_unicode_utf8_first)] }
def TopMarksSaid : Prop := topMarksRow.holds Tryd.pinned (OpenSpec.ofChange topMarksSpec)

/-- ITS FALSE NEIGHBOUR: 'it returns false'. Refute it at one input. -/
def topMarksWrong : ChangeSpec := { name := "topMarks", fn := fun _ => fun
  | [d1, d2, d3, d4] => { results := [.lit (.bool false)], args := [d1, d2, d3, d4] }
  | _ => none }
def TopMarksWrongFalsely : Prop := topMarksRow.holds Tryd.pinned (OpenSpec.ofChange topMarksWrong)

/-- 'jobcasetop.TopCase': WHATEVER THE INPUT: true; the input reads as it did. -/
def topCaseSpec : ChangeSpec := { name := "topCase", fn := fun _ => fun
  | [d] => { results := [.lit (.bool true)], args := [d] }
  | _ => none }
def topCaseRow : OpenClaim := { program := "ytdflokjpgbeniaadoor", sum := "7f39374513ee5ebc6652f814118bbb777c9a5a743d2bf1e966a999d3b9b8ebcf", func := "jobcase/jobcasetop.TopCase", spec := "topCase", inPlace := ["internal/abi.NoEscape", "internal/bytealg.MakeNoZero", "internal/bytealg.CountString", "internal/bytealg.IndexByteString", "internal/bytealg.IndexString"], unfollowed := true, recurses := true, named := ["jobcase/sign.wholes", "unicode/utf8.first", "unicode/utf8.acceptRanges", "internal/bytealg.MaxLen"], apart := false, laid := [("jobcase/sign.wholes", laid_jobcase_sign_wholes), ("unicode/utf8.acceptRanges", laid_unicode_utf8_acceptRanges), ("unicode/utf8.first", laid_unicode_utf8_first)] }
def TopCaseSaid : Prop := topCaseRow.holds Tryd.pinned (OpenSpec.ofChange topCaseSpec)

/-- ITS FALSE NEIGHBOUR: 'it returns false'. Refute it at one input. -/
def topCaseWrong : ChangeSpec := { name := "topCase", fn := fun _ => fun
  | [d] => { results := [.lit (.bool false)], args := [d] }
  | _ => none }
def TopCaseWrongFalsely : Prop := topCaseRow.holds Tryd.pinned (OpenSpec.ofChange topCaseWrong)

/-- 'jobcasetop.TopKey': WHATEVER THE INPUT: true; the input reads as it did. -/
def topKeySpec : ChangeSpec := { name := "topKey", fn := fun _ => fun
  | [d1, d2] => { results := [.lit (.bool true)], args := [d1, d2] }
  | _ => none }
def topKeyRow : OpenClaim := { program := "ytdflokjpgbeniaadoor", sum := "7f39374513ee5ebc6652f814118bbb777c9a5a743d2bf1e966a999d3b9b8ebcf", func := "jobcase/jobcasetop.TopKey", spec := "topKey", inPlace := ["internal/abi.NoEscape", "internal/bytealg.MakeNoZero", "internal/bytealg.CountString", "internal/bytealg.IndexByteString", "internal/bytealg.IndexString", "internal/bytealg.abigen_runtime_cmpstring"], unfollowed := true, recurses := true, named := ["jobcase/sign.wholes", "unicode/utf8.first", "unicode/utf8.acceptRanges", "internal/bytealg.MaxLen"], apart := false, laid := [("jobcase/sign.wholes", laid_jobcase_sign_wholes), ("unicode/utf8.acceptRanges", laid_unicode_utf8_acceptRanges), ("unicode/utf8.first", laid_unicode_utf8_first)] }
def TopKeySaid : Prop := topKeyRow.holds Tryd.pinned (OpenSpec.ofChange topKeySpec)

/-- ITS FALSE NEIGHBOUR: 'it returns false'. Refute it at one input. -/
def topKeyWrong : ChangeSpec := { name := "topKey", fn := fun _ => fun
  | [d1, d2] => { results := [.lit (.bool false)], args := [d1, d2] }
  | _ => none }
def TopKeyWrongFalsely : Prop := topKeyRow.holds Tryd.pinned (OpenSpec.ofChange topKeyWrong)

/-- 'jobcasetop.TopOrder': WHATEVER THE INPUT: true; the input reads as it did. -/
def topOrderSpec : ChangeSpec := { name := "topOrder", fn := fun _ => fun
  | [d1, d2, d3] => { results := [.lit (.bool true)], args := [d1, d2, d3] }
  | _ => none }
def topOrderRow : OpenClaim := { program := "ytdflokjpgbeniaadoor", sum := "7f39374513ee5ebc6652f814118bbb777c9a5a743d2bf1e966a999d3b9b8ebcf", func := "jobcase/jobcasetop.TopOrder", spec := "topOrder", inPlace := ["internal/abi.NoEscape", "internal/bytealg.MakeNoZero", "internal/bytealg.CountString", "internal/bytealg.IndexByteString", "internal/bytealg.IndexString", "internal/bytealg.abigen_runtime_cmpstring"], unfollowed := true, recurses := true, named := ["jobcase/sign.wholes", "unicode/utf8.first", "unicode/utf8.acceptRanges", "internal/bytealg.MaxLen"], apart := false, laid := [("jobcase/sign.wholes", laid_jobcase_sign_wholes), ("unicode/utf8.acceptRanges", laid_unicode_utf8_acceptRanges), ("unicode/utf8.first", laid_unicode_utf8_first)] }
def TopOrderSaid : Prop := topOrderRow.holds Tryd.pinned (OpenSpec.ofChange topOrderSpec)

/-- ITS FALSE NEIGHBOUR: 'it returns false'. Refute it at one input. -/
def topOrderWrong : ChangeSpec := { name := "topOrder", fn := fun _ => fun
  | [d1, d2, d3] => { results := [.lit (.bool false)], args := [d1, d2, d3] }
  | _ => none }
def TopOrderWrongFalsely : Prop := topOrderRow.holds Tryd.pinned (OpenSpec.ofChange topOrderWrong)

/-- 'jobcasetop.TopFirst': WHATEVER THE INPUT: true; the input reads as it did. -/
def topFirstSpec : ChangeSpec := { name := "topFirst", fn := fun _ => fun
  | [d1, d2] => { results := [.lit (.bool true)], args := [d1, d2] }
  | _ => none }
def topFirstRow : OpenClaim := { program := "ytdflokjpgbeniaadoor", sum := "7f39374513ee5ebc6652f814118bbb777c9a5a743d2bf1e966a999d3b9b8ebcf", func := "jobcase/jobcasetop.TopFirst", spec := "topFirst", inPlace := ["internal/abi.NoEscape", "internal/bytealg.MakeNoZero", "internal/bytealg.CountString", "internal/bytealg.IndexByteString", "internal/bytealg.IndexString", "internal/bytealg.abigen_runtime_cmpstring"], unfollowed := true, recurses := true, named := ["jobcase/sign.wholes", "unicode/utf8.first", "unicode/utf8.acceptRanges", "internal/bytealg.MaxLen"], apart := false, laid := [("jobcase/sign.wholes", laid_jobcase_sign_wholes), ("unicode/utf8.acceptRanges", laid_unicode_utf8_acceptRanges), ("unicode/utf8.first", laid_unicode_utf8_first)] }
def TopFirstSaid : Prop := topFirstRow.holds Tryd.pinned (OpenSpec.ofChange topFirstSpec)

/-- ITS FALSE NEIGHBOUR: 'it returns false'. Refute it at one input. -/
def topFirstWrong : ChangeSpec := { name := "topFirst", fn := fun _ => fun
  | [d1, d2] => { results := [.lit (.bool false)], args := [d1, d2] }
  | _ => none }
def TopFirstWrongFalsely : Prop := topFirstRow.holds Tryd.pinned (OpenSpec.ofChange topFirstWrong)

/- THE SECOND FORM. 'bulk': how many values and letters a reading holds, each counted each time it is reached (what is shared counts as often as it is met; a slice's spare places count too). A statement '..UptoSaid' is the law's where the arguments, and the package variables that the reading takes, are together of bulk at most 1048576: NARROWER than '..Said'. Prove '..Said' where nothing that the law and all that it calls make is longer than what came in: it says more and counts as full. Else prove '..UptoSaid'. A law counts once. -/
mutual
def uptoBulk {H : Type} : DataW H → Nat
  | .lit (.string bytes) => bytes.length + 1
  | .lit _ => 1
  | .nil => 1
  | .ptr d => uptoBulk d + 1
  | .slice elems spare => uptoBulkAll elems + uptoBulkAll spare + 1
  | .agg parts => uptoBulkAll parts + 1
  | .iface _ d => uptoBulk d + 1
  | .map entries => uptoBulkEntries entries + 1
  | .held _ => 1
def uptoBulkAll {H : Type} : List (DataW H) → Nat
  | [] => 0
  | d :: r => uptoBulk d + uptoBulkAll r
def uptoBulkEntries {H : Type} : List (Lit × DataW H) → Nat
  | [] => 0
  | x :: r => uptoBulkEntry x + uptoBulkEntries r
def uptoBulkEntry {H : Type} : Lit × DataW H → Nat
  | (.string bytes, d) => bytes.length + uptoBulk d + 1
  | (_, d) => uptoBulk d + 1
 end
def uptoSmall : (H : Type) → List (DataW H) → Bool := fun _ ds => decide (uptoBulkAll ds ≤ 1048576)
def OpenSpec.upto (s : _root_.Go.ChangeSpec) : _root_.Go.OpenSpec := { _root_.Go.OpenSpec.ofChange s with cond := some uptoSmall }

/-- 'jobcaselaw.Names', WHERE WHAT IT READS IS OF BULK AT MOST 1048576: true; the input reads as it did. -/
def namesUptoRow : OpenClaim := { program := "ytdflokjpgbeniaadoor", sum := "7f39374513ee5ebc6652f814118bbb777c9a5a743d2bf1e966a999d3b9b8ebcf", func := "jobcase/jobcaselaw.Names", spec := "names", named := ["internal/strconv.uint64pow10", "math/bits.deBruijn32tab", "math/bits.deBruijn64tab"], apart := false, laid := [("math/bits.deBruijn32tab", laid_math_bits_deBruijn32tab), ("math/bits.deBruijn64tab", laid_math_bits_deBruijn64tab), ("internal/strconv.uint64pow10", laid_internal_strconv_uint64pow10)], narrowed := true }
def NamesUptoSaid : Prop := namesUptoRow.holds Tryd.pinned (OpenSpec.upto namesSpec)

/-- 'jobcasetop.TopSigns', WHERE WHAT IT READS IS OF BULK AT MOST 1048576: true; the input reads as it did. -/
def topSignsUptoRow : OpenClaim := { program := "ytdflokjpgbeniaadoor", sum := "7f39374513ee5ebc6652f814118bbb777c9a5a743d2bf1e966a999d3b9b8ebcf", func := "jobcase/jobcasetop.TopSigns", spec := "topSigns", named := ["jobcase/sign.wholes"], apart := false, laid := [("jobcase/sign.wholes", laid_jobcase_sign_wholes)], narrowed := true }
def TopSignsUptoSaid : Prop := topSignsUptoRow.holds Tryd.pinned (OpenSpec.upto topSignsSpec)

/-- 'jobcasetop.TopSplit', WHERE WHAT IT READS IS OF BULK AT MOST 1048576: true; the input reads as it did. -/
def topSplitUptoRow : OpenClaim := { program := "ytdflokjpgbeniaadoor", sum := "7f39374513ee5ebc6652f814118bbb777c9a5a743d2bf1e966a999d3b9b8ebcf", func := "jobcase/jobcasetop.TopSplit", spec := "topSplit", inPlace := ["internal/abi.NoEscape", "internal/bytealg.MakeNoZero"], unfollowed := true, recurses := true, named := ["jobcase/sign.wholes", "unicode/utf8.first", "unicode/utf8.acceptRanges"], apart := false, laid := [("jobcase/sign.wholes", laid_jobcase_sign_wholes), ("unicode/utf8.acceptRanges", laid_unicode_utf8_acceptRanges), ("unicode/utf8.first", laid_unicode_utf8_first)], narrowed := true }
def TopSplitUptoSaid : Prop := topSplitUptoRow.holds Tryd.pinned (OpenSpec.upto topSplitSpec)

/-- 'jobcasetop.TopMarks', WHERE WHAT IT READS IS OF BULK AT MOST 1048576: true; the input reads as it did. -/
def topMarksUptoRow : OpenClaim := { program := "ytdflokjpgbeniaadoor", sum := "7f39374513ee5ebc6652f814118bbb777c9a5a743d2bf1e966a999d3b9b8ebcf", func := "jobcase/jobcasetop.TopMarks", spec := "topMarks", inPlace := ["internal/abi.NoEscape", "internal/bytealg.MakeNoZero"], unfollowed := true, recurses := true, named := ["jobcase/sign.wholes", "unicode/utf8.first", "unicode/utf8.acceptRanges"], apart := false, laid := [("jobcase/sign.wholes", laid_jobcase_sign_wholes), ("unicode/utf8.acceptRanges", laid_unicode_utf8_acceptRanges), ("unicode/utf8.first", laid_unicode_utf8_first)], narrowed := true }
def TopMarksUptoSaid : Prop := topMarksUptoRow.holds Tryd.pinned (OpenSpec.upto topMarksSpec)

/-- 'jobcasetop.TopCase', WHERE WHAT IT READS IS OF BULK AT MOST 1048576: true; the input reads as it did. -/
def topCaseUptoRow : OpenClaim := { program := "ytdflokjpgbeniaadoor", sum := "7f39374513ee5ebc6652f814118bbb777c9a5a743d2bf1e966a999d3b9b8ebcf", func := "jobcase/jobcasetop.TopCase", spec := "topCase", inPlace := ["internal/abi.NoEscape", "internal/bytealg.MakeNoZero", "internal/bytealg.CountString", "internal/bytealg.IndexByteString", "internal/bytealg.IndexString"], unfollowed := true, recurses := true, named := ["jobcase/sign.wholes", "unicode/utf8.first", "unicode/utf8.acceptRanges", "internal/bytealg.MaxLen"], apart := false, laid := [("jobcase/sign.wholes", laid_jobcase_sign_wholes), ("unicode/utf8.acceptRanges", laid_unicode_utf8_acceptRanges), ("unicode/utf8.first", laid_unicode_utf8_first)], narrowed := true }
def TopCaseUptoSaid : Prop := topCaseUptoRow.holds Tryd.pinned (OpenSpec.upto topCaseSpec)

/-- 'jobcasetop.TopKey', WHERE WHAT IT READS IS OF BULK AT MOST 1048576: true; the input reads as it did. -/
def topKeyUptoRow : OpenClaim := { program := "ytdflokjpgbeniaadoor", sum := "7f39374513ee5ebc6652f814118bbb777c9a5a743d2bf1e966a999d3b9b8ebcf", func := "jobcase/jobcasetop.TopKey", spec := "topKey", inPlace := ["internal/abi.NoEscape", "internal/bytealg.MakeNoZero", "internal/bytealg.CountString", "internal/bytealg.IndexByteString", "internal/bytealg.IndexString", "internal/bytealg.abigen_runtime_cmpstring"], unfollowed := true, recurses := true, named := ["jobcase/sign.wholes", "unicode/utf8.first", "unicode/utf8.acceptRanges", "internal/bytealg.MaxLen"], apart := false, laid := [("jobcase/sign.wholes", laid_jobcase_sign_wholes), ("unicode/utf8.acceptRanges", laid_unicode_utf8_acceptRanges), ("unicode/utf8.first", laid_unicode_utf8_first)], narrowed := true }
def TopKeyUptoSaid : Prop := topKeyUptoRow.holds Tryd.pinned (OpenSpec.upto topKeySpec)

/-- 'jobcasetop.TopOrder', WHERE WHAT IT READS IS OF BULK AT MOST 1048576: true; the input reads as it did. -/
def topOrderUptoRow : OpenClaim := { program := "ytdflokjpgbeniaadoor", sum := "7f39374513ee5ebc6652f814118bbb777c9a5a743d2bf1e966a999d3b9b8ebcf", func := "jobcase/jobcasetop.TopOrder", spec := "topOrder", inPlace := ["internal/abi.NoEscape", "internal/bytealg.MakeNoZero", "internal/bytealg.CountString", "internal/bytealg.IndexByteString", "internal/bytealg.IndexString", "internal/bytealg.abigen_runtime_cmpstring"], unfollowed := true, recurses := true, named := ["jobcase/sign.wholes", "unicode/utf8.first", "unicode/utf8.acceptRanges", "internal/bytealg.MaxLen"], apart := false, laid := [("jobcase/sign.wholes", laid_jobcase_sign_wholes), ("unicode/utf8.acceptRanges", laid_unicode_utf8_acceptRanges), ("unicode/utf8.first", laid_unicode_utf8_first)], narrowed := true }
def TopOrderUptoSaid : Prop := topOrderUptoRow.holds Tryd.pinned (OpenSpec.upto topOrderSpec)

/-- 'jobcasetop.TopFirst', WHERE WHAT IT READS IS OF BULK AT MOST 1048576: true; the input reads as it did. -/
def topFirstUptoRow : OpenClaim := { program := "ytdflokjpgbeniaadoor", sum := "7f39374513ee5ebc6652f814118bbb777c9a5a743d2bf1e966a999d3b9b8ebcf", func := "jobcase/jobcasetop.TopFirst", spec := "topFirst", inPlace := ["internal/abi.NoEscape", "internal/bytealg.MakeNoZero", "internal/bytealg.CountString", "internal/bytealg.IndexByteString", "internal/bytealg.IndexString", "internal/bytealg.abigen_runtime_cmpstring"], unfollowed := true, recurses := true, named := ["jobcase/sign.wholes", "unicode/utf8.first", "unicode/utf8.acceptRanges", "internal/bytealg.MaxLen"], apart := false, laid := [("jobcase/sign.wholes", laid_jobcase_sign_wholes), ("unicode/utf8.acceptRanges", laid_unicode_utf8_acceptRanges), ("unicode/utf8.first", laid_unicode_utf8_first)], narrowed := true }
def TopFirstUptoSaid : Prop := topFirstUptoRow.holds Tryd.pinned (OpenSpec.upto topFirstSpec)

end Rows
end Go.Proofs.YtdflokjpgbeniaaDoor
