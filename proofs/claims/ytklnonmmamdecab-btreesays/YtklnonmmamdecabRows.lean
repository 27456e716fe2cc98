/-
  No cell of these rows narrows 'for every input' (looked for: loops, veiled, ifaces, maps, wideKeys, modest, calm, conditions, laid).
  DERIVED. THE GIVEN ROWS OF THIS SEAT. 3 by the template 'for every input the law returns true; each argument reads behind the call as it read before'; 0 by the template 'total and deterministic' (their statements: YtklnonmmamdecabTotals.lean).
  GIVEN WITH THE SEED: the statements are not yours to turn. If you find one false, say at which input.
  Laid BY PROGRAM, IN A SANDBOX (cutbox-rows.mjs): the forced cells as the released guide's own fill.sh prints them over the translation 3c1fa5f9bbfbf031… (all of the seat's roots in one cut). By AI agents, Wed Nov 11 2026. No macro, syntax, notation, axiom, sorry.
-/
import Derived.Test.YtklnonmmamdecabChecked
import GoSem.Claim
import GoSem.ClaimJoined
import GoSem.ClaimMapViews
import Derived.JoinedTies
import Derived.KernelRfl
namespace Go.Proofs.Ytklnonmmamdecab
/- THE CELL 'sum', in the pinned program and in every row, IS THE sha256 OF THE DUMP (.gsa) THAT YtklnonmmamdecabProg.lean LOADS. Nothing in Lean hashes anything: it is a label: what it is worth is what the hold of that sum in a sandbox is worth. -/
noncomputable def Try.pinned : Pinned := { name := "ytklnonmmamdecab", sum := "3c1fa5f9bbfbf03157d50ed6a33d2fd23875cfc11e9c4fc6b08b9921a5ab752e", checked := Try.checked }
namespace Rows
def none {H : Type} : Left H := { results := [], args := [] }

/-- 'jobcaselaw.BtreeSays': WHATEVER THE INPUT: true; the input reads as it did. -/
def btreeSaysSpec : ChangeSpec := { name := "btreeSays", fn := fun _ => fun
  | [d1, d2, d3] => { results := [.lit (.bool true)], args := [d1, d2, d3] }
  | _ => none }
def btreeSaysRow : OpenClaim := { program := "ytklnonmmamdecab", sum := "3c1fa5f9bbfbf03157d50ed6a33d2fd23875cfc11e9c4fc6b08b9921a5ab752e", func := "jobcase/jobcaselaw.BtreeSays", spec := "btreeSays", inPlace := ["internal/bytealg.abigen_runtime_cmpstring", "slices.overlaps[jobcase/btree.item]", "slices.overlaps[*jobcase/btree.node]"], unfollowed := true, recurses := true, apart := false }
def BtreeSaysSaid : Prop := btreeSaysRow.holds Try.pinned (OpenSpec.ofChange btreeSaysSpec)

/-- ITS FALSE NEIGHBOUR: 'it returns false'. Refute it at one input. -/
def btreeSaysWrong : ChangeSpec := { name := "btreeSays", fn := fun _ => fun
  | [d1, d2, d3] => { results := [.lit (.bool false)], args := [d1, d2, d3] }
  | _ => none }
def BtreeSaysWrongFalsely : Prop := btreeSaysRow.holds Try.pinned (OpenSpec.ofChange btreeSaysWrong)

/-- 'jobcasetop.TopTree': WHATEVER THE INPUT: true; the input reads as it did. -/
def topTreeSpec : ChangeSpec := { name := "topTree", fn := fun _ => fun
  | [d] => { results := [.lit (.bool true)], args := [d] }
  | _ => none }
def topTreeRow : OpenClaim := { program := "ytklnonmmamdecab", sum := "3c1fa5f9bbfbf03157d50ed6a33d2fd23875cfc11e9c4fc6b08b9921a5ab752e", func := "jobcase/jobcasetop.TopTree", spec := "topTree", inPlace := ["internal/bytealg.abigen_runtime_cmpstring", "slices.overlaps[jobcase/btree.item]", "slices.overlaps[*jobcase/btree.node]"], unfollowed := true, recurses := true, apart := false }
def TopTreeSaid : Prop := topTreeRow.holds Try.pinned (OpenSpec.ofChange topTreeSpec)

/-- ITS FALSE NEIGHBOUR: 'it returns false'. Refute it at one input. -/
def topTreeWrong : ChangeSpec := { name := "topTree", fn := fun _ => fun
  | [d] => { results := [.lit (.bool false)], args := [d] }
  | _ => none }
def TopTreeWrongFalsely : Prop := topTreeRow.holds Try.pinned (OpenSpec.ofChange topTreeWrong)

/-- 'jobcasetop.TopWalk': WHATEVER THE INPUT: true; the input reads as it did. -/
def topWalkSpec : ChangeSpec := { name := "topWalk", fn := fun _ => fun
  | [d1, d2] => { results := [.lit (.bool true)], args := [d1, d2] }
  | _ => none }
def topWalkRow : OpenClaim := { program := "ytklnonmmamdecab", sum := "3c1fa5f9bbfbf03157d50ed6a33d2fd23875cfc11e9c4fc6b08b9921a5ab752e", func := "jobcase/jobcasetop.TopWalk", spec := "topWalk", inPlace := ["internal/bytealg.abigen_runtime_cmpstring", "slices.overlaps[jobcase/btree.item]", "slices.overlaps[*jobcase/btree.node]"], unfollowed := true, recurses := true, apart := false }
def TopWalkSaid : Prop := topWalkRow.holds Try.pinned (OpenSpec.ofChange topWalkSpec)

/-- ITS FALSE NEIGHBOUR: 'it returns false'. Refute it at one input. -/
def topWalkWrong : ChangeSpec := { name := "topWalk", fn := fun _ => fun
  | [d1, d2] => { results := [.lit (.bool false)], args := [d1, d2] }
  | _ => none }
def TopWalkWrongFalsely : Prop := topWalkRow.holds Try.pinned (OpenSpec.ofChange topWalkWrong)

/- THE SECOND FORM. 'bulk': how many values and letters a reading holds, each counted each time it is reached (what is shared counts as often as it is met; a slice's spare places count too). A statement '..UptoSaid' is the law's where the arguments, and the package variables that the reading takes, are together of bulk at most 1048576: NARROWER than '..Said'. Prove '..Said' where nothing that the law and all that it calls make is longer than what came in: it says more and counts as full. Else prove '..UptoSaid'. A law counts once. -/
mutual
def uptoBulk {H : Type} : DataW H → Nat
  | .lit (.string bytes) => bytes.length + 1
  | .lit _ => 1
  | .nil => 1
  | .ptr d => uptoBulk d + 1
  | .slice elems spare => uptoBulkAll elems + uptoBulkAll spare + 1
  | .agg parts => uptoBulkAll parts + 1
  | .iface _ d => uptoBulk d + 1
  | .map entries => uptoBulkEntries entries + 1
  | .held _ => 1
def uptoBulkAll {H : Type} : List (DataW H) → Nat
  | [] => 0
  | d :: r => uptoBulk d + uptoBulkAll r
def uptoBulkEntries {H : Type} : List (Lit × DataW H) → Nat
  | [] => 0
  | x :: r => uptoBulkEntry x + uptoBulkEntries r
def uptoBulkEntry {H : Type} : Lit × DataW H → Nat
  | (.string bytes, d) => bytes.length + uptoBulk d + 1
  | (_, d) => uptoBulk d + 1
 end
def uptoSmall : (H : Type) → List (DataW H) → Bool := fun _ ds => decide (uptoBulkAll ds ≤ 1048576)
def OpenSpec.upto (s : _root_.Go.ChangeSpec) : _root_.Go.OpenSpec := { _root_.Go.OpenSpec.ofChange s with cond := some uptoSmall }

/-- 'jobcaselaw.BtreeSays', WHERE WHAT IT READS IS OF BULK AT MOST 1048576: true; the input reads as it did. -/
def btreeSaysUptoRow : OpenClaim := { program := "ytklnonmmamdecab", sum := "3c1fa5f9bbfbf03157d50ed6a33d2fd23875cfc11e9c4fc6b08b9921a5ab752e", func := "jobcase/jobcaselaw.BtreeSays", spec := "btreeSays", inPlace := ["internal/bytealg.abigen_runtime_cmpstring", "slices.overlaps[jobcase/btree.item]", "slices.overlaps[*jobcase/btree.node]"], unfollowed := true, recurses := true, apart := false, narrowed := true }
def BtreeSaysUptoSaid : Prop := btreeSaysUptoRow.holds Try.pinned (OpenSpec.upto btreeSaysSpec)

/-- 'jobcasetop.TopTree', WHERE WHAT IT READS IS OF BULK AT MOST 1048576: true; the input reads as it did. -/
def topTreeUptoRow : OpenClaim := { program := "ytklnonmmamdecab", sum := "3c1fa5f9bbfbf03157d50ed6a33d2fd23875cfc11e9c4fc6b08b9921a5ab752e", func := "jobcase/jobcasetop.TopTree", spec := "topTree", inPlace := ["internal/bytealg.abigen_runtime_cmpstring", "slices.overlaps[jobcase/btree.item]", "slices.overlaps[*jobcase/btree.node]"], unfollowed := true, recurses := true, apart := false, narrowed := true }
def TopTreeUptoSaid : Prop := topTreeUptoRow.holds Try.pinned (OpenSpec.upto topTreeSpec)

/-- 'jobcasetop.TopWalk', WHERE WHAT IT READS IS OF BULK AT MOST 1048576: true; the input reads as it did. -/
def topWalkUptoRow : OpenClaim := { program := "ytklnonmmamdecab", sum := "3c1fa5f9bbfbf03157d50ed6a33d2fd23875cfc11e9c4fc6b08b9921a5ab752e", func := "jobcase/jobcasetop.TopWalk", spec := "topWalk", inPlace := ["internal/bytealg.abigen_runtime_cmpstring", "slices.overlaps[jobcase/btree.item]", "slices.overlaps[*jobcase/btree.node]"], unfollowed := true, recurses := true, apart := false, narrowed := true }
def TopWalkUptoSaid : Prop := topWalkUptoRow.holds Try.pinned (OpenSpec.upto topWalkSpec)

end Rows
end Go.Proofs.Ytklnonmmamdecab
