/-
  No cell of these rows narrows 'for every input' (looked for: loops, veiled, ifaces, maps, wideKeys, modest, calm, conditions, laid).
  DERIVED. THE GIVEN ROWS OF THIS SEAT. 6 by the template 'for every input the law returns true; each argument reads behind the call as it read before'; 0 by the template 'total and deterministic' (their statements: YtpnfkgjcnofjnaaTotals.lean).
  GIVEN WITH THE SEED: the statements are not yours to turn. If you find one false, say at which input.
  Laid BY PROGRAM, IN A SANDBOX (cutbox-rows.mjs): the forced cells as the released guide's own fill.sh prints them over the translation b0a314fd9c3cc062… (all of the seat's roots in one cut). By AI agents, Wed Nov 11 2026. No macro, syntax, notation, axiom, sorry.
-/
import Derived.Test.YtpnfkgjcnofjnaaChecked
import GoSem.Claim
import GoSem.ClaimJoined
import GoSem.ClaimMapViews
import Derived.JoinedTies
import Derived.KernelRfl
namespace Go.Proofs.Ytpnfkgjcnofjnaa
/- THE CELL 'sum', in the pinned program and in every row, IS THE sha256 OF THE DUMP (.gsa) THAT YtpnfkgjcnofjnaaProg.lean LOADS. Nothing in Lean hashes anything: it is a label: what it is worth is what the hold of that sum in a sandbox is worth. -/
noncomputable def Try.pinned : Pinned := { name := "ytpnfkgjcnofjnaa", sum := "b0a314fd9c3cc062daed2d313538dc97d053caf003680d153e66548160d8582b", checked := Try.checked }
namespace Rows
def none {H : Type} : Left H := { results := [], args := [] }

/-- 'hearsaylaw10.TreePlays': WHATEVER THE INPUT: true; the input reads as it did. -/
def treePlaysSpec : ChangeSpec := { name := "treePlays", fn := fun _ => fun
  | [d] => { results := [.lit (.bool true)], args := [d] }
  | _ => none }
def treePlaysRow : OpenClaim := { program := "ytpnfkgjcnofjnaa", sum := "b0a314fd9c3cc062daed2d313538dc97d053caf003680d153e66548160d8582b", func := "hearsay/hearsaylaw10.TreePlays", spec := "treePlays", inPlace := ["slices.overlaps[*hearsay/tree.node[int]]"], unfollowed := true, recurses := true, apart := false }
def TreePlaysSaid : Prop := treePlaysRow.holds Try.pinned (OpenSpec.ofChange treePlaysSpec)

/-- ITS FALSE NEIGHBOUR: 'it returns false'. Refute it at one input. -/
def treePlaysWrong : ChangeSpec := { name := "treePlays", fn := fun _ => fun
  | [d] => { results := [.lit (.bool false)], args := [d] }
  | _ => none }
def TreePlaysWrongFalsely : Prop := treePlaysRow.holds Try.pinned (OpenSpec.ofChange treePlaysWrong)

/-- 'hearsaylaw10.TreeOrder': WHATEVER THE INPUT: true; the input reads as it did. -/
def treeOrderSpec : ChangeSpec := { name := "treeOrder", fn := fun _ => fun
  | [d1, d2] => { results := [.lit (.bool true)], args := [d1, d2] }
  | _ => none }
def treeOrderRow : OpenClaim := { program := "ytpnfkgjcnofjnaa", sum := "b0a314fd9c3cc062daed2d313538dc97d053caf003680d153e66548160d8582b", func := "hearsay/hearsaylaw10.TreeOrder", spec := "treeOrder", inPlace := ["slices.overlaps[*hearsay/tree.node[int]]"], unfollowed := true, recurses := true, apart := false }
def TreeOrderSaid : Prop := treeOrderRow.holds Try.pinned (OpenSpec.ofChange treeOrderSpec)

/-- ITS FALSE NEIGHBOUR: 'it returns false'. Refute it at one input. -/
def treeOrderWrong : ChangeSpec := { name := "treeOrder", fn := fun _ => fun
  | [d1, d2] => { results := [.lit (.bool false)], args := [d1, d2] }
  | _ => none }
def TreeOrderWrongFalsely : Prop := treeOrderRow.holds Try.pinned (OpenSpec.ofChange treeOrderWrong)

/-- 'hearsaylaw10.TreeExists': WHATEVER THE INPUT: true; the input reads as it did. -/
def treeExistsSpec : ChangeSpec := { name := "treeExists", fn := fun _ => fun
  | [d1, d2] => { results := [.lit (.bool true)], args := [d1, d2] }
  | _ => none }
def treeExistsRow : OpenClaim := { program := "ytpnfkgjcnofjnaa", sum := "b0a314fd9c3cc062daed2d313538dc97d053caf003680d153e66548160d8582b", func := "hearsay/hearsaylaw10.TreeExists", spec := "treeExists", inPlace := ["slices.overlaps[*hearsay/tree.node[int]]"], unfollowed := true, recurses := true, apart := false }
def TreeExistsSaid : Prop := treeExistsRow.holds Try.pinned (OpenSpec.ofChange treeExistsSpec)

/-- ITS FALSE NEIGHBOUR: 'it returns false'. Refute it at one input. -/
def treeExistsWrong : ChangeSpec := { name := "treeExists", fn := fun _ => fun
  | [d1, d2] => { results := [.lit (.bool false)], args := [d1, d2] }
  | _ => none }
def TreeExistsWrongFalsely : Prop := treeExistsRow.holds Try.pinned (OpenSpec.ofChange treeExistsWrong)

/-- 'hearsaylaw10.TreeGone': WHATEVER THE INPUT: true; the input reads as it did. -/
def treeGoneSpec : ChangeSpec := { name := "treeGone", fn := fun _ => fun
  | [d1, d2, d3] => { results := [.lit (.bool true)], args := [d1, d2, d3] }
  | _ => none }
def treeGoneRow : OpenClaim := { program := "ytpnfkgjcnofjnaa", sum := "b0a314fd9c3cc062daed2d313538dc97d053caf003680d153e66548160d8582b", func := "hearsay/hearsaylaw10.TreeGone", spec := "treeGone", inPlace := ["slices.overlaps[*hearsay/tree.node[int]]"], unfollowed := true, recurses := true, apart := false }
def TreeGoneSaid : Prop := treeGoneRow.holds Try.pinned (OpenSpec.ofChange treeGoneSpec)

/-- ITS FALSE NEIGHBOUR: 'it returns false'. Refute it at one input. -/
def treeGoneWrong : ChangeSpec := { name := "treeGone", fn := fun _ => fun
  | [d1, d2, d3] => { results := [.lit (.bool false)], args := [d1, d2, d3] }
  | _ => none }
def TreeGoneWrongFalsely : Prop := treeGoneRow.holds Try.pinned (OpenSpec.ofChange treeGoneWrong)

/-- 'hearsaylaw10.TreeMeanwhile': WHATEVER THE INPUT: true; the input reads as it did. -/
def treeMeanwhileSpec : ChangeSpec := { name := "treeMeanwhile", fn := fun _ => fun
  | [d1, d2] => { results := [.lit (.bool true)], args := [d1, d2] }
  | _ => none }
def treeMeanwhileRow : OpenClaim := { program := "ytpnfkgjcnofjnaa", sum := "b0a314fd9c3cc062daed2d313538dc97d053caf003680d153e66548160d8582b", func := "hearsay/hearsaylaw10.TreeMeanwhile", spec := "treeMeanwhile", inPlace := ["slices.overlaps[*hearsay/tree.node[int]]"], unfollowed := true, recurses := true, apart := false }
def TreeMeanwhileSaid : Prop := treeMeanwhileRow.holds Try.pinned (OpenSpec.ofChange treeMeanwhileSpec)

/-- ITS FALSE NEIGHBOUR: 'it returns false'. Refute it at one input. -/
def treeMeanwhileWrong : ChangeSpec := { name := "treeMeanwhile", fn := fun _ => fun
  | [d1, d2] => { results := [.lit (.bool false)], args := [d1, d2] }
  | _ => none }
def TreeMeanwhileWrongFalsely : Prop := treeMeanwhileRow.holds Try.pinned (OpenSpec.ofChange treeMeanwhileWrong)

/-- 'hearsaylaw10.TreeKnown': WHATEVER THE INPUT: true; the input reads as it did. -/
def treeKnownSpec : ChangeSpec := { name := "treeKnown", fn := fun _ => fun
  | [] => { results := [.lit (.bool true)], args := [] }
  | _ => none }
def treeKnownRow : OpenClaim := { program := "ytpnfkgjcnofjnaa", sum := "b0a314fd9c3cc062daed2d313538dc97d053caf003680d153e66548160d8582b", func := "hearsay/hearsaylaw10.TreeKnown", spec := "treeKnown", inPlace := ["slices.overlaps[*hearsay/tree.node[string]]", "slices.overlaps[*hearsay/tree.node[int]]"], unfollowed := true, recurses := true, apart := false }
def TreeKnownSaid : Prop := treeKnownRow.holds Try.pinned (OpenSpec.ofChange treeKnownSpec)

/-- ITS FALSE NEIGHBOUR: 'it returns false'. Refute it at one input. -/
def treeKnownWrong : ChangeSpec := { name := "treeKnown", fn := fun _ => fun
  | [] => { results := [.lit (.bool false)], args := [] }
  | _ => none }
def TreeKnownWrongFalsely : Prop := treeKnownRow.holds Try.pinned (OpenSpec.ofChange treeKnownWrong)

/- THE SECOND FORM. 'bulk': how many values and letters a reading holds, each counted each time it is reached (what is shared counts as often as it is met; a slice's spare places count too). A statement '..UptoSaid' is the law's where the arguments, and the package variables that the reading takes, are together of bulk at most 1048576: NARROWER than '..Said'. Prove '..Said' where nothing that the law and all that it calls make is longer than what came in: it says more and counts as full. Else prove '..UptoSaid'. A law counts once. -/
mutual
def uptoBulk {H : Type} : DataW H → Nat
  | .lit (.string bytes) => bytes.length + 1
  | .lit _ => 1
  | .nil => 1
  | .ptr d => uptoBulk d + 1
  | .slice elems spare => uptoBulkAll elems + uptoBulkAll spare + 1
  | .agg parts => uptoBulkAll parts + 1
  | .iface _ d => uptoBulk d + 1
  | .map entries => uptoBulkEntries entries + 1
  | .held _ => 1
def uptoBulkAll {H : Type} : List (DataW H) → Nat
  | [] => 0
  | d :: r => uptoBulk d + uptoBulkAll r
def uptoBulkEntries {H : Type} : List (Lit × DataW H) → Nat
  | [] => 0
  | x :: r => uptoBulkEntry x + uptoBulkEntries r
def uptoBulkEntry {H : Type} : Lit × DataW H → Nat
  | (.string bytes, d) => bytes.length + uptoBulk d + 1
  | (_, d) => uptoBulk d + 1
 end
def uptoSmall : (H : Type) → List (DataW H) → Bool := fun _ ds => decide (uptoBulkAll ds ≤ 1048576)
def OpenSpec.upto (s : _root_.Go.ChangeSpec) : _root_.Go.OpenSpec := { _root_.Go.OpenSpec.ofChange s with cond := some uptoSmall }

/-- 'hearsaylaw10.TreePlays', WHERE WHAT IT READS IS OF BULK AT MOST 1048576: true; the input reads as it did. -/
def treePlaysUptoRow : OpenClaim := { program := "ytpnfkgjcnofjnaa", sum := "b0a314fd9c3cc062daed2d313538dc97d053caf003680d153e66548160d8582b", func := "hearsay/hearsaylaw10.TreePlays", spec := "treePlays", inPlace := ["slices.overlaps[*hearsay/tree.node[int]]"], unfollowed := true, recurses := true, apart := false, narrowed := true }
def TreePlaysUptoSaid : Prop := treePlaysUptoRow.holds Try.pinned (OpenSpec.upto treePlaysSpec)

/-- 'hearsaylaw10.TreeOrder', WHERE WHAT IT READS IS OF BULK AT MOST 1048576: true; the input reads as it did. -/
def treeOrderUptoRow : OpenClaim := { program := "ytpnfkgjcnofjnaa", sum := "b0a314fd9c3cc062daed2d313538dc97d053caf003680d153e66548160d8582b", func := "hearsay/hearsaylaw10.TreeOrder", spec := "treeOrder", inPlace := ["slices.overlaps[*hearsay/tree.node[int]]"], unfollowed := true, recurses := true, apart := false, narrowed := true }
def TreeOrderUptoSaid : Prop := treeOrderUptoRow.holds Try.pinned (OpenSpec.upto treeOrderSpec)

/-- 'hearsaylaw10.TreeExists', WHERE WHAT IT READS IS OF BULK AT MOST 1048576: true; the input reads as it did. -/
def treeExistsUptoRow : OpenClaim := { program := "ytpnfkgjcnofjnaa", sum := "b0a314fd9c3cc062daed2d313538dc97d053caf003680d153e66548160d8582b", func := "hearsay/hearsaylaw10.TreeExists", spec := "treeExists", inPlace := ["slices.overlaps[*hearsay/tree.node[int]]"], unfollowed := true, recurses := true, apart := false, narrowed := true }
def TreeExistsUptoSaid : Prop := treeExistsUptoRow.holds Try.pinned (OpenSpec.upto treeExistsSpec)

/-- 'hearsaylaw10.TreeGone', WHERE WHAT IT READS IS OF BULK AT MOST 1048576: true; the input reads as it did. -/
def treeGoneUptoRow : OpenClaim := { program := "ytpnfkgjcnofjnaa", sum := "b0a314fd9c3cc062daed2d313538dc97d053caf003680d153e66548160d8582b", func := "hearsay/hearsaylaw10.TreeGone", spec := "treeGone", inPlace := ["slices.overlaps[*hearsay/tree.node[int]]"], unfollowed := true, recurses := true, apart := false, narrowed := true }
def TreeGoneUptoSaid : Prop := treeGoneUptoRow.holds Try.pinned (OpenSpec.upto treeGoneSpec)

/-- 'hearsaylaw10.TreeMeanwhile', WHERE WHAT IT READS IS OF BULK AT MOST 1048576: true; the input reads as it did. -/
def treeMeanwhileUptoRow : OpenClaim := { program := "ytpnfkgjcnofjnaa", sum := "b0a314fd9c3cc062daed2d313538dc97d053caf003680d153e66548160d8582b", func := "hearsay/hearsaylaw10.TreeMeanwhile", spec := "treeMeanwhile", inPlace := ["slices.overlaps[*hearsay/tree.node[int]]"], unfollowed := true, recurses := true, apart := false, narrowed := true }
def TreeMeanwhileUptoSaid : Prop := treeMeanwhileUptoRow.holds Try.pinned (OpenSpec.upto treeMeanwhileSpec)

/-- 'hearsaylaw10.TreeKnown', WHERE WHAT IT READS IS OF BULK AT MOST 1048576: true; the input reads as it did. -/
def treeKnownUptoRow : OpenClaim := { program := "ytpnfkgjcnofjnaa", sum := "b0a314fd9c3cc062daed2d313538dc97d053caf003680d153e66548160d8582b", func := "hearsay/hearsaylaw10.TreeKnown", spec := "treeKnown", inPlace := ["slices.overlaps[*hearsay/tree.node[string]]", "slices.overlaps[*hearsay/tree.node[int]]"], unfollowed := true, recurses := true, apart := false, narrowed := true }
def TreeKnownUptoSaid : Prop := treeKnownUptoRow.holds Try.pinned (OpenSpec.upto treeKnownSpec)

end Rows
end Go.Proofs.Ytpnfkgjcnofjnaa
