/-
  No cell of these rows narrows 'for every input' (looked for: loops, veiled, ifaces, maps, wideKeys, modest, calm, conditions, laid).
  DERIVED. THE GIVEN ROWS OF THIS SEAT. 4 by the template 'for every input the law returns true; each argument reads behind the call as it read before'; 0 by the template 'total and deterministic' (their statements: YtijepjoklmblhaaTotals.lean).
  GIVEN WITH THE SEED: the statements are not yours to turn. If you find one false, say at which input.
  Laid BY PROGRAM, IN A SANDBOX (cutbox-rows.mjs): the forced cells as the released guide's own fill.sh prints them over the translation fe8310415904df15… (all of the seat's roots in one cut). By AI agents, Wed Nov 11 2026. No macro, syntax, notation, axiom, sorry.
-/
import Derived.Test.YtijepjoklmblhaaChecked
import GoSem.Claim
import GoSem.ClaimJoined
import GoSem.ClaimMapViews
import Derived.JoinedTies
import Derived.KernelRfl
namespace Go.Proofs.Ytijepjoklmblhaa
/- THE CELL 'sum', in the pinned program and in every row, IS THE sha256 OF THE DUMP (.gsa) THAT YtijepjoklmblhaaProg.lean LOADS. Nothing in Lean hashes anything: it is a label: what it is worth is what the hold of that sum in a sandbox is worth. -/
noncomputable def Try.pinned : Pinned := { name := "ytijepjoklmblhaa", sum := "fe8310415904df15fba45cdf60c21a7939e35cd6c389eb320676b47f7dbffa1c", checked := Try.checked }
namespace Rows
def none {H : Type} : Left H := { results := [], args := [] }

/-- 'tithebarnlaw13.VersionParse': WHATEVER THE INPUT: true; the input reads as it did. -/
def versionParseSpec : ChangeSpec := { name := "versionParse", fn := fun _ => fun
  | [d] => { results := [.lit (.bool true)], args := [d] }
  | _ => none }
def versionParseRow : OpenClaim := { program := "ytijepjoklmblhaa", sum := "fe8310415904df15fba45cdf60c21a7939e35cd6c389eb320676b47f7dbffa1c", func := "tithebarn/tithebarnlaw13.VersionParse", spec := "versionParse", inPlace := ["internal/bytealg.IndexByteString", "internal/bytealg.IndexString"], unfollowed := true, recurses := true, named := ["internal/bytealg.MaxLen"], apart := false }
def VersionParseSaid : Prop := versionParseRow.holds Try.pinned (OpenSpec.ofChange versionParseSpec)

/-- ITS FALSE NEIGHBOUR: 'it returns false'. Refute it at one input. -/
def versionParseWrong : ChangeSpec := { name := "versionParse", fn := fun _ => fun
  | [d] => { results := [.lit (.bool false)], args := [d] }
  | _ => none }
def VersionParseWrongFalsely : Prop := versionParseRow.holds Try.pinned (OpenSpec.ofChange versionParseWrong)

/-- 'tithebarnlaw13.VersionCompare': WHATEVER THE INPUT: true; the input reads as it did. -/
def versionCompareSpec : ChangeSpec := { name := "versionCompare", fn := fun _ => fun
  | [d1, d2, d3, d4] => { results := [.lit (.bool true)], args := [d1, d2, d3, d4] }
  | _ => none }
def versionCompareRow : OpenClaim := { program := "ytijepjoklmblhaa", sum := "fe8310415904df15fba45cdf60c21a7939e35cd6c389eb320676b47f7dbffa1c", func := "tithebarn/tithebarnlaw13.VersionCompare", spec := "versionCompare", inPlace := ["internal/bytealg.IndexByteString", "internal/bytealg.IndexString"], unfollowed := true, recurses := true, named := ["internal/bytealg.MaxLen"], apart := false }
def VersionCompareSaid : Prop := versionCompareRow.holds Try.pinned (OpenSpec.ofChange versionCompareSpec)

/-- ITS FALSE NEIGHBOUR: 'it returns false'. Refute it at one input. -/
def versionCompareWrong : ChangeSpec := { name := "versionCompare", fn := fun _ => fun
  | [d1, d2, d3, d4] => { results := [.lit (.bool false)], args := [d1, d2, d3, d4] }
  | _ => none }
def VersionCompareWrongFalsely : Prop := versionCompareRow.holds Try.pinned (OpenSpec.ofChange versionCompareWrong)

/-- 'tithebarnlaw13.VersionOrder': WHATEVER THE INPUT: true; the input reads as it did. -/
def versionOrderSpec : ChangeSpec := { name := "versionOrder", fn := fun _ => fun
  | [d1, d2, d3] => { results := [.lit (.bool true)], args := [d1, d2, d3] }
  | _ => none }
def versionOrderRow : OpenClaim := { program := "ytijepjoklmblhaa", sum := "fe8310415904df15fba45cdf60c21a7939e35cd6c389eb320676b47f7dbffa1c", func := "tithebarn/tithebarnlaw13.VersionOrder", spec := "versionOrder", inPlace := ["internal/bytealg.IndexByteString", "internal/bytealg.IndexString"], unfollowed := true, recurses := true, named := ["internal/bytealg.MaxLen"], apart := false }
def VersionOrderSaid : Prop := versionOrderRow.holds Try.pinned (OpenSpec.ofChange versionOrderSpec)

/-- ITS FALSE NEIGHBOUR: 'it returns false'. Refute it at one input. -/
def versionOrderWrong : ChangeSpec := { name := "versionOrder", fn := fun _ => fun
  | [d1, d2, d3] => { results := [.lit (.bool false)], args := [d1, d2, d3] }
  | _ => none }
def VersionOrderWrongFalsely : Prop := versionOrderRow.holds Try.pinned (OpenSpec.ofChange versionOrderWrong)

/-- 'tithebarnlaw13.VersionSort': WHATEVER THE INPUT: true; the input reads as it did. -/
def versionSortSpec : ChangeSpec := { name := "versionSort", fn := fun _ => fun
  | [d] => { results := [.lit (.bool true)], args := [d] }
  | _ => none }
def versionSortRow : OpenClaim := { program := "ytijepjoklmblhaa", sum := "fe8310415904df15fba45cdf60c21a7939e35cd6c389eb320676b47f7dbffa1c", func := "tithebarn/tithebarnlaw13.VersionSort", spec := "versionSort", inPlace := ["internal/bytealg.IndexByteString", "internal/bytealg.IndexString"], unfollowed := true, recurses := true, named := ["internal/bytealg.MaxLen"], apart := false }
def VersionSortSaid : Prop := versionSortRow.holds Try.pinned (OpenSpec.ofChange versionSortSpec)

/-- ITS FALSE NEIGHBOUR: 'it returns false'. Refute it at one input. -/
def versionSortWrong : ChangeSpec := { name := "versionSort", fn := fun _ => fun
  | [d] => { results := [.lit (.bool false)], args := [d] }
  | _ => none }
def VersionSortWrongFalsely : Prop := versionSortRow.holds Try.pinned (OpenSpec.ofChange versionSortWrong)

/- THE SECOND FORM. 'bulk': how many values and letters a reading holds, each counted each time it is reached (what is shared counts as often as it is met; a slice's spare places count too). A statement '..UptoSaid' is the law's where the arguments, and the package variables that the reading takes, are together of bulk at most 1048576: NARROWER than '..Said'. Prove '..Said' where nothing that the law and all that it calls make is longer than what came in: it says more and counts as full. Else prove '..UptoSaid'. A law counts once. -/
mutual
def uptoBulk {H : Type} : DataW H → Nat
  | .lit (.string bytes) => bytes.length + 1
  | .lit _ => 1
  | .nil => 1
  | .ptr d => uptoBulk d + 1
  | .slice elems spare => uptoBulkAll elems + uptoBulkAll spare + 1
  | .agg parts => uptoBulkAll parts + 1
  | .iface _ d => uptoBulk d + 1
  | .map entries => uptoBulkEntries entries + 1
  | .held _ => 1
def uptoBulkAll {H : Type} : List (DataW H) → Nat
  | [] => 0
  | d :: r => uptoBulk d + uptoBulkAll r
def uptoBulkEntries {H : Type} : List (Lit × DataW H) → Nat
  | [] => 0
  | x :: r => uptoBulkEntry x + uptoBulkEntries r
def uptoBulkEntry {H : Type} : Lit × DataW H → Nat
  | (.string bytes, d) => bytes.length + uptoBulk d + 1
  | (_, d) => uptoBulk d + 1
 end
def uptoSmall : (H : Type) → List (DataW H) → Bool := fun _ ds => decide (uptoBulkAll ds ≤ 1048576)
def OpenSpec.upto (s : _root_.Go.ChangeSpec) : _root_.Go.OpenSpec := { _root_.Go.OpenSpec.ofChange s with cond := some uptoSmall }

/-- 'tithebarnlaw13.VersionParse', WHERE WHAT IT READS IS OF BULK AT MOST 1048576: true; the input reads as it did. -/
def versionParseUptoRow : OpenClaim := { program := "ytijepjoklmblhaa", sum := "fe8310415904df15fba45cdf60c21a7939e35cd6c389eb320676b47f7dbffa1c", func := "tithebarn/tithebarnlaw13.VersionParse", spec := "versionParse", inPlace := ["internal/bytealg.IndexByteString", "internal/bytealg.IndexString"], unfollowed := true, recurses := true, named := ["internal/bytealg.MaxLen"], apart := false, narrowed := true }
def VersionParseUptoSaid : Prop := versionParseUptoRow.holds Try.pinned (OpenSpec.upto versionParseSpec)

/-- 'tithebarnlaw13.VersionCompare', WHERE WHAT IT READS IS OF BULK AT MOST 1048576: true; the input reads as it did. -/
def versionCompareUptoRow : OpenClaim := { program := "ytijepjoklmblhaa", sum := "fe8310415904df15fba45cdf60c21a7939e35cd6c389eb320676b47f7dbffa1c", func := "tithebarn/tithebarnlaw13.VersionCompare", spec := "versionCompare", inPlace := ["internal/bytealg.IndexByteString", "internal/bytealg.IndexString"], unfollowed := true, recurses := true, named := ["internal/bytealg.MaxLen"], apart := false, narrowed := true }
def VersionCompareUptoSaid : Prop := versionCompareUptoRow.holds Try.pinned (OpenSpec.upto versionCompareSpec)

/-- 'tithebarnlaw13.VersionOrder', WHERE WHAT IT READS IS OF BULK AT MOST 1048576: true; the input reads as it did. -/
def versionOrderUptoRow : OpenClaim := { program := "ytijepjoklmblhaa", sum := "fe8310415904df15fba45cdf60c21a7939e35cd6c389eb320676b47f7dbffa1c", func := "tithebarn/tithebarnlaw13.VersionOrder", spec := "versionOrder", inPlace := ["internal/bytealg.IndexByteString", "internal/bytealg.IndexString"], unfollowed := true, recurses := true, named := ["internal/bytealg.MaxLen"], apart := false, narrowed := true }
def VersionOrderUptoSaid : Prop := versionOrderUptoRow.holds Try.pinned (OpenSpec.upto versionOrderSpec)

/-- 'tithebarnlaw13.VersionSort', WHERE WHAT IT READS IS OF BULK AT MOST 1048576: true; the input reads as it did. -/
def versionSortUptoRow : OpenClaim := { program := "ytijepjoklmblhaa", sum := "fe8310415904df15fba45cdf60c21a7939e35cd6c389eb320676b47f7dbffa1c", func := "tithebarn/tithebarnlaw13.VersionSort", spec := "versionSort", inPlace := ["internal/bytealg.IndexByteString", "internal/bytealg.IndexString"], unfollowed := true, recurses := true, named := ["internal/bytealg.MaxLen"], apart := false, narrowed := true }
def VersionSortUptoSaid : Prop := versionSortUptoRow.holds Try.pinned (OpenSpec.upto versionSortSpec)

end Rows
end Go.Proofs.Ytijepjoklmblhaa
