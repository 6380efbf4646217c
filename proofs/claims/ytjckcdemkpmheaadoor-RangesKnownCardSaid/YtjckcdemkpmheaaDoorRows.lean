/-
  NARROWER THAN 'FOR EVERY INPUT', by the rows' own cells (each row's printed sentence says how): RangesParse: laid · RangesPrint: laid · RangesAllows: laid · RangesBack: laid · RangesApart: laid · RangesKnown: laid.
  DERIVED. THE GIVEN ROWS OF THIS SEAT. 6 by the template 'for every input the law returns true; each argument reads behind the call as it read before'; 0 by the template 'total and deterministic' (their statements: YtjckcdemkpmheaaDoorTotals.lean).
  GIVEN WITH THE SEED: the statements are not yours to turn. If you find one false, say at which input.
  Laid BY PROGRAM, IN A SANDBOX (cutbox-rows.mjs): the forced cells as the released guide's own fill.sh prints them over the translation 38ec7a282c8ec660… (all of the seat's roots in one cut). By AI agents, Wed Nov 11 2026. No macro, syntax, notation, axiom, sorry.
-/
import Derived.Test.YtjckcdemkpmheaaDoorChecked
import GoSem.PinnedTables
import GoSem.Claim
import GoSem.ClaimJoined
import GoSem.ClaimMapViews
import Derived.JoinedTies
import Derived.KernelRfl
namespace Go.Proofs.YtjckcdemkpmheaaDoor
/- THE CELL 'sum', in the pinned program and in every row, IS THE sha256 OF THE DUMP (.gsa) THAT YtjckcdemkpmheaaDoorProg.lean LOADS. Nothing in Lean hashes anything: it is a label: what it is worth is what the hold of that sum in a sandbox is worth. -/
noncomputable def Tryd.pinned : Pinned := { name := "ytjckcdemkpmheaadoor", sum := "38ec7a282c8ec660b4b69e881f17a4e052532dd3d58342c942531518e56d5807", checked := Tryd.checked }
namespace Rows
def none {H : Type} : Left H := { results := [], args := [] }

/- WHAT THE LISTED PACKAGE-LEVEL VARIABLES READ AS WHEN THE CALL BEGINS. Each datum BY PROGRAM (the guide's laid-datum.mjs) off the statement by which the dump's own 'gosem.cut.vars' lays the variable. In a bare row this is a premise. The card (YtjckcdemkpmheaaDoorCards.lean) ties it to the program's text. -/
def laid_unicode_utf8_acceptRanges {H : Type} : DataW H := .agg [.agg [.lit (.int .u8 128), .lit (.int .u8 191)], .agg [.lit (.int .u8 160), .lit (.int .u8 191)], .agg [.lit (.int .u8 128), .lit (.int .u8 159)], .agg [.lit (.int .u8 144), .lit (.int .u8 191)], .agg [.lit (.int .u8 128), .lit (.int .u8 143)], .agg [.lit (.int .u8 0), .lit (.int .u8 0)], .agg [.lit (.int .u8 0), .lit (.int .u8 0)], .agg [.lit (.int .u8 0), .lit (.int .u8 0)], .agg [.lit (.int .u8 0), .lit (.int .u8 0)], .agg [.lit (.int .u8 0), .lit (.int .u8 0)], .agg [.lit (.int .u8 0), .lit (.int .u8 0)], .agg [.lit (.int .u8 0), .lit (.int .u8 0)], .agg [.lit (.int .u8 0), .lit (.int .u8 0)], .agg [.lit (.int .u8 0), .lit (.int .u8 0)], .agg [.lit (.int .u8 0), .lit (.int .u8 0)], .agg [.lit (.int .u8 0), .lit (.int .u8 0)]]
/-- One of Go's own tables, pinned by name: the form's constant. -/
def laid_unicode_utf8_first : DataW Unit := Go.Pinned.utf8First

/-- 'tithebarnlaw14.RangesParse': WHATEVER THE INPUT: true; the input reads as it did. -/
def rangesParseSpec : ChangeSpec := { name := "rangesParse", fn := fun _ => fun
  | [d] => { results := [.lit (.bool true)], args := [d] }
  | _ => none }
def rangesParseRow : OpenClaim := { program := "ytjckcdemkpmheaadoor", sum := "38ec7a282c8ec660b4b69e881f17a4e052532dd3d58342c942531518e56d5807", func := "tithebarn/tithebarnlaw14.RangesParse", spec := "rangesParse", inPlace := ["internal/bytealg.CountString", "internal/bytealg.IndexByteString", "internal/bytealg.IndexString", "internal/abi.NoEscape", "internal/bytealg.MakeNoZero"], unfollowed := true, recurses := true, named := ["unicode/utf8.first", "unicode/utf8.acceptRanges", "internal/bytealg.MaxLen"], apart := false, laid := [("unicode/utf8.acceptRanges", laid_unicode_utf8_acceptRanges), ("unicode/utf8.first", laid_unicode_utf8_first)] }
def RangesParseSaid : Prop := rangesParseRow.holds Tryd.pinned (OpenSpec.ofChange rangesParseSpec)

/-- ITS FALSE NEIGHBOUR: 'it returns false'. Refute it at one input. -/
def rangesParseWrong : ChangeSpec := { name := "rangesParse", fn := fun _ => fun
  | [d] => { results := [.lit (.bool false)], args := [d] }
  | _ => none }
def RangesParseWrongFalsely : Prop := rangesParseRow.holds Tryd.pinned (OpenSpec.ofChange rangesParseWrong)

/-- 'tithebarnlaw14.RangesPrint': WHATEVER THE INPUT: true; the input reads as it did. -/
def rangesPrintSpec : ChangeSpec := { name := "rangesPrint", fn := fun _ => fun
  | [d] => { results := [.lit (.bool true)], args := [d] }
  | _ => none }
def rangesPrintRow : OpenClaim := { program := "ytjckcdemkpmheaadoor", sum := "38ec7a282c8ec660b4b69e881f17a4e052532dd3d58342c942531518e56d5807", func := "tithebarn/tithebarnlaw14.RangesPrint", spec := "rangesPrint", inPlace := ["internal/bytealg.CountString", "internal/bytealg.IndexByteString", "internal/bytealg.IndexString", "internal/abi.NoEscape", "internal/bytealg.MakeNoZero"], unfollowed := true, recurses := true, named := ["unicode/utf8.first", "unicode/utf8.acceptRanges", "internal/bytealg.MaxLen"], apart := false, laid := [("unicode/utf8.acceptRanges", laid_unicode_utf8_acceptRanges), ("unicode/utf8.first", laid_unicode_utf8_first)] }
def RangesPrintSaid : Prop := rangesPrintRow.holds Tryd.pinned (OpenSpec.ofChange rangesPrintSpec)

/-- ITS FALSE NEIGHBOUR: 'it returns false'. Refute it at one input. -/
def rangesPrintWrong : ChangeSpec := { name := "rangesPrint", fn := fun _ => fun
  | [d] => { results := [.lit (.bool false)], args := [d] }
  | _ => none }
def RangesPrintWrongFalsely : Prop := rangesPrintRow.holds Tryd.pinned (OpenSpec.ofChange rangesPrintWrong)

/-- 'tithebarnlaw14.RangesAllows': WHATEVER THE INPUT: true; the input reads as it did. -/
def rangesAllowsSpec : ChangeSpec := { name := "rangesAllows", fn := fun _ => fun
  | [d1, d2] => { results := [.lit (.bool true)], args := [d1, d2] }
  | _ => none }
def rangesAllowsRow : OpenClaim := { program := "ytjckcdemkpmheaadoor", sum := "38ec7a282c8ec660b4b69e881f17a4e052532dd3d58342c942531518e56d5807", func := "tithebarn/tithebarnlaw14.RangesAllows", spec := "rangesAllows", inPlace := ["internal/bytealg.CountString", "internal/bytealg.IndexByteString", "internal/bytealg.IndexString", "internal/abi.NoEscape", "internal/bytealg.MakeNoZero"], unfollowed := true, recurses := true, named := ["unicode/utf8.first", "unicode/utf8.acceptRanges", "internal/bytealg.MaxLen"], apart := false, laid := [("unicode/utf8.acceptRanges", laid_unicode_utf8_acceptRanges), ("unicode/utf8.first", laid_unicode_utf8_first)] }
def RangesAllowsSaid : Prop := rangesAllowsRow.holds Tryd.pinned (OpenSpec.ofChange rangesAllowsSpec)

/-- ITS FALSE NEIGHBOUR: 'it returns false'. Refute it at one input. -/
def rangesAllowsWrong : ChangeSpec := { name := "rangesAllows", fn := fun _ => fun
  | [d1, d2] => { results := [.lit (.bool false)], args := [d1, d2] }
  | _ => none }
def RangesAllowsWrongFalsely : Prop := rangesAllowsRow.holds Tryd.pinned (OpenSpec.ofChange rangesAllowsWrong)

/-- 'tithebarnlaw14.RangesBack': WHATEVER THE INPUT: true; the input reads as it did. -/
def rangesBackSpec : ChangeSpec := { name := "rangesBack", fn := fun _ => fun
  | [d1, d2, d3] => { results := [.lit (.bool true)], args := [d1, d2, d3] }
  | _ => none }
def rangesBackRow : OpenClaim := { program := "ytjckcdemkpmheaadoor", sum := "38ec7a282c8ec660b4b69e881f17a4e052532dd3d58342c942531518e56d5807", func := "tithebarn/tithebarnlaw14.RangesBack", spec := "rangesBack", inPlace := ["internal/bytealg.CountString", "internal/bytealg.IndexByteString", "internal/bytealg.IndexString", "internal/abi.NoEscape", "internal/bytealg.MakeNoZero"], unfollowed := true, recurses := true, named := ["unicode/utf8.first", "unicode/utf8.acceptRanges", "internal/bytealg.MaxLen"], apart := false, laid := [("unicode/utf8.acceptRanges", laid_unicode_utf8_acceptRanges), ("unicode/utf8.first", laid_unicode_utf8_first)] }
def RangesBackSaid : Prop := rangesBackRow.holds Tryd.pinned (OpenSpec.ofChange rangesBackSpec)

/-- ITS FALSE NEIGHBOUR: 'it returns false'. Refute it at one input. -/
def rangesBackWrong : ChangeSpec := { name := "rangesBack", fn := fun _ => fun
  | [d1, d2, d3] => { results := [.lit (.bool false)], args := [d1, d2, d3] }
  | _ => none }
def RangesBackWrongFalsely : Prop := rangesBackRow.holds Tryd.pinned (OpenSpec.ofChange rangesBackWrong)

/-- 'tithebarnlaw14.RangesApart': WHATEVER THE INPUT: true; the input reads as it did. -/
def rangesApartSpec : ChangeSpec := { name := "rangesApart", fn := fun _ => fun
  | [d1, d2, d3, d4, d5] => { results := [.lit (.bool true)], args := [d1, d2, d3, d4, d5] }
  | _ => none }
def rangesApartRow : OpenClaim := { program := "ytjckcdemkpmheaadoor", sum := "38ec7a282c8ec660b4b69e881f17a4e052532dd3d58342c942531518e56d5807", func := "tithebarn/tithebarnlaw14.RangesApart", spec := "rangesApart", inPlace := ["internal/bytealg.CountString", "internal/bytealg.IndexByteString", "internal/bytealg.IndexString", "internal/abi.NoEscape", "internal/bytealg.MakeNoZero"], unfollowed := true, recurses := true, named := ["unicode/utf8.first", "unicode/utf8.acceptRanges", "internal/bytealg.MaxLen"], apart := false, laid := [("unicode/utf8.acceptRanges", laid_unicode_utf8_acceptRanges), ("unicode/utf8.first", laid_unicode_utf8_first)] }
def RangesApartSaid : Prop := rangesApartRow.holds Tryd.pinned (OpenSpec.ofChange rangesApartSpec)

/-- ITS FALSE NEIGHBOUR: 'it returns false'. Refute it at one input. -/
def rangesApartWrong : ChangeSpec := { name := "rangesApart", fn := fun _ => fun
  | [d1, d2, d3, d4, d5] => { results := [.lit (.bool false)], args := [d1, d2, d3, d4, d5] }
  | _ => none }
def RangesApartWrongFalsely : Prop := rangesApartRow.holds Tryd.pinned (OpenSpec.ofChange rangesApartWrong)

/-- 'tithebarnlaw14.RangesKnown': WHATEVER THE INPUT: true; the input reads as it did. -/
def rangesKnownSpec : ChangeSpec := { name := "rangesKnown", fn := fun _ => fun
  | [] => { results := [.lit (.bool true)], args := [] }
  | _ => none }
def rangesKnownRow : OpenClaim := { program := "ytjckcdemkpmheaadoor", sum := "38ec7a282c8ec660b4b69e881f17a4e052532dd3d58342c942531518e56d5807", func := "tithebarn/tithebarnlaw14.RangesKnown", spec := "rangesKnown", inPlace := ["internal/bytealg.CountString", "internal/bytealg.IndexByteString", "internal/bytealg.IndexString", "internal/abi.NoEscape", "internal/bytealg.MakeNoZero"], unfollowed := true, recurses := true, named := ["unicode/utf8.first", "unicode/utf8.acceptRanges", "internal/bytealg.MaxLen"], apart := false, laid := [("unicode/utf8.acceptRanges", laid_unicode_utf8_acceptRanges), ("unicode/utf8.first", laid_unicode_utf8_first)] }
def RangesKnownSaid : Prop := rangesKnownRow.holds Tryd.pinned (OpenSpec.ofChange rangesKnownSpec)

/-- ITS FALSE NEIGHBOUR: 'it returns false'. Refute it at one input. -/
def rangesKnownWrong : ChangeSpec := { name := "rangesKnown", fn := fun _ => fun
  | [] => { results := [.lit (.bool false)], args := [] }
  | _ => none }
def RangesKnownWrongFalsely : Prop := rangesKnownRow.holds Tryd.pinned (OpenSpec.ofChange rangesKnownWrong)

/- THE SECOND FORM. 'bulk': how many values and letters a reading holds, each counted each time it is reached (what is shared counts as often as it is met; a slice's spare places count too). A statement '..UptoSaid' is the law's where the arguments, and the package variables that the reading takes, are together of bulk at most 1048576: NARROWER than '..Said'. Prove '..Said' where nothing that the law and all that it calls make is longer than what came in: it says more and counts as full. Else prove '..UptoSaid'. A law counts once. -/
mutual
def uptoBulk {H : Type} : DataW H → Nat
  | .lit (.string bytes) => bytes.length + 1
  | .lit _ => 1
  | .nil => 1
  | .ptr d => uptoBulk d + 1
  | .slice elems spare => uptoBulkAll elems + uptoBulkAll spare + 1
  | .agg parts => uptoBulkAll parts + 1
  | .iface _ d => uptoBulk d + 1
  | .map entries => uptoBulkEntries entries + 1
  | .held _ => 1
def uptoBulkAll {H : Type} : List (DataW H) → Nat
  | [] => 0
  | d :: r => uptoBulk d + uptoBulkAll r
def uptoBulkEntries {H : Type} : List (Lit × DataW H) → Nat
  | [] => 0
  | x :: r => uptoBulkEntry x + uptoBulkEntries r
def uptoBulkEntry {H : Type} : Lit × DataW H → Nat
  | (.string bytes, d) => bytes.length + uptoBulk d + 1
  | (_, d) => uptoBulk d + 1
 end
def uptoSmall : (H : Type) → List (DataW H) → Bool := fun _ ds => decide (uptoBulkAll ds ≤ 1048576)
def OpenSpec.upto (s : _root_.Go.ChangeSpec) : _root_.Go.OpenSpec := { _root_.Go.OpenSpec.ofChange s with cond := some uptoSmall }

/-- 'tithebarnlaw14.RangesParse', WHERE WHAT IT READS IS OF BULK AT MOST 1048576: true; the input reads as it did. -/
def rangesParseUptoRow : OpenClaim := { program := "ytjckcdemkpmheaadoor", sum := "38ec7a282c8ec660b4b69e881f17a4e052532dd3d58342c942531518e56d5807", func := "tithebarn/tithebarnlaw14.RangesParse", spec := "rangesParse", inPlace := ["internal/bytealg.CountString", "internal/bytealg.IndexByteString", "internal/bytealg.IndexString", "internal/abi.NoEscape", "internal/bytealg.MakeNoZero"], unfollowed := true, recurses := true, named := ["unicode/utf8.first", "unicode/utf8.acceptRanges", "internal/bytealg.MaxLen"], apart := false, laid := [("unicode/utf8.acceptRanges", laid_unicode_utf8_acceptRanges), ("unicode/utf8.first", laid_unicode_utf8_first)], narrowed := true }
def RangesParseUptoSaid : Prop := rangesParseUptoRow.holds Tryd.pinned (OpenSpec.upto rangesParseSpec)

/-- 'tithebarnlaw14.RangesPrint', WHERE WHAT IT READS IS OF BULK AT MOST 1048576: true; the input reads as it did. -/
def rangesPrintUptoRow : OpenClaim := { program := "ytjckcdemkpmheaadoor", sum := "38ec7a282c8ec660b4b69e881f17a4e052532dd3d58342c942531518e56d5807", func := "tithebarn/tithebarnlaw14.RangesPrint", spec := "rangesPrint", inPlace := ["internal/bytealg.CountString", "internal/bytealg.IndexByteString", "internal/bytealg.IndexString", "internal/abi.NoEscape", "internal/bytealg.MakeNoZero"], unfollowed := true, recurses := true, named := ["unicode/utf8.first", "unicode/utf8.acceptRanges", "internal/bytealg.MaxLen"], apart := false, laid := [("unicode/utf8.acceptRanges", laid_unicode_utf8_acceptRanges), ("unicode/utf8.first", laid_unicode_utf8_first)], narrowed := true }
def RangesPrintUptoSaid : Prop := rangesPrintUptoRow.holds Tryd.pinned (OpenSpec.upto rangesPrintSpec)

/-- 'tithebarnlaw14.RangesAllows', WHERE WHAT IT READS IS OF BULK AT MOST 1048576: true; the input reads as it did. -/
def rangesAllowsUptoRow : OpenClaim := { program := "ytjckcdemkpmheaadoor", sum := "38ec7a282c8ec660b4b69e881f17a4e052532dd3d58342c942531518e56d5807", func := "tithebarn/tithebarnlaw14.RangesAllows", spec := "rangesAllows", inPlace := ["internal/bytealg.CountString", "internal/bytealg.IndexByteString", "internal/bytealg.IndexString", "internal/abi.NoEscape", "internal/bytealg.MakeNoZero"], unfollowed := true, recurses := true, named := ["unicode/utf8.first", "unicode/utf8.acceptRanges", "internal/bytealg.MaxLen"], apart := false, laid := [("unicode/utf8.acceptRanges", laid_unicode_utf8_acceptRanges), ("unicode/utf8.first", laid_unicode_utf8_first)], narrowed := true }
def RangesAllowsUptoSaid : Prop := rangesAllowsUptoRow.holds Tryd.pinned (OpenSpec.upto rangesAllowsSpec)

/-- 'tithebarnlaw14.RangesBack', WHERE WHAT IT READS IS OF BULK AT MOST 1048576: true; the input reads as it did. -/
def rangesBackUptoRow : OpenClaim := { program := "ytjckcdemkpmheaadoor", sum := "38ec7a282c8ec660b4b69e881f17a4e052532dd3d58342c942531518e56d5807", func := "tithebarn/tithebarnlaw14.RangesBack", spec := "rangesBack", inPlace := ["internal/bytealg.CountString", "internal/bytealg.IndexByteString", "internal/bytealg.IndexString", "internal/abi.NoEscape", "internal/bytealg.MakeNoZero"], unfollowed := true, recurses := true, named := ["unicode/utf8.first", "unicode/utf8.acceptRanges", "internal/bytealg.MaxLen"], apart := false, laid := [("unicode/utf8.acceptRanges", laid_unicode_utf8_acceptRanges), ("unicode/utf8.first", laid_unicode_utf8_first)], narrowed := true }
def RangesBackUptoSaid : Prop := rangesBackUptoRow.holds Tryd.pinned (OpenSpec.upto rangesBackSpec)

/-- 'tithebarnlaw14.RangesApart', WHERE WHAT IT READS IS OF BULK AT MOST 1048576: true; the input reads as it did. -/
def rangesApartUptoRow : OpenClaim := { program := "ytjckcdemkpmheaadoor", sum := "38ec7a282c8ec660b4b69e881f17a4e052532dd3d58342c942531518e56d5807", func := "tithebarn/tithebarnlaw14.RangesApart", spec := "rangesApart", inPlace := ["internal/bytealg.CountString", "internal/bytealg.IndexByteString", "internal/bytealg.IndexString", "internal/abi.NoEscape", "internal/bytealg.MakeNoZero"], unfollowed := true, recurses := true, named := ["unicode/utf8.first", "unicode/utf8.acceptRanges", "internal/bytealg.MaxLen"], apart := false, laid := [("unicode/utf8.acceptRanges", laid_unicode_utf8_acceptRanges), ("unicode/utf8.first", laid_unicode_utf8_first)], narrowed := true }
def RangesApartUptoSaid : Prop := rangesApartUptoRow.holds Tryd.pinned (OpenSpec.upto rangesApartSpec)

/-- 'tithebarnlaw14.RangesKnown', WHERE WHAT IT READS IS OF BULK AT MOST 1048576: true; the input reads as it did. -/
def rangesKnownUptoRow : OpenClaim := { program := "ytjckcdemkpmheaadoor", sum := "38ec7a282c8ec660b4b69e881f17a4e052532dd3d58342c942531518e56d5807", func := "tithebarn/tithebarnlaw14.RangesKnown", spec := "rangesKnown", inPlace := ["internal/bytealg.CountString", "internal/bytealg.IndexByteString", "internal/bytealg.IndexString", "internal/abi.NoEscape", "internal/bytealg.MakeNoZero"], unfollowed := true, recurses := true, named := ["unicode/utf8.first", "unicode/utf8.acceptRanges", "internal/bytealg.MaxLen"], apart := false, laid := [("unicode/utf8.acceptRanges", laid_unicode_utf8_acceptRanges), ("unicode/utf8.first", laid_unicode_utf8_first)], narrowed := true }
def RangesKnownUptoSaid : Prop := rangesKnownUptoRow.holds Tryd.pinned (OpenSpec.upto rangesKnownSpec)

end Rows
end Go.Proofs.YtjckcdemkpmheaaDoor
