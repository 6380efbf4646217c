/-
  NARROWER THAN 'FOR EVERY INPUT', by the rows' own cells (each row's printed sentence says how): CatalogueCheck: laid · CatalogueParse: laid · CatalogueBack: laid · CatalogueFind: laid · CatalogueSame: laid · CatalogueWants: laid · CatalogueKnown: laid.
  DERIVED. THE GIVEN ROWS OF THIS SEAT. 7 by the template 'for every input the law returns true; each argument reads behind the call as it read before'; 0 by the template 'total and deterministic' (their statements: YtcnedecmmplmoaaGreatDoorTotals.lean).
  GIVEN WITH THE SEED: the statements are not yours to turn. If you find one false, say at which input.
  Laid BY PROGRAM, IN A SANDBOX (cutbox-rows.mjs): the forced cells as the released guide's own fill.sh prints them over the translation 75b83a0de728f030… (all of the seat's roots in one cut). By AI agents, Wed Nov 11 2026. No macro, syntax, notation, axiom, sorry.
-/
import Derived.Test.YtcnedecmmplmoaaGreatDoorChecked
import GoSem.PinnedTables
import GoSem.Claim
import GoSem.ClaimJoined
import GoSem.ClaimMapViews
import Derived.JoinedTies
import Derived.KernelRfl
namespace Go.Proofs.YtcnedecmmplmoaaGreatDoor
/- THE CELL 'sum', in the pinned program and in every row, IS THE sha256 OF THE DUMP (.gsa) THAT YtcnedecmmplmoaaGreatDoorProg.lean LOADS. Nothing in Lean hashes anything: it is a label: what it is worth is what the hold of that sum in a sandbox is worth. -/
noncomputable def Tryz.pinned : Pinned := { name := "ytcnedecmmplmoaagreatdoor", sum := "75b83a0de728f0305426a73e51def5ac20052dea60a97a8b1e44e500256f7f98", checked := Tryz.checked }
namespace Rows
def none {H : Type} : Left H := { results := [], args := [] }

/- WHAT THE LISTED PACKAGE-LEVEL VARIABLES READ AS WHEN THE CALL BEGINS. Each datum BY PROGRAM (the guide's laid-datum.mjs) off the statement by which the dump's own 'gosem.cut.vars' lays the variable. In a bare row this is a premise. The card (YtcnedecmmplmoaaGreatDoorCards.lean) ties it to the program's text. -/
def laid_unicode_utf8_acceptRanges {H : Type} : DataW H := .agg [.agg [.lit (.int .u8 128), .lit (.int .u8 191)], .agg [.lit (.int .u8 160), .lit (.int .u8 191)], .agg [.lit (.int .u8 128), .lit (.int .u8 159)], .agg [.lit (.int .u8 144), .lit (.int .u8 191)], .agg [.lit (.int .u8 128), .lit (.int .u8 143)], .agg [.lit (.int .u8 0), .lit (.int .u8 0)], .agg [.lit (.int .u8 0), .lit (.int .u8 0)], .agg [.lit (.int .u8 0), .lit (.int .u8 0)], .agg [.lit (.int .u8 0), .lit (.int .u8 0)], .agg [.lit (.int .u8 0), .lit (.int .u8 0)], .agg [.lit (.int .u8 0), .lit (.int .u8 0)], .agg [.lit (.int .u8 0), .lit (.int .u8 0)], .agg [.lit (.int .u8 0), .lit (.int .u8 0)], .agg [.lit (.int .u8 0), .lit (.int .u8 0)], .agg [.lit (.int .u8 0), .lit (.int .u8 0)], .agg [.lit (.int .u8 0), .lit (.int .u8 0)]]
/-- One of Go's own tables, pinned by name: the form's constant. -/
def laid_unicode_utf8_first : DataW Unit := Go.Pinned.utf8First

/-- 'tithebarnlaw15.CatalogueCheck': WHATEVER THE INPUT: true; the input reads as it did. -/
def catalogueCheckSpec : ChangeSpec := { name := "catalogueCheck", fn := fun _ => fun
  | [d] => { results := [.lit (.bool true)], args := [d] }
  | _ => none }
def catalogueCheckRow : OpenClaim := { program := "ytcnedecmmplmoaagreatdoor", sum := "75b83a0de728f0305426a73e51def5ac20052dea60a97a8b1e44e500256f7f98", func := "tithebarn/tithebarnlaw15.CatalogueCheck", spec := "catalogueCheck", inPlace := ["internal/bytealg.IndexByteString", "internal/bytealg.IndexString", "internal/bytealg.CountString", "internal/abi.NoEscape", "internal/bytealg.MakeNoZero"], unfollowed := true, recurses := true, named := ["internal/bytealg.MaxLen", "unicode/utf8.first", "unicode/utf8.acceptRanges"], plainKeys := false, apart := false, laid := [("unicode/utf8.acceptRanges", laid_unicode_utf8_acceptRanges), ("unicode/utf8.first", laid_unicode_utf8_first)] }
def CatalogueCheckSaid : Prop := catalogueCheckRow.holds Tryz.pinned (OpenSpec.ofChange catalogueCheckSpec)

/-- ITS FALSE NEIGHBOUR: 'it returns false'. Refute it at one input. -/
def catalogueCheckWrong : ChangeSpec := { name := "catalogueCheck", fn := fun _ => fun
  | [d] => { results := [.lit (.bool false)], args := [d] }
  | _ => none }
def CatalogueCheckWrongFalsely : Prop := catalogueCheckRow.holds Tryz.pinned (OpenSpec.ofChange catalogueCheckWrong)

/-- 'tithebarnlaw15.CatalogueParse': WHATEVER THE INPUT: true; the input reads as it did. -/
def catalogueParseSpec : ChangeSpec := { name := "catalogueParse", fn := fun _ => fun
  | [d] => { results := [.lit (.bool true)], args := [d] }
  | _ => none }
def catalogueParseRow : OpenClaim := { program := "ytcnedecmmplmoaagreatdoor", sum := "75b83a0de728f0305426a73e51def5ac20052dea60a97a8b1e44e500256f7f98", func := "tithebarn/tithebarnlaw15.CatalogueParse", spec := "catalogueParse", inPlace := ["internal/bytealg.IndexByteString", "internal/bytealg.IndexString", "internal/bytealg.CountString", "internal/abi.NoEscape", "internal/bytealg.MakeNoZero"], unfollowed := true, recurses := true, named := ["internal/bytealg.MaxLen", "unicode/utf8.first", "unicode/utf8.acceptRanges"], plainKeys := false, apart := false, laid := [("unicode/utf8.acceptRanges", laid_unicode_utf8_acceptRanges), ("unicode/utf8.first", laid_unicode_utf8_first)] }
def CatalogueParseSaid : Prop := catalogueParseRow.holds Tryz.pinned (OpenSpec.ofChange catalogueParseSpec)

/-- ITS FALSE NEIGHBOUR: 'it returns false'. Refute it at one input. -/
def catalogueParseWrong : ChangeSpec := { name := "catalogueParse", fn := fun _ => fun
  | [d] => { results := [.lit (.bool false)], args := [d] }
  | _ => none }
def CatalogueParseWrongFalsely : Prop := catalogueParseRow.holds Tryz.pinned (OpenSpec.ofChange catalogueParseWrong)

/-- 'tithebarnlaw15.CatalogueBack': WHATEVER THE INPUT: true; the input reads as it did. -/
def catalogueBackSpec : ChangeSpec := { name := "catalogueBack", fn := fun _ => fun
  | [d1, d2, d3] => { results := [.lit (.bool true)], args := [d1, d2, d3] }
  | _ => none }
def catalogueBackRow : OpenClaim := { program := "ytcnedecmmplmoaagreatdoor", sum := "75b83a0de728f0305426a73e51def5ac20052dea60a97a8b1e44e500256f7f98", func := "tithebarn/tithebarnlaw15.CatalogueBack", spec := "catalogueBack", inPlace := ["internal/bytealg.IndexByteString", "internal/bytealg.IndexString", "internal/bytealg.CountString", "internal/abi.NoEscape", "internal/bytealg.MakeNoZero"], unfollowed := true, recurses := true, named := ["internal/bytealg.MaxLen", "unicode/utf8.first", "unicode/utf8.acceptRanges"], plainKeys := false, apart := false, laid := [("unicode/utf8.acceptRanges", laid_unicode_utf8_acceptRanges), ("unicode/utf8.first", laid_unicode_utf8_first)] }
def CatalogueBackSaid : Prop := catalogueBackRow.holds Tryz.pinned (OpenSpec.ofChange catalogueBackSpec)

/-- ITS FALSE NEIGHBOUR: 'it returns false'. Refute it at one input. -/
def catalogueBackWrong : ChangeSpec := { name := "catalogueBack", fn := fun _ => fun
  | [d1, d2, d3] => { results := [.lit (.bool false)], args := [d1, d2, d3] }
  | _ => none }
def CatalogueBackWrongFalsely : Prop := catalogueBackRow.holds Tryz.pinned (OpenSpec.ofChange catalogueBackWrong)

/-- 'tithebarnlaw15.CatalogueFind': WHATEVER THE INPUT: true; the input reads as it did. -/
def catalogueFindSpec : ChangeSpec := { name := "catalogueFind", fn := fun _ => fun
  | [d1, d2] => { results := [.lit (.bool true)], args := [d1, d2] }
  | _ => none }
def catalogueFindRow : OpenClaim := { program := "ytcnedecmmplmoaagreatdoor", sum := "75b83a0de728f0305426a73e51def5ac20052dea60a97a8b1e44e500256f7f98", func := "tithebarn/tithebarnlaw15.CatalogueFind", spec := "catalogueFind", inPlace := ["internal/bytealg.IndexByteString", "internal/bytealg.IndexString", "internal/bytealg.CountString", "internal/abi.NoEscape", "internal/bytealg.MakeNoZero"], unfollowed := true, recurses := true, named := ["internal/bytealg.MaxLen", "unicode/utf8.first", "unicode/utf8.acceptRanges"], plainKeys := false, apart := false, laid := [("unicode/utf8.acceptRanges", laid_unicode_utf8_acceptRanges), ("unicode/utf8.first", laid_unicode_utf8_first)] }
def CatalogueFindSaid : Prop := catalogueFindRow.holds Tryz.pinned (OpenSpec.ofChange catalogueFindSpec)

/-- ITS FALSE NEIGHBOUR: 'it returns false'. Refute it at one input. -/
def catalogueFindWrong : ChangeSpec := { name := "catalogueFind", fn := fun _ => fun
  | [d1, d2] => { results := [.lit (.bool false)], args := [d1, d2] }
  | _ => none }
def CatalogueFindWrongFalsely : Prop := catalogueFindRow.holds Tryz.pinned (OpenSpec.ofChange catalogueFindWrong)

/-- 'tithebarnlaw15.CatalogueSame': WHATEVER THE INPUT: true; the input reads as it did. -/
def catalogueSameSpec : ChangeSpec := { name := "catalogueSame", fn := fun _ => fun
  | [d1, d2] => { results := [.lit (.bool true)], args := [d1, d2] }
  | _ => none }
def catalogueSameRow : OpenClaim := { program := "ytcnedecmmplmoaagreatdoor", sum := "75b83a0de728f0305426a73e51def5ac20052dea60a97a8b1e44e500256f7f98", func := "tithebarn/tithebarnlaw15.CatalogueSame", spec := "catalogueSame", inPlace := ["internal/bytealg.IndexByteString", "internal/bytealg.IndexString", "internal/bytealg.CountString", "internal/abi.NoEscape", "internal/bytealg.MakeNoZero"], unfollowed := true, recurses := true, named := ["internal/bytealg.MaxLen", "unicode/utf8.first", "unicode/utf8.acceptRanges"], plainKeys := false, apart := false, laid := [("unicode/utf8.acceptRanges", laid_unicode_utf8_acceptRanges), ("unicode/utf8.first", laid_unicode_utf8_first)] }
def CatalogueSameSaid : Prop := catalogueSameRow.holds Tryz.pinned (OpenSpec.ofChange catalogueSameSpec)

/-- ITS FALSE NEIGHBOUR: 'it returns false'. Refute it at one input. -/
def catalogueSameWrong : ChangeSpec := { name := "catalogueSame", fn := fun _ => fun
  | [d1, d2] => { results := [.lit (.bool false)], args := [d1, d2] }
  | _ => none }
def CatalogueSameWrongFalsely : Prop := catalogueSameRow.holds Tryz.pinned (OpenSpec.ofChange catalogueSameWrong)

/-- 'tithebarnlaw15.CatalogueWants': WHATEVER THE INPUT: true; the input reads as it did. -/
def catalogueWantsSpec : ChangeSpec := { name := "catalogueWants", fn := fun _ => fun
  | [d] => { results := [.lit (.bool true)], args := [d] }
  | _ => none }
def catalogueWantsRow : OpenClaim := { program := "ytcnedecmmplmoaagreatdoor", sum := "75b83a0de728f0305426a73e51def5ac20052dea60a97a8b1e44e500256f7f98", func := "tithebarn/tithebarnlaw15.CatalogueWants", spec := "catalogueWants", inPlace := ["internal/bytealg.IndexByteString", "internal/bytealg.IndexString", "internal/bytealg.CountString", "internal/abi.NoEscape", "internal/bytealg.MakeNoZero"], unfollowed := true, recurses := true, named := ["internal/bytealg.MaxLen", "unicode/utf8.first", "unicode/utf8.acceptRanges"], plainKeys := false, apart := false, laid := [("unicode/utf8.acceptRanges", laid_unicode_utf8_acceptRanges), ("unicode/utf8.first", laid_unicode_utf8_first)] }
def CatalogueWantsSaid : Prop := catalogueWantsRow.holds Tryz.pinned (OpenSpec.ofChange catalogueWantsSpec)

/-- ITS FALSE NEIGHBOUR: 'it returns false'. Refute it at one input. -/
def catalogueWantsWrong : ChangeSpec := { name := "catalogueWants", fn := fun _ => fun
  | [d] => { results := [.lit (.bool false)], args := [d] }
  | _ => none }
def CatalogueWantsWrongFalsely : Prop := catalogueWantsRow.holds Tryz.pinned (OpenSpec.ofChange catalogueWantsWrong)

/-- 'tithebarnlaw15.CatalogueKnown': WHATEVER THE INPUT: true; the input reads as it did. -/
def catalogueKnownSpec : ChangeSpec := { name := "catalogueKnown", fn := fun _ => fun
  | [] => { results := [.lit (.bool true)], args := [] }
  | _ => none }
def catalogueKnownRow : OpenClaim := { program := "ytcnedecmmplmoaagreatdoor", sum := "75b83a0de728f0305426a73e51def5ac20052dea60a97a8b1e44e500256f7f98", func := "tithebarn/tithebarnlaw15.CatalogueKnown", spec := "catalogueKnown", inPlace := ["internal/bytealg.IndexByteString", "internal/bytealg.IndexString", "internal/bytealg.CountString", "internal/abi.NoEscape", "internal/bytealg.MakeNoZero"], unfollowed := true, recurses := true, named := ["internal/bytealg.MaxLen", "unicode/utf8.first", "unicode/utf8.acceptRanges"], plainKeys := false, apart := false, laid := [("unicode/utf8.acceptRanges", laid_unicode_utf8_acceptRanges), ("unicode/utf8.first", laid_unicode_utf8_first)] }
def CatalogueKnownSaid : Prop := catalogueKnownRow.holds Tryz.pinned (OpenSpec.ofChange catalogueKnownSpec)

/-- ITS FALSE NEIGHBOUR: 'it returns false'. Refute it at one input. -/
def catalogueKnownWrong : ChangeSpec := { name := "catalogueKnown", fn := fun _ => fun
  | [] => { results := [.lit (.bool false)], args := [] }
  | _ => none }
def CatalogueKnownWrongFalsely : Prop := catalogueKnownRow.holds Tryz.pinned (OpenSpec.ofChange catalogueKnownWrong)

/- THE SECOND FORM. 'bulk': how many values and letters a reading holds, each counted each time it is reached (what is shared counts as often as it is met; a slice's spare places count too). A statement '..UptoSaid' is the law's where the arguments, and the package variables that the reading takes, are together of bulk at most 1048576: NARROWER than '..Said'. Prove '..Said' where nothing that the law and all that it calls make is longer than what came in: it says more and counts as full. Else prove '..UptoSaid'. A law counts once. -/
mutual
def uptoBulk {H : Type} : DataW H → Nat
  | .lit (.string bytes) => bytes.length + 1
  | .lit _ => 1
  | .nil => 1
  | .ptr d => uptoBulk d + 1
  | .slice elems spare => uptoBulkAll elems + uptoBulkAll spare + 1
  | .agg parts => uptoBulkAll parts + 1
  | .iface _ d => uptoBulk d + 1
  | .map entries => uptoBulkEntries entries + 1
  | .held _ => 1
def uptoBulkAll {H : Type} : List (DataW H) → Nat
  | [] => 0
  | d :: r => uptoBulk d + uptoBulkAll r
def uptoBulkEntries {H : Type} : List (Lit × DataW H) → Nat
  | [] => 0
  | x :: r => uptoBulkEntry x + uptoBulkEntries r
def uptoBulkEntry {H : Type} : Lit × DataW H → Nat
  | (.string bytes, d) => bytes.length + uptoBulk d + 1
  | (_, d) => uptoBulk d + 1
 end
def uptoSmall : (H : Type) → List (DataW H) → Bool := fun _ ds => decide (uptoBulkAll ds ≤ 1048576)
def OpenSpec.upto (s : _root_.Go.ChangeSpec) : _root_.Go.OpenSpec := { _root_.Go.OpenSpec.ofChange s with cond := some uptoSmall }

/-- 'tithebarnlaw15.CatalogueCheck', WHERE WHAT IT READS IS OF BULK AT MOST 1048576: true; the input reads as it did. -/
def catalogueCheckUptoRow : OpenClaim := { program := "ytcnedecmmplmoaagreatdoor", sum := "75b83a0de728f0305426a73e51def5ac20052dea60a97a8b1e44e500256f7f98", func := "tithebarn/tithebarnlaw15.CatalogueCheck", spec := "catalogueCheck", inPlace := ["internal/bytealg.IndexByteString", "internal/bytealg.IndexString", "internal/bytealg.CountString", "internal/abi.NoEscape", "internal/bytealg.MakeNoZero"], unfollowed := true, recurses := true, named := ["internal/bytealg.MaxLen", "unicode/utf8.first", "unicode/utf8.acceptRanges"], plainKeys := false, apart := false, laid := [("unicode/utf8.acceptRanges", laid_unicode_utf8_acceptRanges), ("unicode/utf8.first", laid_unicode_utf8_first)], narrowed := true }
def CatalogueCheckUptoSaid : Prop := catalogueCheckUptoRow.holds Tryz.pinned (OpenSpec.upto catalogueCheckSpec)

/-- 'tithebarnlaw15.CatalogueParse', WHERE WHAT IT READS IS OF BULK AT MOST 1048576: true; the input reads as it did. -/
def catalogueParseUptoRow : OpenClaim := { program := "ytcnedecmmplmoaagreatdoor", sum := "75b83a0de728f0305426a73e51def5ac20052dea60a97a8b1e44e500256f7f98", func := "tithebarn/tithebarnlaw15.CatalogueParse", spec := "catalogueParse", inPlace := ["internal/bytealg.IndexByteString", "internal/bytealg.IndexString", "internal/bytealg.CountString", "internal/abi.NoEscape", "internal/bytealg.MakeNoZero"], unfollowed := true, recurses := true, named := ["internal/bytealg.MaxLen", "unicode/utf8.first", "unicode/utf8.acceptRanges"], plainKeys := false, apart := false, laid := [("unicode/utf8.acceptRanges", laid_unicode_utf8_acceptRanges), ("unicode/utf8.first", laid_unicode_utf8_first)], narrowed := true }
def CatalogueParseUptoSaid : Prop := catalogueParseUptoRow.holds Tryz.pinned (OpenSpec.upto catalogueParseSpec)

/-- 'tithebarnlaw15.CatalogueBack', WHERE WHAT IT READS IS OF BULK AT MOST 1048576: true; the input reads as it did. -/
def catalogueBackUptoRow : OpenClaim := { program := "ytcnedecmmplmoaagreatdoor", sum := "75b83a0de728f0305426a73e51def5ac20052dea60a97a8b1e44e500256f7f98", func := "tithebarn/tithebarnlaw15.CatalogueBack", spec := "catalogueBack", inPlace := ["internal/bytealg.IndexByteString", "internal/bytealg.IndexString", "internal/bytealg.CountString", "internal/abi.NoEscape", "internal/bytealg.MakeNoZero"], unfollowed := true, recurses := true, named := ["internal/bytealg.MaxLen", "unicode/utf8.first", "unicode/utf8.acceptRanges"], plainKeys := false, apart := false, laid := [("unicode/utf8.acceptRanges", laid_unicode_utf8_acceptRanges), ("unicode/utf8.first", laid_unicode_utf8_first)], narrowed := true }
def CatalogueBackUptoSaid : Prop := catalogueBackUptoRow.holds Tryz.pinned (OpenSpec.upto catalogueBackSpec)

/-- 'tithebarnlaw15.CatalogueFind', WHERE WHAT IT READS IS OF BULK AT MOST 1048576: true; the input reads as it did. -/
def catalogueFindUptoRow : OpenClaim := { program := "ytcnedecmmplmoaagreatdoor", sum := "75b83a0de728f0305426a73e51def5ac20052dea60a97a8b1e44e500256f7f98", func := "tithebarn/tithebarnlaw15.CatalogueFind", spec := "catalogueFind", inPlace := ["internal/bytealg.IndexByteString", "internal/bytealg.IndexString", "internal/bytealg.CountString", "internal/abi.NoEscape", "internal/bytealg.MakeNoZero"], unfollowed := true, recurses := true, named := ["internal/bytealg.MaxLen", "unicode/utf8.first", "unicode/utf8.acceptRanges"], plainKeys := false, apart := false, laid := [("unicode/utf8.acceptRanges", laid_unicode_utf8_acceptRanges), ("unicode/utf8.first", laid_unicode_utf8_first)], narrowed := true }
def CatalogueFindUptoSaid : Prop := catalogueFindUptoRow.holds Tryz.pinned (OpenSpec.upto catalogueFindSpec)

/-- 'tithebarnlaw15.CatalogueSame', WHERE WHAT IT READS IS OF BULK AT MOST 1048576: true; the input reads as it did. -/
def catalogueSameUptoRow : OpenClaim := { program := "ytcnedecmmplmoaagreatdoor", sum := "75b83a0de728f0305426a73e51def5ac20052dea60a97a8b1e44e500256f7f98", func := "tithebarn/tithebarnlaw15.CatalogueSame", spec := "catalogueSame", inPlace := ["internal/bytealg.IndexByteString", "internal/bytealg.IndexString", "internal/bytealg.CountString", "internal/abi.NoEscape", "internal/bytealg.MakeNoZero"], unfollowed := true, recurses := true, named := ["internal/bytealg.MaxLen", "unicode/utf8.first", "unicode/utf8.acceptRanges"], plainKeys := false, apart := false, laid := [("unicode/utf8.acceptRanges", laid_unicode_utf8_acceptRanges), ("unicode/utf8.first", laid_unicode_utf8_first)], narrowed := true }
def CatalogueSameUptoSaid : Prop := catalogueSameUptoRow.holds Tryz.pinned (OpenSpec.upto catalogueSameSpec)

/-- 'tithebarnlaw15.CatalogueWants', WHERE WHAT IT READS IS OF BULK AT MOST 1048576: true; the input reads as it did. -/
def catalogueWantsUptoRow : OpenClaim := { program := "ytcnedecmmplmoaagreatdoor", sum := "75b83a0de728f0305426a73e51def5ac20052dea60a97a8b1e44e500256f7f98", func := "tithebarn/tithebarnlaw15.CatalogueWants", spec := "catalogueWants", inPlace := ["internal/bytealg.IndexByteString", "internal/bytealg.IndexString", "internal/bytealg.CountString", "internal/abi.NoEscape", "internal/bytealg.MakeNoZero"], unfollowed := true, recurses := true, named := ["internal/bytealg.MaxLen", "unicode/utf8.first", "unicode/utf8.acceptRanges"], plainKeys := false, apart := false, laid := [("unicode/utf8.acceptRanges", laid_unicode_utf8_acceptRanges), ("unicode/utf8.first", laid_unicode_utf8_first)], narrowed := true }
def CatalogueWantsUptoSaid : Prop := catalogueWantsUptoRow.holds Tryz.pinned (OpenSpec.upto catalogueWantsSpec)

/-- 'tithebarnlaw15.CatalogueKnown', WHERE WHAT IT READS IS OF BULK AT MOST 1048576: true; the input reads as it did. -/
def catalogueKnownUptoRow : OpenClaim := { program := "ytcnedecmmplmoaagreatdoor", sum := "75b83a0de728f0305426a73e51def5ac20052dea60a97a8b1e44e500256f7f98", func := "tithebarn/tithebarnlaw15.CatalogueKnown", spec := "catalogueKnown", inPlace := ["internal/bytealg.IndexByteString", "internal/bytealg.IndexString", "internal/bytealg.CountString", "internal/abi.NoEscape", "internal/bytealg.MakeNoZero"], unfollowed := true, recurses := true, named := ["internal/bytealg.MaxLen", "unicode/utf8.first", "unicode/utf8.acceptRanges"], plainKeys := false, apart := false, laid := [("unicode/utf8.acceptRanges", laid_unicode_utf8_acceptRanges), ("unicode/utf8.first", laid_unicode_utf8_first)], narrowed := true }
def CatalogueKnownUptoSaid : Prop := catalogueKnownUptoRow.holds Tryz.pinned (OpenSpec.upto catalogueKnownSpec)

end Rows
end Go.Proofs.YtcnedecmmplmoaaGreatDoor
