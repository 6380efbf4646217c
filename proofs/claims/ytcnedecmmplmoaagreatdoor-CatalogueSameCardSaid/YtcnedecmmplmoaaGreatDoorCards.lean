/-
  DERIVED. GIVEN WITH THE SEED: THE CARDS: each row of YtcnedecmmplmoaaGreatDoorRows.lean that lists a variable, with what it lists TIED to the program's text (the seventh form; the later family's looks); each row that meets fmt, with fmt's text TOLD by the authors' own Lean function (tested against real Go, not proved from fmt's source: count such statements apart). THE CARD IS WHAT COUNTS. Prove the row's statement (the work); the ties are given (YtcnedecmmplmoaaGreatDoorTie.lean); close each card by the builder's one call (the guide's Derived/Test/ToyasCard.lean, 'card_holds'). Laid BY PROGRAM, IN A SANDBOX (cutbox-door.mjs). By AI agents, Wed Nov 11 2026. No macro, syntax, notation, axiom, sorry.
-/
import Derived.Test.YtcnedecmmplmoaaGreatDoorRows
import GoSem.ClaimSeven
namespace Go.Proofs.YtcnedecmmplmoaaGreatDoor
namespace Rows

/-- THE TIED CARD OF 'tithebarnlaw15.CatalogueCheck'. -/
def catalogueCheckCard : Claim7 := { stood := { row := catalogueCheckRow, standIns := [], harness := (true, "369d6cfd5ba66b7667e0d154935096a96d961355d3162af4e6aa24276fee9189"), looks := false }, kinds := [], alts := [], laidByText := true, laidKinds := [.data, .pinned], laidTests := true, laidLooks := .later }
def CatalogueCheckCardSaid : Prop := Claim7.holds Tryz.pinned (.plain (OpenSpec.ofChange catalogueCheckSpec)) catalogueCheckCard

/-- THE TIED CARD OF 'tithebarnlaw15.CatalogueParse'. -/
def catalogueParseCard : Claim7 := { stood := { row := catalogueParseRow, standIns := [], harness := (true, "369d6cfd5ba66b7667e0d154935096a96d961355d3162af4e6aa24276fee9189"), looks := false }, kinds := [], alts := [], laidByText := true, laidKinds := [.data, .pinned], laidTests := true, laidLooks := .later }
def CatalogueParseCardSaid : Prop := Claim7.holds Tryz.pinned (.plain (OpenSpec.ofChange catalogueParseSpec)) catalogueParseCard

/-- THE TIED CARD OF 'tithebarnlaw15.CatalogueBack'. -/
def catalogueBackCard : Claim7 := { stood := { row := catalogueBackRow, standIns := [], harness := (true, "369d6cfd5ba66b7667e0d154935096a96d961355d3162af4e6aa24276fee9189"), looks := false }, kinds := [], alts := [], laidByText := true, laidKinds := [.data, .pinned], laidTests := true, laidLooks := .later }
def CatalogueBackCardSaid : Prop := Claim7.holds Tryz.pinned (.plain (OpenSpec.ofChange catalogueBackSpec)) catalogueBackCard

/-- THE TIED CARD OF 'tithebarnlaw15.CatalogueFind'. -/
def catalogueFindCard : Claim7 := { stood := { row := catalogueFindRow, standIns := [], harness := (true, "369d6cfd5ba66b7667e0d154935096a96d961355d3162af4e6aa24276fee9189"), looks := false }, kinds := [], alts := [], laidByText := true, laidKinds := [.data, .pinned], laidTests := true, laidLooks := .later }
def CatalogueFindCardSaid : Prop := Claim7.holds Tryz.pinned (.plain (OpenSpec.ofChange catalogueFindSpec)) catalogueFindCard

/-- THE TIED CARD OF 'tithebarnlaw15.CatalogueSame'. -/
def catalogueSameCard : Claim7 := { stood := { row := catalogueSameRow, standIns := [], harness := (true, "369d6cfd5ba66b7667e0d154935096a96d961355d3162af4e6aa24276fee9189"), looks := false }, kinds := [], alts := [], laidByText := true, laidKinds := [.data, .pinned], laidTests := true, laidLooks := .later }
def CatalogueSameCardSaid : Prop := Claim7.holds Tryz.pinned (.plain (OpenSpec.ofChange catalogueSameSpec)) catalogueSameCard

/-- THE TIED CARD OF 'tithebarnlaw15.CatalogueWants'. -/
def catalogueWantsCard : Claim7 := { stood := { row := catalogueWantsRow, standIns := [], harness := (true, "369d6cfd5ba66b7667e0d154935096a96d961355d3162af4e6aa24276fee9189"), looks := false }, kinds := [], alts := [], laidByText := true, laidKinds := [.data, .pinned], laidTests := true, laidLooks := .later }
def CatalogueWantsCardSaid : Prop := Claim7.holds Tryz.pinned (.plain (OpenSpec.ofChange catalogueWantsSpec)) catalogueWantsCard

/-- THE TIED CARD OF 'tithebarnlaw15.CatalogueKnown'. -/
def catalogueKnownCard : Claim7 := { stood := { row := catalogueKnownRow, standIns := [], harness := (true, "369d6cfd5ba66b7667e0d154935096a96d961355d3162af4e6aa24276fee9189"), looks := false }, kinds := [], alts := [], laidByText := true, laidKinds := [.data, .pinned], laidTests := true, laidLooks := .later }
def CatalogueKnownCardSaid : Prop := Claim7.holds Tryz.pinned (.plain (OpenSpec.ofChange catalogueKnownSpec)) catalogueKnownCard

/-- THE SECOND FORM's CARD OF 'tithebarnlaw15.CatalogueCheck'. -/
def catalogueCheckUptoCard : Claim7 := { stood := { row := catalogueCheckUptoRow, standIns := [], harness := (true, "369d6cfd5ba66b7667e0d154935096a96d961355d3162af4e6aa24276fee9189"), looks := false }, kinds := [], alts := [], laidByText := true, laidKinds := [.data, .pinned], laidTests := true, laidLooks := .later }
def CatalogueCheckUptoCardSaid : Prop := Claim7.holds Tryz.pinned (.plain (OpenSpec.upto catalogueCheckSpec)) catalogueCheckUptoCard

/-- THE SECOND FORM's CARD OF 'tithebarnlaw15.CatalogueParse'. -/
def catalogueParseUptoCard : Claim7 := { stood := { row := catalogueParseUptoRow, standIns := [], harness := (true, "369d6cfd5ba66b7667e0d154935096a96d961355d3162af4e6aa24276fee9189"), looks := false }, kinds := [], alts := [], laidByText := true, laidKinds := [.data, .pinned], laidTests := true, laidLooks := .later }
def CatalogueParseUptoCardSaid : Prop := Claim7.holds Tryz.pinned (.plain (OpenSpec.upto catalogueParseSpec)) catalogueParseUptoCard

/-- THE SECOND FORM's CARD OF 'tithebarnlaw15.CatalogueBack'. -/
def catalogueBackUptoCard : Claim7 := { stood := { row := catalogueBackUptoRow, standIns := [], harness := (true, "369d6cfd5ba66b7667e0d154935096a96d961355d3162af4e6aa24276fee9189"), looks := false }, kinds := [], alts := [], laidByText := true, laidKinds := [.data, .pinned], laidTests := true, laidLooks := .later }
def CatalogueBackUptoCardSaid : Prop := Claim7.holds Tryz.pinned (.plain (OpenSpec.upto catalogueBackSpec)) catalogueBackUptoCard

/-- THE SECOND FORM's CARD OF 'tithebarnlaw15.CatalogueFind'. -/
def catalogueFindUptoCard : Claim7 := { stood := { row := catalogueFindUptoRow, standIns := [], harness := (true, "369d6cfd5ba66b7667e0d154935096a96d961355d3162af4e6aa24276fee9189"), looks := false }, kinds := [], alts := [], laidByText := true, laidKinds := [.data, .pinned], laidTests := true, laidLooks := .later }
def CatalogueFindUptoCardSaid : Prop := Claim7.holds Tryz.pinned (.plain (OpenSpec.upto catalogueFindSpec)) catalogueFindUptoCard

/-- THE SECOND FORM's CARD OF 'tithebarnlaw15.CatalogueSame'. -/
def catalogueSameUptoCard : Claim7 := { stood := { row := catalogueSameUptoRow, standIns := [], harness := (true, "369d6cfd5ba66b7667e0d154935096a96d961355d3162af4e6aa24276fee9189"), looks := false }, kinds := [], alts := [], laidByText := true, laidKinds := [.data, .pinned], laidTests := true, laidLooks := .later }
def CatalogueSameUptoCardSaid : Prop := Claim7.holds Tryz.pinned (.plain (OpenSpec.upto catalogueSameSpec)) catalogueSameUptoCard

/-- THE SECOND FORM's CARD OF 'tithebarnlaw15.CatalogueWants'. -/
def catalogueWantsUptoCard : Claim7 := { stood := { row := catalogueWantsUptoRow, standIns := [], harness := (true, "369d6cfd5ba66b7667e0d154935096a96d961355d3162af4e6aa24276fee9189"), looks := false }, kinds := [], alts := [], laidByText := true, laidKinds := [.data, .pinned], laidTests := true, laidLooks := .later }
def CatalogueWantsUptoCardSaid : Prop := Claim7.holds Tryz.pinned (.plain (OpenSpec.upto catalogueWantsSpec)) catalogueWantsUptoCard

/-- THE SECOND FORM's CARD OF 'tithebarnlaw15.CatalogueKnown'. -/
def catalogueKnownUptoCard : Claim7 := { stood := { row := catalogueKnownUptoRow, standIns := [], harness := (true, "369d6cfd5ba66b7667e0d154935096a96d961355d3162af4e6aa24276fee9189"), looks := false }, kinds := [], alts := [], laidByText := true, laidKinds := [.data, .pinned], laidTests := true, laidLooks := .later }
def CatalogueKnownUptoCardSaid : Prop := Claim7.holds Tryz.pinned (.plain (OpenSpec.upto catalogueKnownSpec)) catalogueKnownUptoCard
end Rows
end Go.Proofs.YtcnedecmmplmoaaGreatDoor
