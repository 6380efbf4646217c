/-
  DERIVED. GIVEN WITH THE SEED: THE CARDS: each row of YtijepjoklmblhaaDoorRows.lean that lists a variable, with what it lists TIED to the program's text (the seventh form; the later family's looks); each row that meets fmt, with fmt's text TOLD by the authors' own Lean function (tested against real Go, not proved from fmt's source: count such statements apart). THE CARD IS WHAT COUNTS. Prove the row's statement (the work); the ties are given (YtijepjoklmblhaaDoorTie.lean); close each card by the builder's one call (the guide's Derived/Test/ToyasCard.lean, 'card_holds'). Laid BY PROGRAM, IN A SANDBOX (cutbox-door.mjs). By AI agents, Wed Nov 11 2026. No macro, syntax, notation, axiom, sorry.
-/
import Derived.Test.YtijepjoklmblhaaDoorRows
import GoSem.ClaimSeven
namespace Go.Proofs.YtijepjoklmblhaaDoor
namespace Rows

/-- THE TIED CARD OF 'tithebarnlaw13.VersionPrint'. -/
def versionPrintCard : Claim7 := { stood := { row := versionPrintRow, standIns := [], harness := (true, "3e31ea1c9a73328da98755900342e1e34d0e6acec53400aaf7885ed64301243b"), looks := false }, kinds := [], alts := [], laidByText := true, laidKinds := [.data, .data, .data], laidTests := true, laidLooks := .later }
def VersionPrintCardSaid : Prop := Claim7.holds Tryd.pinned (.plain (OpenSpec.ofChange versionPrintSpec)) versionPrintCard

/-- THE TIED CARD OF 'tithebarnlaw13.VersionBack'. -/
def versionBackCard : Claim7 := { stood := { row := versionBackRow, standIns := [], harness := (true, "3e31ea1c9a73328da98755900342e1e34d0e6acec53400aaf7885ed64301243b"), looks := false }, kinds := [], alts := [], laidByText := true, laidKinds := [.data, .data, .data], laidTests := true, laidLooks := .later }
def VersionBackCardSaid : Prop := Claim7.holds Tryd.pinned (.plain (OpenSpec.ofChange versionBackSpec)) versionBackCard

/-- THE TIED CARD OF 'tithebarnlaw13.VersionKnown'. -/
def versionKnownCard : Claim7 := { stood := { row := versionKnownRow, standIns := [], harness := (true, "3e31ea1c9a73328da98755900342e1e34d0e6acec53400aaf7885ed64301243b"), looks := false }, kinds := [], alts := [], laidByText := true, laidKinds := [.data, .data, .data], laidTests := true, laidLooks := .later }
def VersionKnownCardSaid : Prop := Claim7.holds Tryd.pinned (.plain (OpenSpec.ofChange versionKnownSpec)) versionKnownCard

/-- THE SECOND FORM's CARD OF 'tithebarnlaw13.VersionPrint'. -/
def versionPrintUptoCard : Claim7 := { stood := { row := versionPrintUptoRow, standIns := [], harness := (true, "3e31ea1c9a73328da98755900342e1e34d0e6acec53400aaf7885ed64301243b"), looks := false }, kinds := [], alts := [], laidByText := true, laidKinds := [.data, .data, .data], laidTests := true, laidLooks := .later }
def VersionPrintUptoCardSaid : Prop := Claim7.holds Tryd.pinned (.plain (OpenSpec.upto versionPrintSpec)) versionPrintUptoCard

/-- THE SECOND FORM's CARD OF 'tithebarnlaw13.VersionBack'. -/
def versionBackUptoCard : Claim7 := { stood := { row := versionBackUptoRow, standIns := [], harness := (true, "3e31ea1c9a73328da98755900342e1e34d0e6acec53400aaf7885ed64301243b"), looks := false }, kinds := [], alts := [], laidByText := true, laidKinds := [.data, .data, .data], laidTests := true, laidLooks := .later }
def VersionBackUptoCardSaid : Prop := Claim7.holds Tryd.pinned (.plain (OpenSpec.upto versionBackSpec)) versionBackUptoCard

/-- THE SECOND FORM's CARD OF 'tithebarnlaw13.VersionKnown'. -/
def versionKnownUptoCard : Claim7 := { stood := { row := versionKnownUptoRow, standIns := [], harness := (true, "3e31ea1c9a73328da98755900342e1e34d0e6acec53400aaf7885ed64301243b"), looks := false }, kinds := [], alts := [], laidByText := true, laidKinds := [.data, .data, .data], laidTests := true, laidLooks := .later }
def VersionKnownUptoCardSaid : Prop := Claim7.holds Tryd.pinned (.plain (OpenSpec.upto versionKnownSpec)) versionKnownUptoCard
end Rows
end Go.Proofs.YtijepjoklmblhaaDoor
