/-
  NARROWER THAN 'FOR EVERY INPUT', by the rows' own cells (each row's printed sentence says how): ArchivePut: loops · ArchiveBack: loops · ArchiveUnlike: loops.
  DERIVED. THE GIVEN ROWS OF THIS SEAT. 5 by the template 'for every input the law returns true; each argument reads behind the call as it read before'; 0 by the template 'total and deterministic' (their statements: YtcleebigfbbdbaaTotals.lean).
  GIVEN WITH THE SEED: the statements are not yours to turn. If you find one false, say at which input.
  Laid BY PROGRAM, IN A SANDBOX (cutbox-rows.mjs): the forced cells as the released guide's own fill.sh prints them over the translation 61c6b5211101b61e… (all of the seat's roots in one cut). By AI agents, Wed Nov 11 2026. No macro, syntax, notation, axiom, sorry.
-/
import Derived.Test.YtcleebigfbbdbaaChecked
import GoSem.Claim
import GoSem.ClaimJoined
import GoSem.ClaimMapViews
import Derived.JoinedTies
import Derived.KernelRfl
namespace Go.Proofs.Ytcleebigfbbdbaa
/- THE CELL 'sum', in the pinned program and in every row, IS THE sha256 OF THE DUMP (.gsa) THAT YtcleebigfbbdbaaProg.lean LOADS. Nothing in Lean hashes anything: it is a label: what it is worth is what the hold of that sum in a sandbox is worth. -/
noncomputable def Try.pinned : Pinned := { name := "ytcleebigfbbdbaa", sum := "61c6b5211101b61eb38094bd4c83d09c1885cb579747c2e0ddddf3fb3254316a", checked := Try.checked }
namespace Rows
def none {H : Type} : Left H := { results := [], args := [] }

/-- 'tithebarnlaw08.ArchivePut': WHATEVER THE INPUT: true; the input reads as it did. -/
def archivePutSpec : ChangeSpec := { name := "archivePut", fn := fun _ => fun
  | [d] => { results := [.lit (.bool true)], args := [d] }
  | _ => none }
def archivePutRow : OpenClaim := { program := "ytcleebigfbbdbaa", sum := "61c6b5211101b61eb38094bd4c83d09c1885cb579747c2e0ddddf3fb3254316a", func := "tithebarn/tithebarnlaw08.ArchivePut", spec := "archivePut", inPlace := ["internal/bytealg.IndexByteString", "internal/bytealg.IndexString"], unfollowed := true, recurses := true, named := ["internal/bytealg.MaxLen"], loops := true, apart := false }
def ArchivePutSaid : Prop := archivePutRow.holds Try.pinned (OpenSpec.ofChange archivePutSpec)

/-- ITS FALSE NEIGHBOUR: 'it returns false'. Refute it at one input. -/
def archivePutWrong : ChangeSpec := { name := "archivePut", fn := fun _ => fun
  | [d] => { results := [.lit (.bool false)], args := [d] }
  | _ => none }
def ArchivePutWrongFalsely : Prop := archivePutRow.holds Try.pinned (OpenSpec.ofChange archivePutWrong)

/-- 'tithebarnlaw08.ArchiveGet': WHATEVER THE INPUT: true; the input reads as it did. -/
def archiveGetSpec : ChangeSpec := { name := "archiveGet", fn := fun _ => fun
  | [d] => { results := [.lit (.bool true)], args := [d] }
  | _ => none }
def archiveGetRow : OpenClaim := { program := "ytcleebigfbbdbaa", sum := "61c6b5211101b61eb38094bd4c83d09c1885cb579747c2e0ddddf3fb3254316a", func := "tithebarn/tithebarnlaw08.ArchiveGet", spec := "archiveGet", inPlace := ["internal/bytealg.IndexByteString", "internal/bytealg.IndexString"], unfollowed := true, recurses := true, named := ["internal/bytealg.MaxLen"], apart := false }
def ArchiveGetSaid : Prop := archiveGetRow.holds Try.pinned (OpenSpec.ofChange archiveGetSpec)

/-- ITS FALSE NEIGHBOUR: 'it returns false'. Refute it at one input. -/
def archiveGetWrong : ChangeSpec := { name := "archiveGet", fn := fun _ => fun
  | [d] => { results := [.lit (.bool false)], args := [d] }
  | _ => none }
def ArchiveGetWrongFalsely : Prop := archiveGetRow.holds Try.pinned (OpenSpec.ofChange archiveGetWrong)

/-- 'tithebarnlaw08.ArchiveBack': WHATEVER THE INPUT: true; the input reads as it did. -/
def archiveBackSpec : ChangeSpec := { name := "archiveBack", fn := fun _ => fun
  | [d1, d2] => { results := [.lit (.bool true)], args := [d1, d2] }
  | _ => none }
def archiveBackRow : OpenClaim := { program := "ytcleebigfbbdbaa", sum := "61c6b5211101b61eb38094bd4c83d09c1885cb579747c2e0ddddf3fb3254316a", func := "tithebarn/tithebarnlaw08.ArchiveBack", spec := "archiveBack", inPlace := ["internal/bytealg.IndexByteString", "internal/bytealg.IndexString"], unfollowed := true, recurses := true, named := ["internal/bytealg.MaxLen"], loops := true, apart := false }
def ArchiveBackSaid : Prop := archiveBackRow.holds Try.pinned (OpenSpec.ofChange archiveBackSpec)

/-- ITS FALSE NEIGHBOUR: 'it returns false'. Refute it at one input. -/
def archiveBackWrong : ChangeSpec := { name := "archiveBack", fn := fun _ => fun
  | [d1, d2] => { results := [.lit (.bool false)], args := [d1, d2] }
  | _ => none }
def ArchiveBackWrongFalsely : Prop := archiveBackRow.holds Try.pinned (OpenSpec.ofChange archiveBackWrong)

/-- 'tithebarnlaw08.ArchiveUnlike': WHATEVER THE INPUT: true; the input reads as it did. -/
def archiveUnlikeSpec : ChangeSpec := { name := "archiveUnlike", fn := fun _ => fun
  | [d1, d2] => { results := [.lit (.bool true)], args := [d1, d2] }
  | _ => none }
def archiveUnlikeRow : OpenClaim := { program := "ytcleebigfbbdbaa", sum := "61c6b5211101b61eb38094bd4c83d09c1885cb579747c2e0ddddf3fb3254316a", func := "tithebarn/tithebarnlaw08.ArchiveUnlike", spec := "archiveUnlike", inPlace := ["internal/bytealg.IndexByteString", "internal/bytealg.IndexString"], unfollowed := true, recurses := true, named := ["internal/bytealg.MaxLen"], loops := true, apart := false }
def ArchiveUnlikeSaid : Prop := archiveUnlikeRow.holds Try.pinned (OpenSpec.ofChange archiveUnlikeSpec)

/-- ITS FALSE NEIGHBOUR: 'it returns false'. Refute it at one input. -/
def archiveUnlikeWrong : ChangeSpec := { name := "archiveUnlike", fn := fun _ => fun
  | [d1, d2] => { results := [.lit (.bool false)], args := [d1, d2] }
  | _ => none }
def ArchiveUnlikeWrongFalsely : Prop := archiveUnlikeRow.holds Try.pinned (OpenSpec.ofChange archiveUnlikeWrong)

/-- 'tithebarnlaw08.ArchiveKnown': WHATEVER THE INPUT: true; the input reads as it did. -/
def archiveKnownSpec : ChangeSpec := { name := "archiveKnown", fn := fun _ => fun
  | [] => { results := [.lit (.bool true)], args := [] }
  | _ => none }
def archiveKnownRow : OpenClaim := { program := "ytcleebigfbbdbaa", sum := "61c6b5211101b61eb38094bd4c83d09c1885cb579747c2e0ddddf3fb3254316a", func := "tithebarn/tithebarnlaw08.ArchiveKnown", spec := "archiveKnown", inPlace := ["internal/bytealg.IndexByteString", "internal/bytealg.IndexString"], unfollowed := true, recurses := true, named := ["internal/bytealg.MaxLen"], apart := false }
def ArchiveKnownSaid : Prop := archiveKnownRow.holds Try.pinned (OpenSpec.ofChange archiveKnownSpec)

/-- ITS FALSE NEIGHBOUR: 'it returns false'. Refute it at one input. -/
def archiveKnownWrong : ChangeSpec := { name := "archiveKnown", fn := fun _ => fun
  | [] => { results := [.lit (.bool false)], args := [] }
  | _ => none }
def ArchiveKnownWrongFalsely : Prop := archiveKnownRow.holds Try.pinned (OpenSpec.ofChange archiveKnownWrong)

/- THE SECOND FORM. 'bulk': how many values and letters a reading holds, each counted each time it is reached (what is shared counts as often as it is met; a slice's spare places count too). A statement '..UptoSaid' is the law's where the arguments, and the package variables that the reading takes, are together of bulk at most 1048576: NARROWER than '..Said'. Prove '..Said' where nothing that the law and all that it calls make is longer than what came in: it says more and counts as full. Else prove '..UptoSaid'. A law counts once. -/
mutual
def uptoBulk {H : Type} : DataW H → Nat
  | .lit (.string bytes) => bytes.length + 1
  | .lit _ => 1
  | .nil => 1
  | .ptr d => uptoBulk d + 1
  | .slice elems spare => uptoBulkAll elems + uptoBulkAll spare + 1
  | .agg parts => uptoBulkAll parts + 1
  | .iface _ d => uptoBulk d + 1
  | .map entries => uptoBulkEntries entries + 1
  | .held _ => 1
def uptoBulkAll {H : Type} : List (DataW H) → Nat
  | [] => 0
  | d :: r => uptoBulk d + uptoBulkAll r
def uptoBulkEntries {H : Type} : List (Lit × DataW H) → Nat
  | [] => 0
  | x :: r => uptoBulkEntry x + uptoBulkEntries r
def uptoBulkEntry {H : Type} : Lit × DataW H → Nat
  | (.string bytes, d) => bytes.length + uptoBulk d + 1
  | (_, d) => uptoBulk d + 1
 end
def uptoSmall : (H : Type) → List (DataW H) → Bool := fun _ ds => decide (uptoBulkAll ds ≤ 1048576)
def OpenSpec.upto (s : _root_.Go.ChangeSpec) : _root_.Go.OpenSpec := { _root_.Go.OpenSpec.ofChange s with cond := some uptoSmall }

/-- 'tithebarnlaw08.ArchivePut', WHERE WHAT IT READS IS OF BULK AT MOST 1048576: true; the input reads as it did. -/
def archivePutUptoRow : OpenClaim := { program := "ytcleebigfbbdbaa", sum := "61c6b5211101b61eb38094bd4c83d09c1885cb579747c2e0ddddf3fb3254316a", func := "tithebarn/tithebarnlaw08.ArchivePut", spec := "archivePut", inPlace := ["internal/bytealg.IndexByteString", "internal/bytealg.IndexString"], unfollowed := true, recurses := true, named := ["internal/bytealg.MaxLen"], loops := true, apart := false, narrowed := true }
def ArchivePutUptoSaid : Prop := archivePutUptoRow.holds Try.pinned (OpenSpec.upto archivePutSpec)

/-- 'tithebarnlaw08.ArchiveGet', WHERE WHAT IT READS IS OF BULK AT MOST 1048576: true; the input reads as it did. -/
def archiveGetUptoRow : OpenClaim := { program := "ytcleebigfbbdbaa", sum := "61c6b5211101b61eb38094bd4c83d09c1885cb579747c2e0ddddf3fb3254316a", func := "tithebarn/tithebarnlaw08.ArchiveGet", spec := "archiveGet", inPlace := ["internal/bytealg.IndexByteString", "internal/bytealg.IndexString"], unfollowed := true, recurses := true, named := ["internal/bytealg.MaxLen"], apart := false, narrowed := true }
def ArchiveGetUptoSaid : Prop := archiveGetUptoRow.holds Try.pinned (OpenSpec.upto archiveGetSpec)

/-- 'tithebarnlaw08.ArchiveBack', WHERE WHAT IT READS IS OF BULK AT MOST 1048576: true; the input reads as it did. -/
def archiveBackUptoRow : OpenClaim := { program := "ytcleebigfbbdbaa", sum := "61c6b5211101b61eb38094bd4c83d09c1885cb579747c2e0ddddf3fb3254316a", func := "tithebarn/tithebarnlaw08.ArchiveBack", spec := "archiveBack", inPlace := ["internal/bytealg.IndexByteString", "internal/bytealg.IndexString"], unfollowed := true, recurses := true, named := ["internal/bytealg.MaxLen"], loops := true, apart := false, narrowed := true }
def ArchiveBackUptoSaid : Prop := archiveBackUptoRow.holds Try.pinned (OpenSpec.upto archiveBackSpec)

/-- 'tithebarnlaw08.ArchiveUnlike', WHERE WHAT IT READS IS OF BULK AT MOST 1048576: true; the input reads as it did. -/
def archiveUnlikeUptoRow : OpenClaim := { program := "ytcleebigfbbdbaa", sum := "61c6b5211101b61eb38094bd4c83d09c1885cb579747c2e0ddddf3fb3254316a", func := "tithebarn/tithebarnlaw08.ArchiveUnlike", spec := "archiveUnlike", inPlace := ["internal/bytealg.IndexByteString", "internal/bytealg.IndexString"], unfollowed := true, recurses := true, named := ["internal/bytealg.MaxLen"], loops := true, apart := false, narrowed := true }
def ArchiveUnlikeUptoSaid : Prop := archiveUnlikeUptoRow.holds Try.pinned (OpenSpec.upto archiveUnlikeSpec)

/-- 'tithebarnlaw08.ArchiveKnown', WHERE WHAT IT READS IS OF BULK AT MOST 1048576: true; the input reads as it did. -/
def archiveKnownUptoRow : OpenClaim := { program := "ytcleebigfbbdbaa", sum := "61c6b5211101b61eb38094bd4c83d09c1885cb579747c2e0ddddf3fb3254316a", func := "tithebarn/tithebarnlaw08.ArchiveKnown", spec := "archiveKnown", inPlace := ["internal/bytealg.IndexByteString", "internal/bytealg.IndexString"], unfollowed := true, recurses := true, named := ["internal/bytealg.MaxLen"], apart := false, narrowed := true }
def ArchiveKnownUptoSaid : Prop := archiveKnownUptoRow.holds Try.pinned (OpenSpec.upto archiveKnownSpec)

end Rows
end Go.Proofs.Ytcleebigfbbdbaa
