/- numbers: the law NumbersKnown, from what is laid. -/
import Derived.Test.YtbmmoclaijoofaaGreatDoorNumZc
set_option linter.unusedVariables false
set_option linter.unusedSimpArgs false
namespace Go.Proofs.YtbmmoclaijoofaaGreatDoor
open Go.RowKit Go.BigFrame

theorem numbersKnown_w (W : World) (h : LaidW W) : Calls Tryz.prog 3 #[] W fun e w' => e = .returned (.bool true) ∧ Below W.heap.size W w' := numbersKnown_walk W h.errs h.tab
end Go.Proofs.YtbmmoclaijoofaaGreatDoor
