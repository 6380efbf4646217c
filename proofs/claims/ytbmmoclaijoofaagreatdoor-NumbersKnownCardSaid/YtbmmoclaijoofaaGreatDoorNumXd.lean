/- numbers: the law NumbersWhole, from what is laid. -/
import Derived.Test.YtbmmoclaijoofaaGreatDoorNumWd
import Derived.Test.YtbmmoclaijoofaaGreatDoorNumX
set_option linter.unusedVariables false
set_option linter.unusedSimpArgs false
namespace Go.Proofs.YtbmmoclaijoofaaGreatDoor
open Go.RowKit Go.BigFrame

theorem numbersWhole_w (x : Nat) (W : World) (h : LaidW W) (hx : x < 2 ^ 64) : Calls Tryz.prog 6 #[.float .f64 x] W fun e w' => e = .returned (.bool true) ∧ Below W.heap.size W w' := numbersWhole_walk x W hx h.errs h.tab
end Go.Proofs.YtbmmoclaijoofaaGreatDoor
