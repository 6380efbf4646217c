/- numbers: the law NumbersOrder, from what is laid. -/
import Derived.Test.YtbmmoclaijoofaaGreatDoorNumWb
import Derived.Test.YtbmmoclaijoofaaGreatDoorNumX
set_option linter.unusedVariables false
set_option linter.unusedSimpArgs false
namespace Go.Proofs.YtbmmoclaijoofaaGreatDoor
open Go.RowKit Go.BigFrame

theorem numbersOrder_w (x y z : Nat) (W : World) (h : LaidW W) (hx : x < 2 ^ 64) (hy : y < 2 ^ 64) (hz : z < 2 ^ 64) : Calls Tryz.prog 8 #[.float .f64 x, .float .f64 y, .float .f64 z] W fun e w' => e = .returned (.bool true) ∧ Below W.heap.size W w' := numbersOrder_walk x y z W hx hy hz h.errs h.tab
end Go.Proofs.YtbmmoclaijoofaaGreatDoor
