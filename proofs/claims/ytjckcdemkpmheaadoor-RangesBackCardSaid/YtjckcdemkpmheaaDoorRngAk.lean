/- What came in, for the frames. -/
import Derived.Test.YtjckcdemkpmheaaDoorRngAj
namespace Go.Proofs.YtjckcdemkpmheaaDoor
open Go.ChangeShapes Go.WideShapes Go.ChangeAt Go.RowKit Go.BigFrame
set_option maxRecDepth 100000 in
theorem open_rangeV {H : Type} {enc : TypeId × Value → H} {w : World} {base : Nat} {sp : Nat → Bool} {held : Bool} {r : Reach} {b0 : Nat} {v : Value} {y : DataW H} {ps : List MemPlace} (lt : ∀ x ∈ ps, x.block < w.heap.size)
    (hval : Value.okWide Tryd.prog w r b0 24 v) (hd : DataW.Trod enc Tryd.prog w base sp held 24 v y ps) :
    ∃ (a : Value) (r : List (List Bd)), RngAt w a r ∧ a = v := by
  obtain ⟨a, r, h, e⟩ := open_range lt hval hd
  exact ⟨a, r, h, e.symm⟩
set_option maxRecDepth 100000 in
theorem open_strsV {H : Type} {enc : TypeId × Value → H} {w : World} {base : Nat} {sp : Nat → Bool} {held : Bool} {r : Reach} {b0 : Nat} {v : Value} {y : DataW H} {ps : List MemPlace} (lt : ∀ x ∈ ps, x.block < w.heap.size)
    (hval : Value.okWide Tryd.prog w r b0 35 v) (hd : DataW.Trod enc Tryd.prog w base sp held 35 v y ps) :
    ∃ (a : Value) (ss : List ByteArray), Reads w w.heap.size a (strs ss) ∧ a = v := by
  obtain ⟨a, r, h, e⟩ := open_strs lt hval hd
  exact ⟨a, r, h, e.symm⟩
end Go.Proofs.YtjckcdemkpmheaaDoor
