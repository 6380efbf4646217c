/- What lay below a block in a world lies there still. (Drawn out of version's text Z, for stages without it.) -/
import Derived.Test.YtadlimfpcfdgcaaBase
set_option linter.unusedVariables false
set_option linter.unusedSimpArgs false
namespace Go.Proofs.Ytadlimfpcfdgcaa
open Go.RowKit Go.BigFrame

/-- What lay below block B in a world lies there still. -/
def KeepW (W1 : World) (B : Nat) (w' : World) : Prop := Below B W1 w' ∧ B ≤ w'.heap.size
theorem KeepW.start {W : World} {B : Nat} (h : B ≤ W.heap.size) : KeepW W B W := ⟨Below.refl _ _, h⟩
theorem KeepW.drew {W1 w' : World} {B : Nat} (h : KeepW W1 B w') : KeepW W1 B w'.drew := ⟨h.1.drew, h.2⟩
theorem KeepW.step {W1 w' w2 : World} {B : Nat} (h : KeepW W1 B w') (h2 : Below w'.heap.size w' w2) : KeepW W1 B w2 := ⟨below_step h.1 h2 h.2, Nat.le_trans h.2 h2.size⟩
theorem KeepW.calls {P : Program} {f : FuncId} {args : Array Value} {v : Value} {W1 w' : World} {B : Nat} (h : KeepW W1 B w') (hc : Calls P f args w' fun e w2 => e = .returned v ∧ Below w'.heap.size w' w2) : Calls P f args w' fun e w2 => e = .returned v ∧ KeepW W1 B w2 :=
  hc.mono fun _ _ ⟨he, hb⟩ => ⟨he, h.step hb⟩
theorem KeepW.alloc {W1 w' : World} {B : Nat} (h : KeepW W1 B w') (o : Obj) : KeepW W1 B (w'.alloc o) := ⟨h.1.alloc h.2 o, Nat.le_trans h.2 (by simp)⟩
end Go.Proofs.Ytadlimfpcfdgcaa
