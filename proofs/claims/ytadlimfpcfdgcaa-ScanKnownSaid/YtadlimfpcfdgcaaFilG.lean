/- files: Depth, Size. -/
import Derived.Test.YtadlimfpcfdgcaaFmD
set_option linter.unusedVariables false
set_option linter.unusedSimpArgs false
namespace Go.Proofs.Ytadlimfpcfdgcaa
open Go Go.RowKit Go.BigFrame
open Fil (Es Nd Sp)
attribute [local go_sem] Oper.semAt_some

/-- The box of a loop's variable. -/
def BoxSp (W : World) (g : Nat) (x : SpA) : Prop := W.heap[g]? = some (.cells #[.int .i64 (x.dep : Int), .string x.nm, .pointer (some x.p)] 82 (0, 0))
theorem grown_drew {W X : World} {r : Option Nat} (h : W.grownBy X r) : W.grownBy X.drew r := ⟨h.os, h.tape, h.output, h.size, h.block⟩
theorem boxSp_cells {W : World} {g : Nat} {x : SpA} (h : BoxSp W g x) : W.cell? ⟨g, 0, none⟩ = some (.int .i64 (x.dep : Int)) ∧ W.cell? ⟨g, 1, none⟩ = some (.string x.nm) ∧ W.cell? ⟨g, 2, none⟩ = some (.pointer (some x.p)) := by
  refine ⟨?_, ?_, ?_⟩ <;> (rw [cell_of_row _ _ _ _ _ _ h]; rfl)
theorem boxSp_own (D : Nat) (x : SpA) (p : Nat → Prop) : OwnI itE D (fun (_ : Unit) W => ∃ g, D ≤ g ∧ p g ∧ BoxSp W g x) := fun s A C row hs hgr hr => by
  obtain ⟨g, h1, h2, h3⟩ := hs
  exact ⟨g, h1, h2, OwnI.block (it := itE) (B := D) (fun (_ : Unit) => g) (fun _ => .cells #[.int .i64 (x.dep : Int), .string x.nm, .pointer (some x.p)] 82) (fun _ => rfl) (fun _ => rfl) s A C row h3 hgr hr⟩
end Go.Proofs.Ytadlimfpcfdgcaa
