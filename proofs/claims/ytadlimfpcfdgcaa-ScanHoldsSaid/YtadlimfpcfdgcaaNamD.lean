/- Contracts of the reference's Letters. -/
import Derived.Test.YtadlimfpcfdgcaaNamC
import Derived.OwnWalk
import Derived.WalkSmall
set_option linter.unusedVariables false
set_option linter.unusedSimpArgs false
namespace Go.Proofs.Ytadlimfpcfdgcaa.Nam
open Go.RowKit

theorem infoU8 : (Try.prog.info? 5).map (fun i => (i.zero, i.size, i.bytes)) = some (some (.int .u8 0), 1, 1) := by kernel_rfl
theorem cells_succ (d : Nat → Nat) (k : Nat) : cells d (k + 1) = cells d k ++ [Value.int .u8 (d k : Int)] := by simp [cells, List.range_succ]
theorem cells_len (d : Nat → Nat) (k : Nat) : (cells d k).length = k := by simp [cells]
theorem cells_get (d : Nat → Nat) (n i : Nat) (h : i < n) : (cells d n)[i]? = some (.int .u8 (d i : Int)) := by simp [cells, h]

theorem own_has {wr : World} {base : Nat} {E : TypeId} {v : Value} {d : Nat → Nat} (hown : wr.ownsRow base E 1 v 20 (cells d 20)) :
    ∃ g cap, v = .slice (some ⟨g, 0, none⟩) 20 cap ∧ Has20 wr g d ∧ base ≤ g := by
  obtain ⟨hl, ⟨rfl, h0⟩ | ⟨g, cap, cur, rfl, hg, hgg, hn, hcm, hcs, htk⟩⟩ := hown
  · omega
  · refine ⟨g, cap, rfl, fun i hi => ?_, hg⟩
    have h1 : wr.cell? ⟨g, i, none⟩ = cur[i]? := by simp [World.cell?, hgg]
    have := cells_get d 20 i hi
    rw [← htk, List.getElem?_take_of_lt (by omega)] at this
    rw [h1]
    simpa using this

end Go.Proofs.Ytadlimfpcfdgcaa.Nam
