/- files: Right's deferred call. -/
import Derived.Test.YtmcafiihicanfaaDoorFilL
import Derived.RecoverIn
import Derived.DefersIn
set_option linter.unusedVariables false
set_option linter.unusedSimpArgs false
namespace Go.Proofs.YtmcafiihicanfaaDoor
open Go Go.RowKit Go.BigFrame
open Fil (Es Nd Sp)
attribute [local go_sem] Oper.semAt_some

theorem right1_idle (n : Nat) (p : Addr) (w : World) :
    CallsDIn Fence.wide n Tryd.prog 38 #[.pointer (some p)] .returning w fun e u' w' => e = .returned (.tuple #[]) ∧ u' = .returning ∧ w' = w := by
  refine callsDIn_of_wpSIn Tryd.func38 rfl trivial fun c₀ cs hu => ?_
  apply wpSIn_seq
  apply wpSIn_region
  simp [wpOpsSIn, go_sem, recoverD, hu, Tryd.ntmps38, Exit.thenS]
  rw [show (#[Value.pointer (some p)] ++ ((Array.replicate 6 undef).setIfInBounds 1 Value.nilIface).setIfInBounds 0 Value.nilIface) = #[.pointer (some p), .nilIface, .nilIface, undef, undef, undef, undef] from rfl]
  refine wpSIn_of_wpIn rfl ?_
  gi_wp2
  exact ⟨rfl, .returning, by cases c₀; simp_all, .tuple #[], results_none rfl _ _ _, rfl, rfl, rfl⟩
set_option maxRecDepth 1000000 in
set_option maxRecDepth 100000 in
set_option maxHeartbeats 4000000 in
theorem right1_panic (n : Nat) (g : Nat) (v : Value) (w : World) (hc : w.cell? ⟨g, 0, none⟩ = some v) (hz : w.frozen? ⟨g, 0, none⟩ = false) :
    CallsDIn Fence.wide n Tryd.prog 38 #[.pointer (some ⟨g, 0, none⟩)] (.panicking wrongCh) w fun e u' w' =>
      e = .returned (.tuple #[]) ∧ u' = .panicking [{ v := .iface 52 (.agg #[]), recovered := true }] ∧ w' = w.setCell ⟨g, 0, none⟩ (.bool false) := by
  refine callsDIn_of_wpSIn Tryd.func38 rfl trivial fun c₀ cs hu => ?_
  apply wpSIn_seq
  apply wpSIn_region
  simp [wpOpsSIn, go_sem, recoverD, hu, Tryd.ntmps38, Exit.thenS, wrongCh]
  rw [show (#[Value.pointer (some ⟨g, 0, none⟩)] ++ ((Array.replicate 6 undef).setIfInBounds 1 (Value.iface 52 (.agg #[]))).setIfInBounds 0 (Value.iface 52 (.agg #[]))) = #[.pointer (some ⟨g, 0, none⟩), .iface 52 (.agg #[]), .iface 52 (.agg #[]), undef, undef, undef, undef] from rfl]
  refine wpSIn_of_wpIn rfl ?_
  have hta : ∀ w, (Instr.typeAssert (.iface 52 (.agg #[])) 20 52 false).run Tryd.prog w = .ok (.agg #[]) w := fun w => by kernel_rfl
  gi_wp2
  exact ⟨rfl, _, rfl, .tuple #[], results_none rfl _ _ _, rfl, rfl, rfl⟩
end Go.Proofs.YtmcafiihicanfaaDoor
