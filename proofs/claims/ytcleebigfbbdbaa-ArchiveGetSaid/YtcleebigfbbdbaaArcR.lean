/- archive: Get's deferred call. -/
import Derived.Test.YtcleebigfbbdbaaArcQ
import Derived.Defers
import Derived.Recover
set_option linter.unusedVariables false
set_option linter.unusedSimpArgs false
namespace Go.Proofs.Ytcleebigfbbdbaa
open Go Go.RowKit Go.BigFrame
open Fil (Es Nd Sp)
open Arc (BL num4 num2 encT letK encE encN sizE sizN rfN rdN rfE rdE rdT rd2 beN)
attribute [local go_sem] Oper.semAt_some

theorem get1_idle (p q : Addr) (w : World) :
    CallsD Try.prog 30 #[.pointer (some p), .pointer (some q)] .returning w fun e u' w' => e = .returned (.tuple #[]) ∧ u' = .returning ∧ w' = w := by
  refine callsD_of_wpS Try.func30 rfl fun c₀ cs hu => ?_
  apply wpS_seq
  apply wpS_region
  simp [wpOpsS, go_sem, recoverD, hu, Try.ntmps30, Exit.thenS]
  rw [show (#[Value.pointer (some p), Value.pointer (some q)] ++ ((Array.replicate 7 undef).setIfInBounds 1 Value.nilIface).setIfInBounds 0 Value.nilIface) = #[.pointer (some p), .pointer (some q), .nilIface, .nilIface, undef, undef, undef, undef, undef] from rfl]
  refine wpS_of_wp ?_
  go_wp2
  exact ⟨rfl, .returning, by cases c₀; simp_all, .tuple #[], results_none rfl _ _ _, rfl, rfl, rfl⟩
set_option maxRecDepth 1000000 in
set_option maxRecDepth 100000 in
set_option maxHeartbeats 4000000 in
theorem get1_panic (g q : Nat) (k : Nat) (d : ByteArray) (u : Value) (x : Int) (w : World) (hb : w.heap[g]? = some (ndCells k d u)) (hq : w.heap[q]? = some (.cells #[.int .i64 x] 28 (0, 0))) :
    CallsD Try.prog 30 #[.pointer (some ⟨g, 0, none⟩), .pointer (some ⟨q, 0, none⟩)] (.panicking noCh) w fun e u' w' =>
      e = .returned (.tuple #[]) ∧ u' = .panicking [{ v := .iface 51 (.agg #[]), recovered := true }] ∧ w' = (w.setRow g #[.int .u8 0, .string ⟨#[]⟩, .slice none 0 0]).setCell ⟨q, 0, none⟩ (.int .i64 80) := by
  refine callsD_of_wpS Try.func30 rfl fun c₀ cs hu => ?_
  have hne : g ≠ q := fun e => by
    rw [e, hq] at hb
    unfold ndCells at hb
    injection hb with hb
    injection hb with h1 h2
    cases congrArg Array.size h1
  have HB := Lib.hid hb
  obtain ⟨hc1, hc2⟩ := one_box (show (w.setRow g #[.int .u8 0, .string ⟨#[]⟩, .slice none 0 0]).heap[q]? = _ from (setRow_other _ _ _ _ (fun e => hne e.symm)).trans hq)
  clear hb hq
  apply wpS_seq
  apply wpS_region
  simp [wpOpsS, go_sem, recoverD, hu, Try.ntmps30, Exit.thenS, noCh]
  rw [show (#[Value.pointer (some ⟨g, 0, none⟩), Value.pointer (some ⟨q, 0, none⟩)] ++ ((Array.replicate 7 undef).setIfInBounds 1 (Value.iface 51 (.agg #[]))).setIfInBounds 0 (Value.iface 51 (.agg #[]))) = #[.pointer (some ⟨g, 0, none⟩), .pointer (some ⟨q, 0, none⟩), .iface 51 (.agg #[]), .iface 51 (.agg #[]), undef, undef, undef, undef, undef] from rfl]
  refine wpS_of_wp ?_
  have hta : ∀ w, (Instr.typeAssert (.iface 51 (.agg #[])) 20 51 false).run Try.prog w = .ok (.agg #[]) w := fun w => by kernel_rfl
  go_wp2_with (refine wpList_store_row rfl _ _ _ rfl _ _ rfl rfl _ _ HB.out (by kernel_rfl) (by rfl) (by simp [Value.oneCell']) ?_)
  exact ⟨rfl, _, rfl, .tuple #[], results_none rfl _ _ _, rfl, rfl, rfl⟩
end Go.Proofs.Ytcleebigfbbdbaa
