/- files: must, nodes. -/
import Derived.Test.YtmcafiihicanfaaDoorFilC
set_option linter.unusedVariables false
set_option linter.unusedSimpArgs false
namespace Go.Proofs.YtmcafiihicanfaaDoor
open Go Go.RowKit Go.BigFrame
open Fil (Es Nd Sp)
attribute [local go_sem] Oper.semAt_some

/-- What the package gives up with. -/
def wrongCh : List PanicEntry := [{ v := .iface 52 (.agg #[]), recovered := false }]
theorem must_any (n : Nat) (b : Bool) (w : World) : CallsIn Fence.wide n Tryd.prog 40 #[.bool b] w fun e W => W = w ∧ ((b = true ∧ ∃ v, e = .returned v) ∨ (b = false ∧ e = .panicked wrongCh)) := by
  have hro : Fence.wide.round = none := rfl
  refine callsIn_of_wp Tryd.func40 rfl trivial ?_ hro
  simp only [Tryd.ntmps40, List.size_toArray, List.length_cons, List.length_nil, Nat.reduceAdd, Nat.reduceSub, Array.replicate_succ, Array.replicate_zero, List.push_toArray, List.append_toArray, List.nil_append, List.cons_append]
  cases b with
  | true =>
    gi_wp2
    go_end0
    exact ⟨rfl, _, rfl⟩
  | false =>
    gi_wp2
    exact ⟨rfl, rfl, rfl⟩
/-- nodes: its tree in a new box; a function of that box. -/
theorem nodes_any (n : Nat) (v : Value) (k : Nat) (d : ByteArray) (ev : Value) (hv : v = .agg #[.int .u8 (k : Int), .string d, ev]) (A : Option Addr) (c l : Nat) (he : ev = .slice A l c) (w : World) : CallsIn Fence.wide n Tryd.prog 39 #[v] w fun e W =>
    e = .returned (.func (.func 51) #[] #[.pointer (some ⟨w.heap.size, 0, none⟩)]) ∧ W = w.alloc (.cells #[.int .u8 (k : Int), .string d, ev] 26) := by
  have hro : Fence.wide.round = none := rfl
  subst hv
  subst he
  refine callsIn_of_wp Tryd.func39 rfl trivial ?_ hro
  simp only [Tryd.ntmps39, List.size_toArray, List.length_cons, List.length_nil, Nat.reduceAdd, Nat.reduceSub, Array.replicate_succ, Array.replicate_zero, List.push_toArray, List.append_toArray, List.nil_append, List.cons_append]
  gi_wp2
  refine bodyPost_ret (results_tmp rfl _ _ _) rfl ?_
  exact ⟨rfl, rfl⟩
end Go.Proofs.YtmcafiihicanfaaDoor
