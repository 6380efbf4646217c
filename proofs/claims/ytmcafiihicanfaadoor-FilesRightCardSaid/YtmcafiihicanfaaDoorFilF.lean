/- files: Count, Depth, Size. -/
import Derived.Test.YtmcafiihicanfaaDoorFilE
set_option linter.unusedVariables false
set_option linter.unusedSimpArgs false
namespace Go.Proofs.YtmcafiihicanfaaDoor
open Go Go.RowKit Go.BigFrame
open Fil (Es Nd Sp)
attribute [local go_sem] Oper.semAt_some

/-- A node in a new box. -/
theorem box_node {W : World} {B : Nat} {nd : Nd} {A : Option Addr} {c : Nat} (h : EsAt W B (.slice A nd.es.len c) nd.es) (hB : B ≤ W.heap.size) (hd : nd.d.size ≤ maxLen) (hk : nd.k < 256) :
    NdC (W.alloc (.cells #[.int .u8 (nd.k : Int), .string nd.d, .slice A nd.es.len c] 26)) B ⟨W.heap.size, 0, none⟩ nd := by
  have hb := heap_alloc_new W (.cells #[.int .u8 (nd.k : Int), .string nd.d, .slice A nd.es.len c] 26)
  have e1 : (⟨W.heap.size, 0, none⟩ : Addr).add 1 = ⟨W.heap.size, 1, none⟩ := rfl
  have e2 : (⟨W.heap.size, 0, none⟩ : Addr).add 2 = ⟨W.heap.size, 2, none⟩ := rfl
  refine ⟨?_, ?_, ⟨_, ?_, h.keep ((Below.refl B W).alloc hB _)⟩, hd, hk⟩
  · rw [cell_of_row _ _ _ _ _ _ hb]; rfl
  · rw [e1, cell_of_row _ _ _ _ _ _ hb]; rfl
  · rw [e2, cell_of_row _ _ _ _ _ _ hb]; rfl
theorem one_box {W : World} {g : Nat} {v : Value} {T : TypeId} (h : W.heap[g]? = some (.cells #[v] T (0, 0))) : W.cell? ⟨g, 0, none⟩ = some v ∧ W.frozen? ⟨g, 0, none⟩ = false := by
  refine ⟨?_, frozen_of_row _ _ _ _ _ h⟩
  unfold World.cell?; simp [h]
theorem one_put {W : World} {g : Nat} {v : Value} {T : TypeId} (h : W.heap[g]? = some (.cells #[v] T (0, 0))) (u : Value) : (W.setCell ⟨g, 0, none⟩ u).heap[g]? = some (.cells #[u] T (0, 0)) := by
  have := blk_set h 0 u
  simpa using this
theorem count_any (n : Nat) (hn : 3 ≤ n) (v : Value) (nd : Nd) (w : World) (hv : NdV w w.heap.size v nd) (hN : nd.flat.length ≤ 1000000000) :
    CallsIn Fence.wide n Tryd.prog 16 #[v] w fun e W => e = .returned (.int .i64 (nd.count : Int)) ∧ Below w.heap.size w W := by
  have hro : Fence.wide.round = none := rfl
  obtain ⟨ev, rfl, hes, hd, hk⟩ := hv
  obtain ⟨A, c, rfl, _, _⟩ := hes.form
  refine callsIn_of_wpF Tryd.func16 rfl trivial ?_ hro
  simp only [Tryd.ntmps16, List.size_toArray, List.length_cons, List.length_nil, Nat.reduceAdd, Nat.reduceSub, Array.replicate_succ, Array.replicate_zero, List.push_toArray, List.append_toArray, List.nil_append, List.cons_append]
  refine wpF_seq_in fun K hK => ?_
  gi_wp2
  refine wpF_seq_in fun K hK => ?_
  gi_wp2
  refine wpF_seq ?_
  refine wpF_seq_in fun K hK => ?_
  gi_wp2_with (refine ⟨trivial, fun _ => by omega, (nodes_any _ _ nd.k nd.d _ rfl A c nd.es.len rfl _).mono ?_⟩; rintro e W ⟨rfl, rfl⟩)
  refine wpF_block ?_
  have hb1 : Below w.heap.size w ((w.alloc (.cells #[.int .u8 (nd.k : Int), .string nd.d, .slice A nd.es.len c] 26)).alloc (.cells #[.int .i64 0] 3)) := ((Below.refl _ w).alloc (Nat.le_refl _) _).alloc (by simp) _
  have hb2 := hb1.alloc (by simp; omega) (.cells #[.int .u8 (nd.k : Int), .string nd.d, .slice A nd.es.len c] 26)
  have hnd := box_node (hes.keep hb1) (by simp; omega) hd hk
  have hcb : (((w.alloc (.cells #[.int .u8 (nd.k : Int), .string nd.d, .slice A nd.es.len c] 26)).alloc (.cells #[.int .i64 0] 3)).alloc (.cells #[.int .u8 (nd.k : Int), .string nd.d, .slice A nd.es.len c] 26)).heap[w.heap.size + 1]? = some (.cells #[.int .i64 0] 3 (0, 0)) := by
    refine (old_block _ _ _ (by simp)).trans ?_
    have := heap_alloc_new (w.alloc (.cells #[.int .u8 (nd.k : Int), .string nd.d, .slice A nd.es.len c] 26)) (.cells #[.int .i64 0] 3)
    simpa using this
  have hsz : (((w.alloc (.cells #[.int .u8 (nd.k : Int), .string nd.d, .slice A nd.es.len c] 26)).alloc (.cells #[.int .i64 0] 3)).alloc (.cells #[.int .u8 (nd.k : Int), .string nd.d, .slice A nd.es.len c] 26)).heap.size = w.heap.size + 3 := by simp
  simp only [World.size_alloc] at hnd ⊢
  generalize World.alloc (World.alloc (World.alloc _ _) _) _ = w3 at *
  refine wpF_nodes n hn ⟨_, rfl⟩ (g := .tmp 5) (bn := w.heap.size + 1 + 1) (B := w.heap.size) (nd := nd) rfl (by omega) (by omega) hnd hN
    (fun pre W => W.heap[w.heap.size + 1]? = some (.cells #[.int .i64 (pre.length : Int)] 3 (0, 0))) (OwnI.block (fun _ => w.heap.size + 1) _ (fun _ => rfl) (fun _ => rfl)) hcb (fun _ _ _ => False)
    (fun x a' _ => a' = { tmps := #[.agg #[.int .u8 (nd.k : Int), .string nd.d, .slice A nd.es.len c], .pointer (some ⟨w.heap.size, 0, none⟩), .int .i64 0, .pointer (some ⟨w.heap.size + 1, 0, none⟩), .agg #[.int .u8 (nd.k : Int), .string nd.d, .slice A nd.es.len c], .func (.func 51) #[] #[.pointer (some ⟨w.heap.size + 1 + 1, 0, none⟩)], spV x.1, undef, undef, undef], defers := [] }) (fun _ _ => OwnI.pure _) ?_ ?_ ?_ ?_
  · intro l pre x W K _ _ hK
    gi_wp2
    exact hK _ _ (World.grownBy.refl _ _) rfl
  · rintro l pre x a' W hWs hnk hI rfl hlen hsx
    obtain ⟨h1, h2⟩ := one_box hI
    have hw1 : IntKind.i64.wrap ((pre.length : Int) + 1) = (pre.length : Int) + 1 := IntWalk.i64_in _ (by omega)
    gi_wp2
    refine ⟨Rd.step (grown_cell W _ 0 _) hI (by omega) (by omega) (by omega) (by decide), ?_⟩
    rw [one_put hI]
  · intro D W hD hnk hI hk
    obtain ⟨h1, h2⟩ := one_box hI
    refine wpF_in ?_
    gi_wp2
    refine ⟨by simp, .inl ⟨_, _, rfl, run_takeDeferred hk, ?_⟩⟩
    refine ⟨_, results_tmp rfl _ _ _, ?_, ?_⟩
    · simp [Fil.Nd.flat_len]
    · exact (hb2.trans hnk.below).grown (grownBy_putObj' W D _) (by have := hnk.below.size; omega) (fun k e => by cases e; omega)
  · intro D ch pre W _ _ h
    exact h.elim
end Go.Proofs.YtmcafiihicanfaaDoor
