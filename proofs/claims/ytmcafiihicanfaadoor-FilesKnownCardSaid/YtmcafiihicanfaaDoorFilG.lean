/- files: Depth, Size. -/
import Derived.Test.YtmcafiihicanfaaDoorFmD
set_option linter.unusedVariables false
set_option linter.unusedSimpArgs false
namespace Go.Proofs.YtmcafiihicanfaaDoor
open Go Go.RowKit Go.BigFrame
open Fil (Es Nd Sp)
attribute [local go_sem] Oper.semAt_some

/-- The box of a loop's variable. -/
def BoxSp (W : World) (g : Nat) (x : SpA) : Prop := W.heap[g]? = some (.cells #[.int .i64 (x.dep : Int), .string x.nm, .pointer (some x.p)] 58 (0, 0))
theorem grown_drew {W X : World} {r : Option Nat} (h : W.grownBy X r) : W.grownBy X.drew r := ⟨h.os, h.tape, h.output, h.size, h.block⟩
theorem boxSp_cells {W : World} {g : Nat} {x : SpA} (h : BoxSp W g x) : W.cell? ⟨g, 0, none⟩ = some (.int .i64 (x.dep : Int)) ∧ W.cell? ⟨g, 1, none⟩ = some (.string x.nm) ∧ W.cell? ⟨g, 2, none⟩ = some (.pointer (some x.p)) := by
  refine ⟨?_, ?_, ?_⟩ <;> (rw [cell_of_row _ _ _ _ _ _ h]; rfl)
theorem boxSp_own (D : Nat) (x : SpA) (p : Nat → Prop) : OwnI itE D (fun (_ : Unit) W => ∃ g, D ≤ g ∧ p g ∧ BoxSp W g x) := fun s A C row hs hgr hr => by
  obtain ⟨g, h1, h2, h3⟩ := hs
  exact ⟨g, h1, h2, OwnI.block (it := itE) (B := D) (fun (_ : Unit) => g) (fun _ => .cells #[.int .i64 (x.dep : Int), .string x.nm, .pointer (some x.p)] 58) (fun _ => rfl) (fun _ => rfl) s A C row h3 hgr hr⟩
theorem depth_any (n : Nat) (hn : 3 ≤ n) (v : Value) (nd : Nd) (w : World) (hv : NdV w w.heap.size v nd) (hN : nd.flat.length ≤ 1000000000) :
    CallsIn Fence.wide n Tryd.prog 18 #[v] w fun e W => e = .returned (.int .i64 (nd.depth : Int)) ∧ Below w.heap.size w W := by
  have hro : Fence.wide.round = none := rfl
  obtain ⟨ev, rfl, hes, hd, hk⟩ := hv
  obtain ⟨A, c, rfl, _, _⟩ := hes.form
  refine callsIn_of_wpF Tryd.func18 rfl trivial ?_ hro
  simp only [Tryd.ntmps18, List.size_toArray, List.length_cons, List.length_nil, Nat.reduceAdd, Nat.reduceSub, Array.replicate_succ, Array.replicate_zero, List.push_toArray, List.append_toArray, List.nil_append, List.cons_append]
  refine wpF_seq_in fun K hK => ?_
  gi_wp2
  refine wpF_seq_in fun K hK => ?_
  gi_wp2
  refine wpF_seq ?_
  refine wpF_seq_in fun K hK => ?_
  gi_wp2_with (refine ⟨trivial, fun _ => by omega, (nodes_any _ _ nd.k nd.d _ rfl A c nd.es.len rfl _).mono ?_⟩; rintro e W ⟨rfl, rfl⟩)
  refine wpF_block ?_
  have hb1 : Below w.heap.size w ((w.alloc (.cells #[.int .u8 (nd.k : Int), .string nd.d, .slice A nd.es.len c] 26)).alloc (.cells #[.int .i64 0] 3)) := ((Below.refl _ w).alloc (Nat.le_refl _) _).alloc (by simp) _
  have hb2 := hb1.alloc (by simp; omega) (.cells #[.int .u8 (nd.k : Int), .string nd.d, .slice A nd.es.len c] 26)
  have hnd := box_node (hes.keep hb1) (by simp; omega) hd hk
  have hcb : (((w.alloc (.cells #[.int .u8 (nd.k : Int), .string nd.d, .slice A nd.es.len c] 26)).alloc (.cells #[.int .i64 0] 3)).alloc (.cells #[.int .u8 (nd.k : Int), .string nd.d, .slice A nd.es.len c] 26)).heap[w.heap.size + 1]? = some (.cells #[.int .i64 0] 3 (0, 0)) := by
    refine (old_block _ _ _ (by simp)).trans ?_
    have := heap_alloc_new (w.alloc (.cells #[.int .u8 (nd.k : Int), .string nd.d, .slice A nd.es.len c] 26)) (.cells #[.int .i64 0] 3)
    simpa using this
  have hsz : (((w.alloc (.cells #[.int .u8 (nd.k : Int), .string nd.d, .slice A nd.es.len c] 26)).alloc (.cells #[.int .i64 0] 3)).alloc (.cells #[.int .u8 (nd.k : Int), .string nd.d, .slice A nd.es.len c] 26)).heap.size = w.heap.size + 3 := by simp
  simp only [World.size_alloc] at hnd ⊢
  generalize World.alloc (World.alloc (World.alloc _ _) _) _ = w3 at *
  refine wpF_nodes n hn ⟨_, rfl⟩ (g := .tmp 6) (bn := w.heap.size + 1 + 1) (B := w.heap.size) (nd := nd) rfl (by omega) (by omega) hnd hN
    (fun pre W => W.heap[w.heap.size + 1]? = some (.cells #[.int .i64 (Fil.deepL pre : Int)] 3 (0, 0))) (OwnI.block (fun _ => w.heap.size + 1) _ (fun _ => rfl) (fun _ => rfl)) hcb (fun _ _ _ => False)
    (fun x a' W => ∃ g, w3.heap.size ≤ g ∧ a' = { tmps := #[.agg #[.int .u8 (nd.k : Int), .string nd.d, .slice A nd.es.len c], .pointer (some ⟨w.heap.size, 0, none⟩), .int .i64 0, .pointer (some ⟨w.heap.size + 1, 0, none⟩), .pointer (some ⟨g, 0, none⟩), .agg #[.int .u8 (nd.k : Int), .string nd.d, .slice A nd.es.len c], .func (.func 51) #[] #[.pointer (some ⟨w.heap.size + 1 + 1, 0, none⟩)], spV x.1, undef, undef, undef, undef, undef], defers := [] } ∧ BoxSp W g x.1) (fun x a' => boxSp_own _ x.1 _) ?_ ?_ ?_ ?_
  · intro l pre x W K hWs _ hK
    unfold spV at hK ⊢
    gi_wp2
    exact hK _ _ (World.grownBy_alloc W _ none) ⟨W.heap.size, hWs, rfl, heap_alloc_new _ _⟩
  · rintro l pre x a' W hWs hnk hI ⟨g, hg, rfl, hbx⟩ hlen hsx
    obtain ⟨h1, h2⟩ := one_box hI
    obtain ⟨hx0, hx1, hx2⟩ := boxSp_cells hbx
    clear hx1 hx2
    have hsp : x.1.sp.dep = x.1.dep := rfl
    have hmx := Fil.deepL_snoc pre x.1.sp
    gi_wp2
    all_goals
      refine ⟨Rd.step (grown_cell W _ 0 _) hI (by omega) (by omega) (by omega) (by decide), ?_⟩
      rw [one_put hI]
      congr 5
      omega
  · intro D W hD hnk hI hk
    obtain ⟨h1, h2⟩ := one_box hI
    refine wpF_in ?_
    gi_wp2
    refine ⟨by simp, .inl ⟨_, _, rfl, run_takeDeferred hk, ?_⟩⟩
    refine ⟨_, results_tmp rfl _ _ _, ?_, ?_⟩
    · simp [Fil.Nd.flat_deep]
    · exact (hb2.trans hnk.below).grown (grownBy_putObj' W D _) (by have := hnk.below.size; omega) (fun k e => by cases e; omega)
  · intro D ch pre W _ _ h
    exact h.elim
theorem size_any (n : Nat) (hn : 3 ≤ n) (v : Value) (nd : Nd) (w : World) (hv : NdV w w.heap.size v nd) (hN : nd.flat.length ≤ 1000000000) (hS : nd.size ≤ 1000000000) :
    CallsIn Fence.wide n Tryd.prog 20 #[v] w fun e W => e = .returned (.int .i64 (nd.size : Int)) ∧ Below w.heap.size w W := by
  have hro : Fence.wide.round = none := rfl
  obtain ⟨ev, rfl, hes, hd, hk⟩ := hv
  obtain ⟨A, c, rfl, _, _⟩ := hes.form
  refine callsIn_of_wpF Tryd.func20 rfl trivial ?_ hro
  simp only [Tryd.ntmps20, List.size_toArray, List.length_cons, List.length_nil, Nat.reduceAdd, Nat.reduceSub, Array.replicate_succ, Array.replicate_zero, List.push_toArray, List.append_toArray, List.nil_append, List.cons_append]
  refine wpF_seq_in fun K hK => ?_
  gi_wp2
  refine wpF_seq_in fun K hK => ?_
  gi_wp2
  refine wpF_seq ?_
  refine wpF_seq_in fun K hK => ?_
  gi_wp2_with (refine ⟨trivial, fun _ => by omega, (nodes_any _ _ nd.k nd.d _ rfl A c nd.es.len rfl _).mono ?_⟩; rintro e W ⟨rfl, rfl⟩)
  refine wpF_block ?_
  have hb1 : Below w.heap.size w ((w.alloc (.cells #[.int .u8 (nd.k : Int), .string nd.d, .slice A nd.es.len c] 26)).alloc (.cells #[.int .i64 0] 3)) := ((Below.refl _ w).alloc (Nat.le_refl _) _).alloc (by simp) _
  have hb2 := hb1.alloc (by simp; omega) (.cells #[.int .u8 (nd.k : Int), .string nd.d, .slice A nd.es.len c] 26)
  have hnd := box_node (hes.keep hb1) (by simp; omega) hd hk
  have hcb : (((w.alloc (.cells #[.int .u8 (nd.k : Int), .string nd.d, .slice A nd.es.len c] 26)).alloc (.cells #[.int .i64 0] 3)).alloc (.cells #[.int .u8 (nd.k : Int), .string nd.d, .slice A nd.es.len c] 26)).heap[w.heap.size + 1]? = some (.cells #[.int .i64 0] 3 (0, 0)) := by
    refine (old_block _ _ _ (by simp)).trans ?_
    have := heap_alloc_new (w.alloc (.cells #[.int .u8 (nd.k : Int), .string nd.d, .slice A nd.es.len c] 26)) (.cells #[.int .i64 0] 3)
    simpa using this
  have hsz : (((w.alloc (.cells #[.int .u8 (nd.k : Int), .string nd.d, .slice A nd.es.len c] 26)).alloc (.cells #[.int .i64 0] 3)).alloc (.cells #[.int .u8 (nd.k : Int), .string nd.d, .slice A nd.es.len c] 26)).heap.size = w.heap.size + 3 := by simp
  simp only [World.size_alloc] at hnd ⊢
  generalize World.alloc (World.alloc (World.alloc _ _) _) _ = w3 at *
  refine wpF_nodes n hn ⟨_, rfl⟩ (g := .tmp 6) (bn := w.heap.size + 1 + 1) (B := w.heap.size) (nd := nd) rfl (by omega) (by omega) hnd hN
    (fun pre W => W.heap[w.heap.size + 1]? = some (.cells #[.int .i64 (Fil.sizeL pre : Int)] 3 (0, 0))) (OwnI.block (fun _ => w.heap.size + 1) _ (fun _ => rfl) (fun _ => rfl)) hcb (fun _ _ _ => False)
    (fun x a' W => ∃ g, w3.heap.size ≤ g ∧ a' = { tmps := #[.agg #[.int .u8 (nd.k : Int), .string nd.d, .slice A nd.es.len c], .pointer (some ⟨w.heap.size, 0, none⟩), .int .i64 0, .pointer (some ⟨w.heap.size + 1, 0, none⟩), .pointer (some ⟨g, 0, none⟩), .agg #[.int .u8 (nd.k : Int), .string nd.d, .slice A nd.es.len c], .func (.func 51) #[] #[.pointer (some ⟨w.heap.size + 1 + 1, 0, none⟩)], spV x.1, undef, undef, undef, undef, undef, undef, undef, undef, undef], defers := [] } ∧ BoxSp W g x.1) (fun x a' => boxSp_own _ x.1 _) ?_ ?_ ?_ ?_
  · intro l pre x W K hWs _ hK
    unfold spV at hK ⊢
    gi_wp2
    exact hK _ _ (World.grownBy_alloc W _ none) ⟨W.heap.size, hWs, rfl, heap_alloc_new _ _⟩
  · rintro l pre x a' W hWs hnk hI ⟨g, hg, rfl, hbx⟩ hlen hsx
    obtain ⟨h1, h2⟩ := one_box hI
    obtain ⟨hx0, hx1, hx2⟩ := boxSp_cells hbx
    obtain ⟨_, hdc, _, hdm, _⟩ := hnk.keep x.2.1 x.2.2.1
    have hle : Fil.sizeL pre + x.1.n.d.size ≤ nd.size := by
      obtain ⟨u, hu⟩ := hsx
      have := congrArg Fil.sizeL hu
      rw [Fil.Nd.flat_size, Fil.sizeL_app, Fil.sizeL_app] at this
      have e : Fil.sizeL [x.1.sp] = x.1.n.d.size := by simp [Fil.sizeL, SpA.sp]
      omega
    have hsn : Fil.sizeL (pre ++ [x.1.sp]) = Fil.sizeL pre + x.1.n.d.size := by rw [Fil.sizeL_app]; simp [Fil.sizeL, SpA.sp]
    have hw1 : IntKind.i64.wrap ((Fil.sizeL pre : Int) + (x.1.n.d.size : Int)) = (Fil.sizeL pre : Int) + (x.1.n.d.size : Int) := IntWalk.i64_in _ (by omega)
    have hmo : Tryd.prog.follows .mixedOrders = true := by kernel_rfl
    clear hx0 hx1
    rw [show x.1.p.add 1 = ⟨x.1.p.block, x.1.p.off + 1, none⟩ from rfl] at hdc
    gi_wp2
    gi_region
    all_goals
      refine .inl ⟨rfl, Rd.step (grown_drew (grown_cell W _ 0 _)) hI (by omega) (by omega) (by omega) (by decide), ?_⟩
      refine (one_put hI _).trans ?_
      rw [hsn]
      simp
  · intro D W hD hnk hI hk
    obtain ⟨h1, h2⟩ := one_box hI
    refine wpF_in ?_
    gi_wp2
    refine ⟨by simp, .inl ⟨_, _, rfl, run_takeDeferred hk, ?_⟩⟩
    refine ⟨_, results_tmp rfl _ _ _, ?_, ?_⟩
    · simp [Fil.Nd.flat_size]
    · exact (hb2.trans hnk.below).grown (grownBy_putObj' W D _) (by have := hnk.below.size; omega) (fun k e => by cases e; omega)
  · intro D ch pre W _ _ h
    exact h.elim
end Go.Proofs.YtmcafiihicanfaaDoor
