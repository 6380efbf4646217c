/- files: must, nodes. -/
import Derived.Test.YtmcafiihicanfaaDoorFilC
set_option linter.unusedVariables false
set_option linter.unusedSimpArgs false
namespace Go.Proofs.YtmcafiihicanfaaDoor
open Go Go.RowKit Go.BigFrame
open Fil (Es Nd Sp)
attribute [local go_sem] Oper.semAt_some

/-- What the package gives up with. -/
def wrongCh : List PanicEntry := [{ v := .iface 52 (.agg #[]), recovered := false }]
theorem must_any (n : Nat) (b : Bool) (w : World) : CallsIn Fence.wide n Tryd.prog 40 #[.bool b] w fun e W => W = w ∧ ((b = true ∧ ∃ v, e = .returned v) ∨ (b = false ∧ e = .panicked wrongCh)) := by
  have hro : Fence.wide.round = none := rfl
  refine callsIn_of_wp Tryd.func40 rfl trivial ?_ hro
  simp only [Tryd.ntmps40, List.size_toArray, List.length_cons, List.length_nil, Nat.reduceAdd, Nat.reduceSub, Array.replicate_succ, Array.replicate_zero, List.push_toArray, List.append_toArray, List.nil_append, List.cons_append]
  cases b with
  | true =>
    gi_wp2
    go_end0
    exact ⟨rfl, _, rfl⟩
  | false =>
    gi_wp2
    exact ⟨rfl, rfl, rfl⟩
/-- nodes: its tree in a new box; a function of that box. -/
theorem nodes_any (n : Nat) (v : Value) (k : Nat) (d : ByteArray) (ev : Value) (hv : v = .agg #[.int .u8 (k : Int), .string d, ev]) (A : Option Addr) (c l : Nat) (he : ev = .slice A l c) (w : World) : CallsIn Fence.wide n Tryd.prog 39 #[v] w fun e W =>
    e = .returned (.func (.func 51) #[] #[.pointer (some ⟨w.heap.size, 0, none⟩)]) ∧ W = w.alloc (.cells #[.int .u8 (k : Int), .string d, ev] 26) := by
  have hro : Fence.wide.round = none := rfl
  subst hv
  subst he
  refine callsIn_of_wp Tryd.func39 rfl trivial ?_ hro
  simp only [Tryd.ntmps39, List.size_toArray, List.length_cons, List.length_nil, Nat.reduceAdd, Nat.reduceSub, Array.replicate_succ, Array.replicate_zero, List.push_toArray, List.append_toArray, List.nil_append, List.cons_append]
  gi_wp2
  refine bodyPost_ret (results_tmp rfl _ _ _) rfl ?_
  exact ⟨rfl, rfl⟩
end Go.Proofs.YtmcafiihicanfaaDoor

/- files: a range over all nodes; Count. -/
namespace Go.Proofs.YtmcafiihicanfaaDoor
open Go Go.RowKit Go.BigFrame
open Fil (Es Nd Sp)
attribute [local go_sem] Oper.semAt_some

theorem grown_of_below {W W' : World} (h : Below W.heap.size W W') : W.grownBy W' none := ⟨h.os, h.tape, h.output, h.size, fun k hk _ => h.block k hk⟩
theorem below_of_grown {W W' : World} (h : W.grownBy W' none) : Below W.heap.size W W' := (Below.refl _ W).grown h (Nat.le_refl _) (fun k e => by cases e)
/-- What a round leaves as it lay. -/
structure Rd (D B bn : Nat) (W W' : World) : Prop where
  keeps : KeepsFrom D W W'
  kp : KpN B bn W W'
theorem Rd.refl (D B bn : Nat) (W : World) : Rd D B bn W W := ⟨KeepsFrom.refl _ _, KpN.refl _ _ _⟩
theorem Rd.trans {D B bn : Nat} {X Y Z : World} (h : Rd D B bn X Y) (k : Rd D B bn Y Z) : Rd D B bn X Z := ⟨h.keeps.trans k.keeps, h.kp.trans k.kp⟩
theorem Rd.of_below {D B bn : Nat} {W W' : World} (h : Below W.heap.size W W') (hB : B ≤ W.heap.size) (hb : bn < W.heap.size) : Rd D B bn W W' :=
  ⟨⟨h.size, fun k o _ hk _ => (h.block k (Array.getElem?_eq_some_iff.1 hk).1).trans hk⟩, ⟨NkW.of_below h hB hb, fun k cs hk => (h.block k (Array.getElem?_eq_some_iff.1 hk).1).trans hk⟩⟩
theorem Rd.step {D B bn : Nat} {W W' : World} {k : Nat} {cs : Array Value} {T : TypeId} {q : Nat × Nat} (hg : W.grownBy W' (some k)) (hk : W.heap[k]? = some (.cells cs T q)) (hB : B ≤ k) (hb : bn < W.heap.size) (hbn : bn ≠ k) (hT : T ≠ 24) : Rd D B bn W W' := by
  have hlt := (Array.getElem?_eq_some_iff.1 hk).1
  refine ⟨⟨hg.size, fun j o _ hj ho => (hg.block j (Array.getElem?_eq_some_iff.1 hj).1 fun e => ?_).trans hj⟩, ⟨⟨(Below.refl B W).grown hg (by omega) (fun j e => by cases e; exact hB), hg.block bn hb fun e => hbn (by cases e; rfl)⟩, fun j cs2 hj => (hg.block j (Array.getElem?_eq_some_iff.1 hj).1 fun e => ?_).trans hj⟩⟩
  · cases e; rw [hk] at hj; cases hj; cases ho
  · cases e; rw [hk] at hj; cases hj; exact hT rfl
/-- The node that comes, as a value. -/
def spV (x : SpA) : Value := .agg #[.int .i64 (x.dep : Int), .string x.nm, .pointer (some x.p)]
/-- **A range over all nodes.** -/
theorem wpF_nodes (n : Nat) (hn : 3 ≤ n) {f0 : FuncId} (hf0 : ∃ fn, Tryd.prog.funcs[f0]? = some fn) {g : Operand} {p : Tmp} {assign body : Code} {Q : Exit → Act → World → Prop} {a : Act} {w : World} {B bn : Nat} {nd : Nd}
    (hg : a.eval g = .func (.func 51) #[] #[.pointer (some ⟨bn, 0, none⟩)]) (hB : B ≤ w.heap.size) (hbn : bn < w.heap.size) (hnd : NdC w B ⟨bn, 0, none⟩ nd) (hN : nd.flat.length ≤ 1000000000)
    (Ib : List Sp → World → Prop) (hIb : OwnI itE w.heap.size Ib) (h0 : Ib [] w) (Ip : List PanicEntry → List Sp → World → Prop) (Ax : NdX w B bn → Act → World → Prop) (hAx : ∀ x a', OwnI itE w.heap.size (fun (_ : Unit) W => Ax x a' W))
    (hassign : ∀ (l : Nat) (pre : List Sp) (x : NdX w B bn) (W : World) (K : Act → World → Prop), w.heap.size ≤ W.heap.size → Ib pre W → (∀ a' W', W.grownBy W' none → Ax x a' W' → K a' W') →
      assign.wpIn (Fence.wide.inRound l) (n - 1 - 1) Tryd.prog (Exit.then K (fun _ _ _ => False)) { tmps := a.tmps.setIfInBounds p (spV x.1), defers := [] } W)
    (hbody : ∀ (l : Nat) (pre : List Sp) (x : NdX w B bn) (a' : Act) (W : World), w.heap.size ≤ W.heap.size → NkW B bn w W → Ib pre W → Ax x a' W → pre.length < nd.flat.length → pre ++ [x.1.sp] <+: nd.flat →
      body.wpIn (Fence.wide.inRound l) (n - 1 - 1) Tryd.prog (fun e a'' W' => (e = .normal ∧ Rd w.heap.size B bn W W' ∧ Ib (pre ++ [x.1.sp]) W') ∨ ∃ ch, e = .panic ch ∧ a''.defers = [] ∧ Rd w.heap.size B bn W W' ∧ Ip ch (pre ++ [x.1.sp]) W') a' W)
    (hdone : ∀ (D : Nat) (W : World), w.heap.size ≤ D → NkW B bn w W → Ib nd.flat W → W.heap[D]? = some (.deferred (some [])) → Q .normal { a with defers := { target := .collected D, args := #[] } :: a.defers } W)
    (hpanic : ∀ (D : Nat) (ch : List PanicEntry) (pre : List Sp) (W : World), w.heap.size ≤ D → pre <+: nd.flat → Ip ch pre W → W.heap[D]? = some (.deferred (some [])) → Q (.panic ch) { a with defers := { target := .collected D, args := #[] } :: a.defers } W) :
    wpF f0 Fence.wide n Tryd.prog (Code.rangeFunc g #[p] assign body) Q a w := by
  have hsz : OwnI itE w.heap.size (fun (_ : List (NdX w B bn)) W => w.heap.size ≤ W.heap.size ∧ NkW B bn w W) := fun s A C row hs hgr hr =>
    ⟨Nat.le_trans hs.1 hgr.size, ⟨hs.2.below.grown hgr (Nat.le_trans hB hs.1) (fun k e => Nat.le_trans hB (hr k e).1), (hgr.block bn (Nat.lt_of_lt_of_le hbn hs.1) (fun e => by have := (hr bn e.symm).1; omega)).trans hs.2.box⟩⟩
  have hIb2 : OwnI itE w.heap.size (fun (pre : List (NdX w B bn)) W => Ib (pre.map (·.1.sp)) W) := fun s A C row hs hgr hr => hIb _ A C row hs hgr hr
  have hz : ∀ v, (#[p].zip #[v]).foldl (fun t x => t.setIfInBounds x.1 x.2) a.tmps = a.tmps.setIfInBounds p v := fun v => by simp
  refine wpF_rangeFunc_own (it := itE) (fun _ => rfl) (fun _ => rfl) (n := n) rfl (by omega) hf0 hg trivial (fun _ _ => rfl) (nodes_stops (n - 1) (by omega) w B bn hB hbn nd hnd hN) (fun h k => h.trans k) ?_ (Below.refl _ w) (fun _ => rfl)
    (fun pre W => (w.heap.size ≤ W.heap.size ∧ NkW B bn w W) ∧ Ib (pre.map (·.1.sp)) W) (fun _ _ _ => False) (fun ch pre W => Ip ch (pre.map (·.1.sp)) W) (hsz.and hIb2) (fun _ _ _ _ _ h => h.elim) ⟨⟨Nat.le_refl _, NkW.refl _ _ _⟩, h0⟩ Ax hAx ?_ ?_ ?_ ?_ ?_
  · intro W l o o' hl hk ho _
    refine ⟨⟨(Below.refl B W).grown (grownBy_putObj' W l o') (by have := (Array.getElem?_eq_some_iff.1 hk).1; omega) (fun k e => by cases e; omega), (grownBy_putObj' W l o').block bn (by have := (Array.getElem?_eq_some_iff.1 hk).1; omega) (fun e => by cases e; omega)⟩, fun j cs hj => ((grownBy_putObj' W l o').block j (Array.getElem?_eq_some_iff.1 hj).1 (fun e => ?_)).trans hj⟩
    cases e; rw [hk] at hj; cases hj; cases ho
  · intro l pre x W K hI hK
    show Code.wpIn _ _ _ _ _ { tmps := (#[p].zip #[spV x.1]).foldl (fun t x => t.setIfInBounds x.1 x.2) a.tmps, defers := [] } W
    rw [hz]
    refine hassign l _ x W K hI.1.1 hI.2 fun a' W' hgr hax => ?_
    have hR := Rd.of_below (D := w.heap.size) (below_of_grown hgr) (Nat.le_trans hB hI.1.1) (Nat.lt_of_lt_of_le hbn hI.1.1)
    exact hK a' W' hR.keeps hR.kp ⟨⟨Nat.le_trans hI.1.1 hgr.size, hI.1.2.trans hR.kp.nk⟩, hIb _ _ _ none hI.2 hgr (fun r e => by cases e)⟩ hax
  · intro l pre x a' W hI hax hlen hsx
    refine wpIn_mono (hbody l _ x a' W hI.1.1 hI.1.2 hI.2 hax (by simpa using hlen) (by simpa using hsx)) ?_
    rintro e a'' W' (⟨rfl, hR, hi⟩ | ⟨ch, rfl, hd, hR, hi⟩)
    · exact ⟨hR.keeps, hR.kp, ⟨Nat.le_trans hI.1.1 hR.keeps.size, hI.1.2.trans hR.kp.nk⟩, by simpa using hi⟩
    · exact ⟨hd, hR.keeps, by simpa using hi⟩
  · intro D xs W hD hS hI hk
    refine hdone D W hD hI.1.2 ?_ hk
    have h2 := hI.2
    rwa [hS] at h2
  · intro D c pre W _ _ h
    exact h.elim
  · intro D ch pre W hD hSp hI hk
    exact hpanic D ch _ W hD hSp hI hk
end Go.Proofs.YtmcafiihicanfaaDoor

/- files: Count, Depth, Size. -/
namespace Go.Proofs.YtmcafiihicanfaaDoor
open Go Go.RowKit Go.BigFrame
open Fil (Es Nd Sp)
attribute [local go_sem] Oper.semAt_some

/-- A node in a new box. -/
theorem box_node {W : World} {B : Nat} {nd : Nd} {A : Option Addr} {c : Nat} (h : EsAt W B (.slice A nd.es.len c) nd.es) (hB : B ≤ W.heap.size) (hd : nd.d.size ≤ maxLen) (hk : nd.k < 256) :
    NdC (W.alloc (.cells #[.int .u8 (nd.k : Int), .string nd.d, .slice A nd.es.len c] 26)) B ⟨W.heap.size, 0, none⟩ nd := by
  have hb := heap_alloc_new W (.cells #[.int .u8 (nd.k : Int), .string nd.d, .slice A nd.es.len c] 26)
  have e1 : (⟨W.heap.size, 0, none⟩ : Addr).add 1 = ⟨W.heap.size, 1, none⟩ := rfl
  have e2 : (⟨W.heap.size, 0, none⟩ : Addr).add 2 = ⟨W.heap.size, 2, none⟩ := rfl
  refine ⟨?_, ?_, ⟨_, ?_, h.keep ((Below.refl B W).alloc hB _)⟩, hd, hk⟩
  · rw [cell_of_row _ _ _ _ _ _ hb]; rfl
  · rw [e1, cell_of_row _ _ _ _ _ _ hb]; rfl
  · rw [e2, cell_of_row _ _ _ _ _ _ hb]; rfl
theorem one_box {W : World} {g : Nat} {v : Value} {T : TypeId} (h : W.heap[g]? = some (.cells #[v] T (0, 0))) : W.cell? ⟨g, 0, none⟩ = some v ∧ W.frozen? ⟨g, 0, none⟩ = false := by
  refine ⟨?_, frozen_of_row _ _ _ _ _ h⟩
  unfold World.cell?; simp [h]
theorem one_put {W : World} {g : Nat} {v : Value} {T : TypeId} (h : W.heap[g]? = some (.cells #[v] T (0, 0))) (u : Value) : (W.setCell ⟨g, 0, none⟩ u).heap[g]? = some (.cells #[u] T (0, 0)) := by
  have := blk_set h 0 u
  simpa using this
theorem count_any (n : Nat) (hn : 3 ≤ n) (v : Value) (nd : Nd) (w : World) (hv : NdV w w.heap.size v nd) (hN : nd.flat.length ≤ 1000000000) :
    CallsIn Fence.wide n Tryd.prog 16 #[v] w fun e W => e = .returned (.int .i64 (nd.count : Int)) ∧ Below w.heap.size w W := by
  have hro : Fence.wide.round = none := rfl
  obtain ⟨ev, rfl, hes, hd, hk⟩ := hv
  obtain ⟨A, c, rfl, _, _⟩ := hes.form
  refine callsIn_of_wpF Tryd.func16 rfl trivial ?_ hro
  simp only [Tryd.ntmps16, List.size_toArray, List.length_cons, List.length_nil, Nat.reduceAdd, Nat.reduceSub, Array.replicate_succ, Array.replicate_zero, List.push_toArray, List.append_toArray, List.nil_append, List.cons_append]
  refine wpF_seq_in fun K hK => ?_
  gi_wp2
  refine wpF_seq_in fun K hK => ?_
  gi_wp2
  refine wpF_seq ?_
  refine wpF_seq_in fun K hK => ?_
  gi_wp2_with (refine ⟨trivial, fun _ => by omega, (nodes_any _ _ nd.k nd.d _ rfl A c nd.es.len rfl _).mono ?_⟩; rintro e W ⟨rfl, rfl⟩)
  refine wpF_block ?_
  have hb1 : Below w.heap.size w ((w.alloc (.cells #[.int .u8 (nd.k : Int), .string nd.d, .slice A nd.es.len c] 26)).alloc (.cells #[.int .i64 0] 3)) := ((Below.refl _ w).alloc (Nat.le_refl _) _).alloc (by simp) _
  have hb2 := hb1.alloc (by simp; omega) (.cells #[.int .u8 (nd.k : Int), .string nd.d, .slice A nd.es.len c] 26)
  have hnd := box_node (hes.keep hb1) (by simp; omega) hd hk
  have hcb : (((w.alloc (.cells #[.int .u8 (nd.k : Int), .string nd.d, .slice A nd.es.len c] 26)).alloc (.cells #[.int .i64 0] 3)).alloc (.cells #[.int .u8 (nd.k : Int), .string nd.d, .slice A nd.es.len c] 26)).heap[w.heap.size + 1]? = some (.cells #[.int .i64 0] 3 (0, 0)) := by
    refine (old_block _ _ _ (by simp)).trans ?_
    have := heap_alloc_new (w.alloc (.cells #[.int .u8 (nd.k : Int), .string nd.d, .slice A nd.es.len c] 26)) (.cells #[.int .i64 0] 3)
    simpa using this
  have hsz : (((w.alloc (.cells #[.int .u8 (nd.k : Int), .string nd.d, .slice A nd.es.len c] 26)).alloc (.cells #[.int .i64 0] 3)).alloc (.cells #[.int .u8 (nd.k : Int), .string nd.d, .slice A nd.es.len c] 26)).heap.size = w.heap.size + 3 := by simp
  simp only [World.size_alloc] at hnd ⊢
  generalize World.alloc (World.alloc (World.alloc _ _) _) _ = w3 at *
  refine wpF_nodes n hn ⟨_, rfl⟩ (g := .tmp 5) (bn := w.heap.size + 1 + 1) (B := w.heap.size) (nd := nd) rfl (by omega) (by omega) hnd hN
    (fun pre W => W.heap[w.heap.size + 1]? = some (.cells #[.int .i64 (pre.length : Int)] 3 (0, 0))) (OwnI.block (fun _ => w.heap.size + 1) _ (fun _ => rfl) (fun _ => rfl)) hcb (fun _ _ _ => False)
    (fun x a' _ => a' = { tmps := #[.agg #[.int .u8 (nd.k : Int), .string nd.d, .slice A nd.es.len c], .pointer (some ⟨w.heap.size, 0, none⟩), .int .i64 0, .pointer (some ⟨w.heap.size + 1, 0, none⟩), .agg #[.int .u8 (nd.k : Int), .string nd.d, .slice A nd.es.len c], .func (.func 51) #[] #[.pointer (some ⟨w.heap.size + 1 + 1, 0, none⟩)], spV x.1, undef, undef, undef], defers := [] }) (fun _ _ => OwnI.pure _) ?_ ?_ ?_ ?_
  · intro l pre x W K _ _ hK
    gi_wp2
    exact hK _ _ (World.grownBy.refl _ _) rfl
  · rintro l pre x a' W hWs hnk hI rfl hlen hsx
    obtain ⟨h1, h2⟩ := one_box hI
    have hw1 : IntKind.i64.wrap ((pre.length : Int) + 1) = (pre.length : Int) + 1 := IntWalk.i64_in _ (by omega)
    gi_wp2
    refine ⟨Rd.step (grown_cell W _ 0 _) hI (by omega) (by omega) (by omega) (by decide), ?_⟩
    rw [one_put hI]
  · intro D W hD hnk hI hk
    obtain ⟨h1, h2⟩ := one_box hI
    refine wpF_in ?_
    gi_wp2
    refine ⟨by simp, .inl ⟨_, _, rfl, run_takeDeferred hk, ?_⟩⟩
    refine ⟨_, results_tmp rfl _ _ _, ?_, ?_⟩
    · simp [Fil.Nd.flat_len]
    · exact (hb2.trans hnk.below).grown (grownBy_putObj' W D _) (by have := hnk.below.size; omega) (fun k e => by cases e; omega)
  · intro D ch pre W _ _ h
    exact h.elim
end Go.Proofs.YtmcafiihicanfaaDoor
