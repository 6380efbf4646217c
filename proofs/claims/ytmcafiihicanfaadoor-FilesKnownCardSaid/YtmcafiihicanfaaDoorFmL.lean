/- files: mayBe of a Link, of another kind, of any node. -/
import Derived.Test.YtmcafiihicanfaaDoorFilK
import Derived.Lib.AtoiErrMem
import Derived.RecoverIn
import Derived.DefersIn
set_option linter.unusedVariables false
set_option linter.unusedSimpArgs false
namespace Go.Proofs.YtmcafiihicanfaaDoor
open Go Go.RowKit Go.BigFrame
open Fil (Es Nd Sp)

set_option maxRecDepth 1000000 in
set_option maxRecDepth 100000 in
set_option maxHeartbeats 4000000 in
theorem mayBe_link (w : World) (B : Nat) (p : Addr) (nd : Nd) (hp : p.spot = none) (h : NdC w B p nd) (hk : nd.k = 3) :
    Calls Tryd.prog 41 #[.pointer (some p)] w fun e W => Below w.heap.size w W ∧ ((Fil.okB nd.k nd.d nd.es = true ∧ ∃ v, e = .returned v) ∨ (Fil.okB nd.k nd.d nd.es = false ∧ e = .panicked wrongCh)) := by
  obtain ⟨h1, h2, ⟨ev, h3, hes⟩, hdm, hkm⟩ := h
  obtain ⟨A, c, rfl, hlc, hcm⟩ := hes.form
  obtain ⟨pb, po, ps⟩ := p
  obtain rfl : ps = none := hp
  rw [add_none] at h2 h3
  have hok : Fil.okB nd.k nd.d nd.es = (!nd.d.toList.isEmpty && decide ((nd.d.size : Int) ≤ 255) && ((nd.es.len : Int) == 0) && !decide ((0 : Int) ≤ Lib.indexByte nd.d.data.toList 0)) := by
    unfold Fil.okB
    rw [if_neg (by omega), if_pos hk, any_zero]
    congr 1
    congr 1
    · congr 1
      · have hs := Lib.size_eq nd.d
        rw [Lib.toList_data]
        cases h : nd.d.data.toList with
        | nil => rw [h] at hs; simp at hs; simp [hs]
        | cons a l => rw [h] at hs; simp at hs; simp; omega
      · rw [decide_eq_decide]; omega
    · by_cases hl : nd.es.len = 0
      · simp [hl]
      · rw [decide_eq_false hl]
        symm
        exact beq_eq_false_iff_ne.2 (by omega)
  obtain ⟨ok, hok2⟩ : ∃ ok, ok = Fil.okB nd.k nd.d nd.es := ⟨_, rfl⟩
  rw [← hok2]
  rw [← hok2] at hok
  have HO := Lib.hid hok
  rw [hk] at h1
  have HC := Lib.hid (fun w => Tryd.strings_Contains_one nd.d 0 w)
  clear hok hok2 hk hkm hes hlc hcm hdm
  go_enter Tryd.func41, Tryd.ntmps41
  rcases Bool.eq_false_or_eq_true nd.d.toList.isEmpty with he | he
  · have HF := Lib.hid (show ok = false by rw [HO.out, he]; rfl)
    go_wp2_with (first | (refine (callsIn_wide.1 (must_true 0 _)).mono ?_; intro eQ WQ hQ; obtain ⟨hQ1, vQ, hQ2⟩ := hQ; have hQ3 := hQ1.symm; subst hQ3; subst hQ2) | (refine (callsIn_wide.1 (must_false 0 _)).mono ?_; intro eQ WQ hQ; obtain ⟨hQ1, hQ2⟩ := hQ; have hQ3 := hQ1.symm; subst hQ3; subst hQ2))
    exact ⟨rfl, Below.refl _ _, .inr ⟨HF.out, rfl⟩⟩
  rcases Bool.eq_false_or_eq_true (decide ((nd.d.size : Int) ≤ 255)) with hd | hd
  rotate_left
  · have HF := Lib.hid (show ok = false by rw [HO.out, he, hd]; rfl)
    go_wp2_with (first | (refine (callsIn_wide.1 (must_true 0 _)).mono ?_; intro eQ WQ hQ; obtain ⟨hQ1, vQ, hQ2⟩ := hQ; have hQ3 := hQ1.symm; subst hQ3; subst hQ2) | (refine (callsIn_wide.1 (must_false 0 _)).mono ?_; intro eQ WQ hQ; obtain ⟨hQ1, hQ2⟩ := hQ; have hQ3 := hQ1.symm; subst hQ3; subst hQ2))
    exact ⟨rfl, Below.refl _ _, .inr ⟨HF.out, rfl⟩⟩
  rcases Bool.eq_false_or_eq_true ((nd.es.len : Int) == 0) with hl | hl
  rotate_left
  · have HF := Lib.hid (show ok = false by rw [HO.out, he, hd, hl]; rfl)
    go_wp2_with (first | (refine (callsIn_wide.1 (must_true 0 _)).mono ?_; intro eQ WQ hQ; obtain ⟨hQ1, vQ, hQ2⟩ := hQ; have hQ3 := hQ1.symm; subst hQ3; subst hQ2) | (refine (callsIn_wide.1 (must_false 0 _)).mono ?_; intro eQ WQ hQ; obtain ⟨hQ1, hQ2⟩ := hQ; have hQ3 := hQ1.symm; subst hQ3; subst hQ2))
    exact ⟨rfl, Below.refl _ _, .inr ⟨HF.out, rfl⟩⟩
  rcases Bool.eq_false_or_eq_true (decide ((0 : Int) ≤ Lib.indexByte nd.d.data.toList 0)) with hz | hz
  · have HF := Lib.hid (show ok = false by rw [HO.out, he, hd, hl, hz]; rfl)
    go_wp2_with (first | (go_at_call 52; refine (HC.out _).mono ?_; rintro e W2 ⟨rfl, rfl⟩; rw [hz]) | (first | (refine (callsIn_wide.1 (must_true 0 _)).mono ?_; intro eQ WQ hQ; obtain ⟨hQ1, vQ, hQ2⟩ := hQ; have hQ3 := hQ1.symm; subst hQ3; subst hQ2) | (refine (callsIn_wide.1 (must_false 0 _)).mono ?_; intro eQ WQ hQ; obtain ⟨hQ1, hQ2⟩ := hQ; have hQ3 := hQ1.symm; subst hQ3; subst hQ2)))
    exact ⟨rfl, Below.refl _ _, .inr ⟨HF.out, rfl⟩⟩
  · have HF := Lib.hid (show ok = true by rw [HO.out, he, hd, hl, hz]; rfl)
    go_wp2_with (first | (go_at_call 52; refine (HC.out _).mono ?_; rintro e W2 ⟨rfl, rfl⟩; rw [hz]) | (first | (refine (callsIn_wide.1 (must_true 0 _)).mono ?_; intro eQ WQ hQ; obtain ⟨hQ1, vQ, hQ2⟩ := hQ; have hQ3 := hQ1.symm; subst hQ3; subst hQ2) | (refine (callsIn_wide.1 (must_false 0 _)).mono ?_; intro eQ WQ hQ; obtain ⟨hQ1, hQ2⟩ := hQ; have hQ3 := hQ1.symm; subst hQ3; subst hQ2)))
    go_end0
    exact ⟨Below.refl _ _, .inl ⟨HF.out, _, rfl⟩⟩
set_option maxRecDepth 1000000 in
set_option maxRecDepth 100000 in
set_option maxHeartbeats 4000000 in
theorem mayBe_other (w : World) (B : Nat) (p : Addr) (nd : Nd) (hp : p.spot = none) (h : NdC w B p nd) (h1' : nd.k ≠ 1) (h2' : nd.k ≠ 2) (h3' : nd.k ≠ 3) (h4' : nd.k ≠ 4) :
    Calls Tryd.prog 41 #[.pointer (some p)] w fun e W => Below w.heap.size w W ∧ ((Fil.okB nd.k nd.d nd.es = true ∧ ∃ v, e = .returned v) ∨ (Fil.okB nd.k nd.d nd.es = false ∧ e = .panicked wrongCh)) := by
  obtain ⟨h1, h2, ⟨ev, h3, hes⟩, hdm, hkm⟩ := h
  obtain ⟨pb, po, ps⟩ := p
  obtain rfl : ps = none := hp
  have hok : Fil.okB nd.k nd.d nd.es = false := by
    unfold Fil.okB
    rw [if_neg (by omega), if_neg h3', if_neg h4']
  rw [hok]
  have e1 : ((nd.k : Int) == 1) = false := beq_eq_false_iff_ne.2 (by omega)
  have e2 : ((nd.k : Int) == 2) = false := beq_eq_false_iff_ne.2 (by omega)
  have e3 : ((nd.k : Int) == 3) = false := beq_eq_false_iff_ne.2 (by omega)
  have e4 : ((nd.k : Int) == 4) = false := beq_eq_false_iff_ne.2 (by omega)
  clear hok h2 h3 hes hdm hkm h1' h2' h3' h4'
  go_enter Tryd.func41, Tryd.ntmps41
  go_wp2
  exact ⟨rfl, Below.refl _ _, .inr ⟨trivial, rfl⟩⟩
/-- mayBe: it returns, or it gives up. -/
theorem mayBe_any (n : Nat) (hn : 1 ≤ n) (w : World) (B : Nat) (p : Addr) (nd : Nd) (h : NdC w B p nd) (hB : B ≤ w.heap.size) :
    CallsIn Fence.wide n Tryd.prog 41 #[.pointer (some p)] w fun e W => Below w.heap.size w W ∧ ((Fil.okB nd.k nd.d nd.es = true ∧ ∃ v, e = .returned v) ∨ (Fil.okB nd.k nd.d nd.es = false ∧ e = .panicked wrongCh)) := by
  have hp := spot_none h.1
  have hpb : p.block < w.heap.size := Lib.lt_of_cell h.1
  by_cases h1 : nd.k = 1 ∨ nd.k = 2
  · exact mayBe_file n hn w B p nd hp h hB h1
  by_cases h3 : nd.k = 3
  · exact callsIn_wide.2 (mayBe_link w B p nd hp h h3)
  by_cases h4 : nd.k = 4
  · exact callsIn_wide.2 (mayBe_dir w B p nd hp h hB hpb h4)
  · exact callsIn_wide.2 (mayBe_other w B p nd hp h (fun e => h1 (.inl e)) (fun e => h1 (.inr e)) h3 h4)
end Go.Proofs.YtmcafiihicanfaaDoor

/- files: Right's deferred call. -/
namespace Go.Proofs.YtmcafiihicanfaaDoor
open Go Go.RowKit Go.BigFrame
open Fil (Es Nd Sp)
attribute [local go_sem] Oper.semAt_some

theorem right1_idle (n : Nat) (p : Addr) (w : World) :
    CallsDIn Fence.wide n Tryd.prog 38 #[.pointer (some p)] .returning w fun e u' w' => e = .returned (.tuple #[]) ∧ u' = .returning ∧ w' = w := by
  refine callsDIn_of_wpSIn Tryd.func38 rfl trivial fun c₀ cs hu => ?_
  apply wpSIn_seq
  apply wpSIn_region
  simp [wpOpsSIn, go_sem, recoverD, hu, Tryd.ntmps38, Exit.thenS]
  rw [show (#[Value.pointer (some p)] ++ ((Array.replicate 6 undef).setIfInBounds 1 Value.nilIface).setIfInBounds 0 Value.nilIface) = #[.pointer (some p), .nilIface, .nilIface, undef, undef, undef, undef] from rfl]
  refine wpSIn_of_wpIn rfl ?_
  gi_wp2
  exact ⟨rfl, .returning, by cases c₀; simp_all, .tuple #[], results_none rfl _ _ _, rfl, rfl, rfl⟩
set_option maxRecDepth 1000000 in
set_option maxRecDepth 100000 in
set_option maxHeartbeats 4000000 in
theorem right1_panic (n : Nat) (g : Nat) (v : Value) (w : World) (hc : w.cell? ⟨g, 0, none⟩ = some v) (hz : w.frozen? ⟨g, 0, none⟩ = false) :
    CallsDIn Fence.wide n Tryd.prog 38 #[.pointer (some ⟨g, 0, none⟩)] (.panicking wrongCh) w fun e u' w' =>
      e = .returned (.tuple #[]) ∧ u' = .panicking [{ v := .iface 52 (.agg #[]), recovered := true }] ∧ w' = w.setCell ⟨g, 0, none⟩ (.bool false) := by
  refine callsDIn_of_wpSIn Tryd.func38 rfl trivial fun c₀ cs hu => ?_
  apply wpSIn_seq
  apply wpSIn_region
  simp [wpOpsSIn, go_sem, recoverD, hu, Tryd.ntmps38, Exit.thenS, wrongCh]
  rw [show (#[Value.pointer (some ⟨g, 0, none⟩)] ++ ((Array.replicate 6 undef).setIfInBounds 1 (Value.iface 52 (.agg #[]))).setIfInBounds 0 (Value.iface 52 (.agg #[]))) = #[.pointer (some ⟨g, 0, none⟩), .iface 52 (.agg #[]), .iface 52 (.agg #[]), undef, undef, undef, undef] from rfl]
  refine wpSIn_of_wpIn rfl ?_
  have hta : ∀ w, (Instr.typeAssert (.iface 52 (.agg #[])) 20 52 false).run Tryd.prog w = .ok (.agg #[]) w := fun w => by kernel_rfl
  gi_wp2
  exact ⟨rfl, _, rfl, .tuple #[], results_none rfl _ _ _, rfl, rfl, rfl⟩
end Go.Proofs.YtmcafiihicanfaaDoor

/- files: Right. -/
namespace Go.Proofs.YtmcafiihicanfaaDoor
open Go Go.RowKit Go.BigFrame
open Fil (Es Nd Sp)
attribute [local go_sem] Oper.semAt_some

theorem right_results {W : World} {z : Nat} {b : Bool} {t : Array Value} (h : W.cell? ⟨z + 1, 0, none⟩ = some (.bool b)) (ht : t.getD 2 undef = .pointer (some ⟨z + 1, 0, none⟩)) : (results Tryd.f14 t).run Tryd.prog W = .ok (.bool b) W := by
  have hr : (Tryd.f14).results = #[ResultVar.cell 2 4] := rfl
  unfold results
  rw [hr]
  have ht' : t[2]?.getD undef = .pointer (some ⟨z + 1, 0, none⟩) := by simpa using ht
  simp [ht', h, go_sem]
/-- Between two rounds: all that came is right; the count; the answer's cell. -/
def RtI (z : Nat) (pre : List Sp) (W : World) : Prop :=
  (W.heap[z + 1 + 1]? = some (.cells #[.int .i64 (pre.length : Int)] 3 (0, 0)) ∧ W.heap[z + 1]? = some (.cells #[.bool false] 4 (0, 0))) ∧ (pre.length ≤ 4096 ∧ ∀ x ∈ pre, x.dep ≤ 32 ∧ x.ok = true)
theorem RtI.own (z D : Nat) : OwnI itE D (RtI z) :=
  ((OwnI.block (f := fun (pre : List Sp) => .cells #[.int .i64 (pre.length : Int)] 3 (0, 0)) (fun _ => z + 1 + 1) (fun _ => rfl) (fun _ => rfl)).and (OwnI.block (f := fun (_ : List Sp) => .cells #[.bool false] 4 (0, 0)) (fun _ => z + 1) (fun _ => rfl) (fun _ => rfl))).and (OwnI.pure (fun (pre : List Sp) => pre.length ≤ 4096 ∧ ∀ x ∈ pre, x.dep ≤ 32 ∧ x.ok = true))
/-- Given up. -/
def RtX (z : Nat) (w4 : World) (ch : List PanicEntry) (pre : List Sp) (W : World) : Prop :=
  ch = wrongCh ∧ NkW z (z + 1 + 1 + 1) w4 W ∧ W.heap[z + 1]? = some (.cells #[.bool false] 4 (0, 0)) ∧ (4096 < pre.length ∨ ∃ x ∈ pre, 32 < x.dep ∨ x.ok = false)
set_option maxRecDepth 1000000 in
set_option maxRecDepth 100000 in
set_option maxHeartbeats 4000000 in
theorem right_any (n : Nat) (hn : 5 ≤ n) (v : Value) (nd : Nd) (w : World) (hv : NdV w w.heap.size v nd) (hN : nd.flat.length ≤ 1000000000) :
    CallsIn Fence.wide n Tryd.prog 14 #[v] w fun e W => e = .returned (.bool nd.right) ∧ Below w.heap.size w W := by
  have hro : Fence.wide.round = none := rfl
  have hmf : ∀ (fn : Fn) (first cap : Array Value) (w : World), (Instr.makeFunc fn first cap).run Tryd.prog w = .ok (.func fn first cap) w := fun _ _ _ _ => rfl
  obtain ⟨ev, rfl, hes, hd, hk⟩ := hv
  obtain ⟨A, c, rfl, _, _⟩ := hes.form
  refine callsIn_of_wpF Tryd.func14 rfl trivial ?_ hro
  simp only [Tryd.ntmps14, List.size_toArray, List.length_cons, List.length_nil, Nat.reduceAdd, Nat.reduceSub, Array.replicate_succ, Array.replicate_zero, List.push_toArray, List.append_toArray, List.nil_append, List.cons_append]
  refine wpF_seq_in fun K hK => ?_
  gi_wp2
  refine wpF_seq_in fun K hK => ?_
  gi_wp2
  refine wpF_seq_in fun K hK => ?_
  gi_wp2
  refine wpF_seq ?_
  refine wpF_seq_in fun K hK => ?_
  gi_wp2_with (refine ⟨trivial, fun _ => by omega, (nodes_any _ _ nd.k nd.d _ rfl A c nd.es.len rfl _).mono ?_⟩; rintro e W ⟨rfl, rfl⟩)
  refine wpF_block ?_
  have hb1 : Below w.heap.size w (((w.alloc (.cells #[.int .u8 (nd.k : Int), .string nd.d, .slice A nd.es.len c] 26)).alloc (.cells #[.bool false] 4)).alloc (.cells #[.int .i64 0] 3)) := (((Below.refl _ w).alloc (Nat.le_refl _) _).alloc (by simp) _).alloc (by simp; omega) _
  have hb2 := hb1.alloc (by simp; omega) (.cells #[.int .u8 (nd.k : Int), .string nd.d, .slice A nd.es.len c] 26)
  have hnd := box_node (hes.keep hb1) (by simp; omega) hd hk
  have hcb : ((((w.alloc (.cells #[.int .u8 (nd.k : Int), .string nd.d, .slice A nd.es.len c] 26)).alloc (.cells #[.bool false] 4)).alloc (.cells #[.int .i64 0] 3)).alloc (.cells #[.int .u8 (nd.k : Int), .string nd.d, .slice A nd.es.len c] 26)).heap[w.heap.size + 1 + 1]? = some (.cells #[.int .i64 0] 3 (0, 0)) := by
    refine (old_block _ _ _ (by simp)).trans ?_
    have := heap_alloc_new ((w.alloc (.cells #[.int .u8 (nd.k : Int), .string nd.d, .slice A nd.es.len c] 26)).alloc (.cells #[.bool false] 4)) (.cells #[.int .i64 0] 3)
    simpa using this
  have hrb : ((((w.alloc (.cells #[.int .u8 (nd.k : Int), .string nd.d, .slice A nd.es.len c] 26)).alloc (.cells #[.bool false] 4)).alloc (.cells #[.int .i64 0] 3)).alloc (.cells #[.int .u8 (nd.k : Int), .string nd.d, .slice A nd.es.len c] 26)).heap[w.heap.size + 1]? = some (.cells #[.bool false] 4 (0, 0)) := by
    refine (old_block _ _ _ (by simp)).trans ((old_block _ _ _ (by simp)).trans ?_)
    have := heap_alloc_new (w.alloc (.cells #[.int .u8 (nd.k : Int), .string nd.d, .slice A nd.es.len c] 26)) (.cells #[.bool false] 4)
    simpa using this
  have hsz : ((((w.alloc (.cells #[.int .u8 (nd.k : Int), .string nd.d, .slice A nd.es.len c] 26)).alloc (.cells #[.bool false] 4)).alloc (.cells #[.int .i64 0] 3)).alloc (.cells #[.int .u8 (nd.k : Int), .string nd.d, .slice A nd.es.len c] 26)).heap.size = w.heap.size + 4 := by simp
  simp only [World.size_alloc] at hnd ⊢
  generalize World.alloc (World.alloc (World.alloc (World.alloc _ _) _) _) _ = w4 at *
  refine wpF_nodes n (by omega) ⟨_, rfl⟩ (g := .tmp 7) (bn := w.heap.size + 1 + 1 + 1) (B := w.heap.size) (nd := nd) rfl (by omega) (by omega) hnd hN
    (RtI w.heap.size) (RtI.own _ _) ⟨⟨hcb, hrb⟩, by simp, by simp⟩ (RtX w.heap.size w4)
    (fun x a' W => ∃ g, w4.heap.size ≤ g ∧ a' = { tmps := #[.agg #[.int .u8 (nd.k : Int), .string nd.d, .slice A nd.es.len c], .pointer (some ⟨w.heap.size, 0, none⟩), .pointer (some ⟨w.heap.size + 1, 0, none⟩), .pointer (some ⟨w.heap.size + 1 + 1, 0, none⟩), .pointer (some ⟨g, 0, none⟩), .func (.func 38) #[] #[.pointer (some ⟨w.heap.size + 1, 0, none⟩)], .agg #[.int .u8 (nd.k : Int), .string nd.d, .slice A nd.es.len c], .func (.func 51) #[] #[.pointer (some ⟨w.heap.size + 1 + 1 + 1, 0, none⟩)], spV x.1, undef, undef, undef, undef, undef, undef, undef, undef, undef, undef, undef, undef, undef], defers := [] } ∧ BoxSp W g x.1) (fun x a' => boxSp_own _ x.1 _) ?_ ?_ ?_ ?_
  · intro l pre x W K hWs _ hK
    unfold spV at hK ⊢
    gi_wp2
    exact hK _ _ (World.grownBy_alloc W _ none) ⟨W.heap.size, hWs, rfl, heap_alloc_new _ _⟩
  · rintro l pre x a' W hWs hnk ⟨⟨hI, hR⟩, hl, hall⟩ ⟨g, hg, rfl, hbx⟩ hlen hsx
    obtain ⟨h1, h2⟩ := one_box hI
    have hw1 : IntKind.i64.wrap ((pre.length : Int) + 1) = (pre.length : Int) + 1 := IntWalk.i64_in _ (by omega)
    have hgr := grown_cell W (w.heap.size + 1 + 1) 0 (.int .i64 ((pre.length : Int) + 1))
    have hrd : Rd w4.heap.size w.heap.size (w.heap.size + 1 + 1 + 1) W (W.setCell ⟨w.heap.size + 1 + 1, 0, none⟩ (.int .i64 ((pre.length : Int) + 1))) := Rd.step hgr hI (by omega) (by omega) (by omega) (by decide)
    have hI1 : (W.setCell ⟨w.heap.size + 1 + 1, 0, none⟩ (.int .i64 ((pre.length : Int) + 1))).heap[w.heap.size + 1 + 1]? = some (.cells #[.int .i64 ((pre.length : Int) + 1)] 3 (0, 0)) := one_put hI _
    have hR1 := (hgr.block (w.heap.size + 1) (by omega) (fun e => by have := Option.some.inj e; omega)).trans hR
    have hbx1 : BoxSp (W.setCell ⟨w.heap.size + 1 + 1, 0, none⟩ (.int .i64 ((pre.length : Int) + 1))) g x.1 := (hgr.block g (Array.getElem?_eq_some_iff.1 hbx).1 (fun e => by have := Option.some.inj e; omega)).trans hbx
    have hnx := (hnk.trans hrd.kp.nk).keep x.2.1 x.2.2.1
    obtain ⟨hx0, _, hx2⟩ := boxSp_cells hbx1
    obtain ⟨hc1, _⟩ := one_box hI1
    have hrd' := hrd
    rw [hsz] at hrd'
    have HB := Lib.hid (And.intro hrd' (And.intro (hnk.trans hrd.kp.nk) hR1))
    have hss := hrd.keeps.size
    have HM := Lib.hid (mayBe_any (n - 1 - 1 - 1) (by omega) _ w.heap.size x.1.p x.1.n hnx (by omega))
    have HA := Lib.hid (And.intro hI1 hall)
    clear hbx hgr hrd hrd' hI hR hR1 hbx1 hnx hI1 hall hss
    rcases Decidable.em ((pre.length : Int) + 1 ≤ 4096) with hq | hq
    rotate_left
    · have hq' : decide ((pre.length : Int) + 1 ≤ 4096) = false := decide_eq_false hq
      gi_wp2_with (refine ⟨trivial, fun _ => by omega, ((must_false _ _).inRound l).mono ?_⟩; rintro e W2 ⟨rfl, rfl⟩)
      exact ⟨HB.out.1, rfl, HB.out.2.1, HB.out.2.2, .inl (by simp; omega)⟩
    have hq' : decide ((pre.length : Int) + 1 ≤ 4096) = true := decide_eq_true hq
    rcases Decidable.em ((x.1.dep : Int) ≤ 32) with hdp | hdp
    rotate_left
    · have hdp' : decide ((x.1.dep : Int) ≤ 32) = false := decide_eq_false hdp
      gi_wp2_with (refine ⟨trivial, fun _ => by omega, ((must_false _ _).inRound l).mono ?_⟩; rintro e W2 ⟨rfl, rfl⟩)
      exact ⟨HB.out.1, rfl, HB.out.2.1, HB.out.2.2, .inr ⟨x.1.sp, by simp, .inl (by show 32 < x.1.dep; omega)⟩⟩
    have hdp' : decide ((x.1.dep : Int) ≤ 32) = true := decide_eq_true hdp
    gi_wp2_with (first
      | (refine ⟨trivial, fun _ => by omega, ((must_true _ _).inRound l).mono ?_⟩; rintro e W2 ⟨rfl, v, rfl⟩)
      | (refine ⟨trivial, fun _ => by omega, (HM.out.inRound l).mono ?_⟩; rintro e W2 ⟨hb3, (⟨hok, v, rfl⟩ | ⟨hok, rfl⟩)⟩))
    all_goals
      have hrd3 := HB.out.1.trans (Rd.of_below (D := w.heap.size + 4) hb3 (by have := HB.out.1.keeps.size; omega) (by have := HB.out.1.keeps.size; omega) : Rd (w.heap.size + 4) w.heap.size (w.heap.size + 1 + 1 + 1) _ _)
      have hz1 := HB.out.1.keeps.size
      have hR3 := (hb3.block (w.heap.size + 1) (by omega)).trans HB.out.2.2
      have hI3 := (hb3.block (w.heap.size + 1 + 1) (by omega)).trans HA.out.1
    · refine ⟨hrd3, ⟨by rw [hI3]; simp, hR3⟩, by simp; omega, fun y hy => ?_⟩
      rw [List.mem_append, List.mem_singleton] at hy
      rcases hy with hy | rfl
      · exact HA.out.2 y hy
      · exact ⟨by show x.1.dep ≤ 32; omega, hok⟩
    · exact ⟨hrd3, rfl, HB.out.2.1.trans (NkW.of_below hb3 (by omega) (by omega)), hR3, .inr ⟨x.1.sp, by simp, .inr hok⟩⟩
  · rintro D W hD hnk ⟨⟨hI, hR⟩, hl, hall⟩ hk2
    have hri : nd.right = true := Fil.is_right hl hall
    obtain ⟨h1, h2⟩ := one_box hR
    rw [hri]
    refine wpF_in ?_
    gi_wp2
    have hgr := grown_cell W (w.heap.size + 1) 0 (.bool true)
    have hD2 := (hgr.block D (Array.getElem?_eq_some_iff.1 hk2).1 (fun e => by have := Option.some.inj e; omega)).trans hk2
    refine ⟨by simp, .inl ⟨_, _, rfl, run_takeDeferred hD2, ?_⟩⟩
    refine ⟨by simp, .inr ⟨fun _ => by omega, .func 38, _, 38, #[.pointer (some ⟨w.heap.size + 1, 0, none⟩)], rfl, ?_, fun _ _ => trivial, ?_⟩⟩
    · simp [invoke, go_sem, enters_of Tryd.func38 (by kernel_rfl) rfl]
    refine (right1_idle _ _ _).mono ?_
    rintro e u' w' ⟨rfl, rfl, rfl⟩
    have hgp := grownBy_putObj' (W.setCell ⟨w.heap.size + 1, 0, none⟩ (.bool true)) D (.deferred none)
    have hz := hgr.size
    have hws := hnk.below.size
    have hR2 := (hgp.block (w.heap.size + 1) (by omega) (fun e => by have := Option.some.inj e; omega)).trans (one_put hR (.bool true))
    exact ⟨_, right_results (one_box hR2).1 rfl, rfl, ((hb2.trans hnk.below).grown hgr (by omega) (fun k e => by cases e; omega)).grown hgp (by omega) (fun k e => by cases e; omega)⟩
  · rintro D ch pre W hD hpx ⟨rfl, hnk, hR, hbad⟩ hk2
    have hri : nd.right = false := Fil.not_right hpx hbad
    rw [hri]
    have hgp := grownBy_putObj' W D (.deferred none)
    have hws := hnk.below.size
    have hR2 := (hgp.block (w.heap.size + 1) (by omega) (fun e => by have := Option.some.inj e; omega)).trans hR
    obtain ⟨h1, h2⟩ := one_box hR2
    show LeavesInM _ _ _ _ _ _ _ _ _
    refine ⟨by simp, .inl ⟨_, _, rfl, run_takeDeferred hk2, ?_⟩⟩
    refine ⟨by simp, .inr ⟨fun _ => by omega, .func 38, _, 38, #[.pointer (some ⟨w.heap.size + 1, 0, none⟩)], rfl, ?_, fun _ _ => trivial, ?_⟩⟩
    · simp [invoke, go_sem, enters_of Tryd.func38 (by kernel_rfl) rfl]
    refine (right1_panic _ _ _ _ h1 h2).mono ?_
    rintro e u' w' ⟨rfl, rfl, rfl⟩
    have hgr := grown_cell (W.putObj D (.deferred none)) (w.heap.size + 1) 0 (.bool false)
    have hz := hgp.size
    exact ⟨_, right_results (one_box (one_put hR2 (.bool false))).1 rfl, rfl, ((hb2.trans hnk.below).grown hgp (by omega) (fun k e => by cases e; omega)).grown hgr (by omega) (fun k e => by cases e; omega)⟩
end Go.Proofs.YtmcafiihicanfaaDoor
