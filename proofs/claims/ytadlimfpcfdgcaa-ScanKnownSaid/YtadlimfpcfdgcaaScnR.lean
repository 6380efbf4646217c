/- scan: ScanRefs, ScanTree, for what is small. -/
import Derived.Test.YtadlimfpcfdgcaaScnQ
set_option linter.unusedVariables false
set_option linter.unusedSimpArgs false
namespace Go.Proofs.Ytadlimfpcfdgcaa
open Go Go.RowKit Go.BigFrame Go.Maps
open Scn (runOf wins winsTo firsts)
open Fil (Es Nd Sp)

set_option maxRecDepth 100000 in
set_option maxHeartbeats 4000000 in
theorem scanRefs_c (v a : Value) (l : List UInt8) (names : List ByteArray) (B : Nat) (w : World) (hv : BytAt w B v l) (ha : Reads w B a (strs names)) (hBw : B ≤ w.heap.size) (hl : l.length ≤ 600) (hf : FewT names) :
    Calls Try.prog 14 #[v, a] w fun e W => e = .returned (.bool true) ∧ Below w.heap.size w W := by
  have HV := Lib.hid hv
  have HA := Lib.hid ha
  have HF := Lib.hid hf
  obtain ⟨A, cap, rfl, _⟩ := hv.form
  obtain ⟨A2, c2, rfl, _⟩ := ha.shape
  clear hv ha hf
  have hlI : decide ((600 : Int) < (l.length : Int)) = false := decide_eq_false (by omega)
  have HW := Lib.hid (few_any _ names B w HA.out hBw HF.out)
  go_enter Try.func14, Try.ntmps14
  go_wp2_with fail
  refine HW.out.mono ?_
  rintro e w1 ⟨rfl, hb1⟩
  have HB1 := Lib.hid hb1
  have HR := Lib.hid (refs_any _ _ l names B w1 (HV.out.keep (hb1.mono hBw)) (HA.out.below (hb1.mono hBw)) (Nat.le_trans hBw hb1.size) HF.out.small (by have := HF.out.1; omega) (by omega))
  clear hb1 HW
  go_wp2_with fail
  refine HR.out.mono ?_
  rintro e w2 ⟨hb2, v2, rfl, ho2⟩
  have HB2 := Lib.hid (below_step HB1.out hb2 HB1.out.size)
  have HO2 := Lib.hid ho2
  have HS := Lib.hid (refRefs_any _ _ l names B w2 (HV.out.keep (HB2.out.mono hBw)) (HA.out.below (HB2.out.mono hBw)) (Nat.le_trans hBw HB2.out.size) HF.out.small (by have := HF.out.1; omega) (by omega))
  clear hb2 ho2 HR
  go_wp2_with fail
  refine HS.out.mono ?_
  rintro e w3 ⟨hb3, v3, rfl, ho3⟩
  have HB3 := Lib.hid (below_step HB2.out hb3 HB2.out.size)
  have HT := Lib.hid (sameTexts_any v2 v3 _ _ _ w3 (Reads.own (own_below HO2.out hb3 (Nat.le_refl _))) (Reads.own ho3))
  rw [decide_eq_true rfl] at HT
  clear hb3 ho3 HS
  go_wp2_with fail
  refine HT.out.mono ?_
  rintro e w4 ⟨rfl, nq4, hw4⟩
  have HB4 := Lib.hid (show Below w.heap.size w w4 by rw [hw4]; exact below_drewN HB3.out _)
  clear hw4 HT
  go_wp2_with fail
  refine (works_any w4).mono ?_
  rintro e w5 ⟨rfl, hb5⟩
  have HB5 := Lib.hid (below_step HB4.out hb5 HB4.out.size)
  clear hb5
  go_wp2_with fail
  go_ret
  exact ⟨rfl, HB5.out⟩
/-- What a slot of ScanTree's region may hold. -/
inductive Kt
  | nd | nm | row | num | boo (b : Bool)
def RT (nd : Nd) (names : List ByteArray) (VN VA : Value) : Kt → Value → World → Prop
  | .nd, v, _ => v = VN
  | .nm, v, _ => v = VA
  | .row, v, w => Reads w w.heap.size v (strs (treeF nd names))
  | .num, v, _ => ∃ r : Nat, v = .int .i64 (r : Int) ∧ r ≤ 800
  | .boo b, v, _ => v = .bool b
theorem RT.below {nd : Nd} {names : List ByteArray} {VN VA : Value} {k : Kt} {v : Value} {w w' : World} (h : RT nd names VN VA k v w) (hb : Below w.heap.size w w') : RT nd names VN VA k v w' := by
  cases k with
  | row => exact (Reads.below h hb).more hb.size
  | nd => exact h
  | nm => exact h
  | num => exact h
  | boo b => exact h
def kindsT : List Kt := [.nd, .num, .boo false, .boo false, .nm, .boo true, .boo false, .boo false, .boo false, .nd, .nm, .row, .nd, .nm, .row, .boo true, .boo true, .boo true, .boo true, .boo true, .boo true]
theorem load_node {w' : World} {g k : Nat} {d : ByteArray} {v : Value} (h : w'.heap[g]? = some (ndCells k d v)) : (loadVar 40 ⟨g, 0, none⟩).run Try.prog w' = .ok (.agg #[.int .u8 (k : Int), .string d, v]) w' :=
  run_loadVar_cells w' ⟨g, 0, none⟩ 40 #[.int .u8 (k : Int), .string d, v] _ (row_cells h) Try.underlying40 rfl (by kernel_rfl)
set_option maxRecDepth 100000 in
set_option maxHeartbeats 8000000 in
theorem scanTree_c (v a : Value) (nd : Nd) (names : List ByteArray) (B : Nat) (w : World) (hv : NdV w B v nd) (ha : Reads w B a (strs names)) (hBw : B ≤ w.heap.size) (hf : FewT names) (hw : weiN nd ≤ 800) :
    Calls Try.prog 16 #[v, a] w fun e W => e = .returned (.bool true) ∧ Below w.heap.size w W := by
  have HV := Lib.hid hv
  have HA := Lib.hid ha
  obtain ⟨ev, rfl, hes, hd, hk⟩ := hv
  obtain ⟨A, c, rfl, hlc, hcm⟩ := hes.form
  obtain ⟨A2, c2, rfl, _⟩ := ha.shape
  clear ha hes
  go_enter Try.func16, Try.ntmps16
  have hb0 : Below w.heap.size w (w.alloc (ndCells nd.k nd.d (.slice A nd.es.len c))) := (Below.refl _ w).alloc (Nat.le_refl _) _
  have hg0 : (w.alloc (ndCells nd.k nd.d (.slice A nd.es.len c))).heap[w.heap.size]? = some (ndCells nd.k nd.d (.slice A nd.es.len c)) := heap_alloc_new _ _
  have hsz : (w.alloc (ndCells nd.k nd.d (.slice A nd.es.len c))).heap.size = w.heap.size + 1 := by simp
  go_upto_region 1 with (fail)
  change Code.wp _ _ _ _ (w.alloc (ndCells nd.k nd.d (.slice A nd.es.len c)))
  generalize w.alloc (ndCells nd.k nd.d (.slice A nd.es.len c)) = W1 at *
  obtain ⟨VN, hVN⟩ : ∃ VN, VN = Value.agg #[.int .u8 (nd.k : Int), .string nd.d, .slice A nd.es.len c] := ⟨_, rfl⟩
  obtain ⟨VA, hVA⟩ : ∃ VA, VA = Value.slice A2 names.length c2 := ⟨_, rfl⟩
  have HLD := Lib.hid (fun (w' : World) (hC : KeepW W1 W1.heap.size w') => show (loadVar 40 ⟨w.heap.size, 0, none⟩).run Try.prog w' = .ok VN w' from by
    rw [hVN]
    exact load_node ((hC.1.block _ (by omega)).trans hg0))
  have HCB := Lib.hid (fun (w' : World) (hC : KeepW W1 W1.heap.size w') => show B ≤ w'.heap.size from Nat.le_trans hBw (Nat.le_trans hb0.size hC.2))
  have HBB := Lib.hid (fun (w' : World) (hC : KeepW W1 W1.heap.size w') => show Below w.heap.size w w' from hb0.trans (hC.1.mono hb0.size))
  have HVN := Lib.hid (fun (w' : World) (hC : KeepW W1 W1.heap.size w') => show NdV w' B VN nd from by rw [hVN]; exact HV.out.keep ((HBB.out w' hC).mono hBw))
  have HVA := Lib.hid (fun (w' : World) (hC : KeepW W1 W1.heap.size w') => show Reads w' B VA (strs names) from by rw [hVA]; exact HA.out.below ((HBB.out w' hC).mono hBw))
  refine Inv.wp_region_invW (by kernel_rfl) (fun w' => KeepW W1 W1.heap.size w') (fun k v w' => RT nd names VN VA (kindsT.getD k .num) v w') (Inv.formW_spec (by kernel_rfl)) (KeepW.start (Nat.le_refl _)).drew (Inv.Each.steps ?_ rfl) (fun f w5 hC hR => ?_)
  · rw [← hVA]
    clear hVN hVA HA HV
    refine ⟨?_, ?_, ?_, ?_, ?_, ?_, ?_, ?_, ?_, ?_, ?_, ?_, ?_, ?_, ?_, ?_, ?_, ?_, ?_, ?_, ?_, trivial⟩
    · refine Inv.StepW.of_run rfl (fun _ _ _ => rfl) ⟨fun a w' hC hdep hfix => ?_⟩
      refine ⟨VN, w', ?_, hC, rfl, fun _ _ h => h⟩
      have e2 : a.eval (.tmp 2) = .pointer (some ⟨w.heap.size, 0, none⟩) := (hfix 2 (by decide)).trans rfl
      simp only [execOp, e2, Instr.loadAt, Instr.sureAddr, Sem.run_bind, Sem.run_pure, Result.andThen_ok, HLD.out w' hC]
    · refine Inv.StepW.of_call (f := 27) rfl (fun _ _ _ => rfl) (fun a w' hC hdep hfix => ?_)
      have e0 : a.eval (.tmp 5) = VN := hdep 0 _ 5 rfl rfl (by kernel_rfl)
      refine ⟨#[a.eval (.tmp 5), .int .i64 800], w', (by simp only [execOp, resolve, List.map_toArray, List.map_cons, List.map_nil]; kernel_rfl), ?_⟩
      rw [e0]
      refine (weight_any _ nd (Nat.le_refl _) 800 (by decide) w' B (HCB.out w' hC) VN (HVN.out w' hC)).mono ?_
      rintro e w2 ⟨hb2, r, rfl, _, _, h4⟩
      exact ⟨_, rfl, hC.step hb2, ⟨r, rfl, by rcases Nat.lt_or_ge 800 r with h | h; (have := h4 h; omega); exact h⟩, fun _ _ h => RT.below h hb2⟩
    · refine Inv.StepW.of_run rfl (fun _ _ _ => rfl) ⟨fun a w' hC hdep hfix => ?_⟩
      obtain ⟨r0, e0, hr0⟩ : ∃ r : Nat, a.eval (.tmp 6) = .int .i64 (r : Int) ∧ r ≤ 800 := hdep 1 _ 6 rfl rfl (by kernel_rfl)
      refine ⟨.bool false, w', ?_, hC, rfl, fun _ _ h => h⟩
      have h8 : ¬ (800 : Int) < (r0 : Int) := by omega
      simp only [execOp, e0]
      simp [Act.eval, go_sem, h8]
    · refine Inv.StepW.of_run rfl (fun _ _ _ => rfl) ⟨fun a w' hC hdep hfix => ?_⟩
      refine ⟨a.eval (.tmp 7), w', rfl, hC, (hdep 2 _ 7 rfl rfl (by kernel_rfl) : RT nd names VN VA (.boo false) (a.eval (.tmp 7)) w'), fun _ _ h => h⟩
    · refine Inv.StepW.of_run rfl (fun a w' hdep => wanted_of (j := 3) (b := false) (d := 8) rfl rfl rfl (hdep 3 _ 8 rfl rfl (by kernel_rfl))) ⟨fun a w' hC hdep hfix => ?_⟩
      refine ⟨a.eval (.tmp 1), w', rfl, hC, ((hfix 1 (by decide)).trans rfl : RT nd names VN VA (.nm) (a.eval (.tmp 1)) w'), fun _ _ h => h⟩
    · refine Inv.StepW.of_call (f := 25) rfl (fun a w' hdep => wanted_of (j := 3) (b := false) (d := 8) rfl rfl rfl (hdep 3 _ 8 rfl rfl (by kernel_rfl))) (fun a w' hC hdep hfix => ?_)
      have e0 : a.eval (.tmp 9) = VA := hdep 4 _ 9 rfl rfl (by kernel_rfl)
      refine ⟨#[a.eval (.tmp 9)], w', (by simp only [execOp, resolve, List.map_toArray, List.map_cons, List.map_nil]; kernel_rfl), ?_⟩
      rw [e0]
      refine (few_any VA names _ w' (HVA.out w' hC) (HCB.out w' hC) hf).mono ?_
      rintro e w2 ⟨rfl, hb2⟩
      exact ⟨_, rfl, hC.step hb2, rfl, fun _ _ h => RT.below h hb2⟩
    · refine Inv.StepW.of_run rfl (fun a w' hdep => wanted_of (j := 3) (b := false) (d := 8) rfl rfl rfl (hdep 3 _ 8 rfl rfl (by kernel_rfl))) ⟨fun a w' hC hdep hfix => ?_⟩
      have e0 : a.eval (.tmp 10) = .bool true := hdep 5 _ 10 rfl rfl (by kernel_rfl)
      refine ⟨.bool false, w', ?_, hC, rfl, fun _ _ h => h⟩
      simp only [execOp, e0]
      kernel_rfl
    · refine Inv.StepW.of_run rfl (fun _ _ _ => rfl) ⟨fun a w' hC hdep hfix => ?_⟩
      have e0 : a.eval (.tmp 8) = .bool false := hdep 3 _ 8 rfl rfl (by kernel_rfl)
      have e1 : a.eval (.tmp 11) = .bool false := hdep 6 _ 11 rfl rfl (by kernel_rfl)
      refine ⟨.bool false, w', ?_, hC, rfl, fun _ _ h => h⟩
      simp only [execOp, e0, e1]
      kernel_rfl
    · refine Inv.StepW.of_run rfl (fun _ _ _ => rfl) ⟨fun a w' hC hdep hfix => ?_⟩
      refine ⟨a.eval (.tmp 12), w', rfl, hC, (hdep 7 _ 12 rfl rfl (by kernel_rfl) : RT nd names VN VA (.boo false) (a.eval (.tmp 12)) w'), fun _ _ h => h⟩
    · refine Inv.StepW.of_run rfl (fun a w' hdep => wanted_of (j := 8) (b := false) (d := 13) rfl rfl rfl (hdep 8 _ 13 rfl rfl (by kernel_rfl))) ⟨fun a w' hC hdep hfix => ?_⟩
      refine ⟨VN, w', ?_, hC, rfl, fun _ _ h => h⟩
      have e2 : a.eval (.tmp 2) = .pointer (some ⟨w.heap.size, 0, none⟩) := (hfix 2 (by decide)).trans rfl
      simp only [execOp, e2, Instr.loadAt, Instr.sureAddr, Sem.run_bind, Sem.run_pure, Result.andThen_ok, HLD.out w' hC]
    · refine Inv.StepW.of_run rfl (fun a w' hdep => wanted_of (j := 8) (b := false) (d := 13) rfl rfl rfl (hdep 8 _ 13 rfl rfl (by kernel_rfl))) ⟨fun a w' hC hdep hfix => ?_⟩
      refine ⟨a.eval (.tmp 1), w', rfl, hC, ((hfix 1 (by decide)).trans rfl : RT nd names VN VA (.nm) (a.eval (.tmp 1)) w'), fun _ _ h => h⟩
    · refine Inv.StepW.of_call (f := 17) rfl (fun a w' hdep => wanted_of (j := 8) (b := false) (d := 13) rfl rfl rfl (hdep 8 _ 13 rfl rfl (by kernel_rfl))) (fun a w' hC hdep hfix => ?_)
      have e0 : a.eval (.tmp 14) = VN := hdep 9 _ 14 rfl rfl (by kernel_rfl)
      have e1 : a.eval (.tmp 15) = VA := hdep 10 _ 15 rfl rfl (by kernel_rfl)
      refine ⟨#[a.eval (.tmp 14), a.eval (.tmp 15)], w', (by simp only [execOp, resolve, List.map_toArray, List.map_cons, List.map_nil]; kernel_rfl), ?_⟩
      rw [e0, e1]
      refine (tree_c VN VA nd names _ w' (HVN.out w' hC) (HVA.out w' hC) (HCB.out w' hC) hf.small (by have := hf.1; omega) (by omega)).mono ?_
      rintro e w2 ⟨hb2, v2, rfl, ho2⟩
      exact ⟨_, rfl, hC.step hb2, Reads.own ho2, fun _ _ h => RT.below h hb2⟩
    · refine Inv.StepW.of_run rfl (fun a w' hdep => wanted_of (j := 8) (b := false) (d := 13) rfl rfl rfl (hdep 8 _ 13 rfl rfl (by kernel_rfl))) ⟨fun a w' hC hdep hfix => ?_⟩
      refine ⟨VN, w', ?_, hC, rfl, fun _ _ h => h⟩
      have e2 : a.eval (.tmp 2) = .pointer (some ⟨w.heap.size, 0, none⟩) := (hfix 2 (by decide)).trans rfl
      simp only [execOp, e2, Instr.loadAt, Instr.sureAddr, Sem.run_bind, Sem.run_pure, Result.andThen_ok, HLD.out w' hC]
    · refine Inv.StepW.of_run rfl (fun a w' hdep => wanted_of (j := 8) (b := false) (d := 13) rfl rfl rfl (hdep 8 _ 13 rfl rfl (by kernel_rfl))) ⟨fun a w' hC hdep hfix => ?_⟩
      refine ⟨a.eval (.tmp 1), w', rfl, hC, ((hfix 1 (by decide)).trans rfl : RT nd names VN VA (.nm) (a.eval (.tmp 1)) w'), fun _ _ h => h⟩
    · refine Inv.StepW.of_call (f := 28) rfl (fun a w' hdep => wanted_of (j := 8) (b := false) (d := 13) rfl rfl rfl (hdep 8 _ 13 rfl rfl (by kernel_rfl))) (fun a w' hC hdep hfix => ?_)
      have e0 : a.eval (.tmp 17) = VN := hdep 12 _ 17 rfl rfl (by kernel_rfl)
      have e1 : a.eval (.tmp 18) = VA := hdep 13 _ 18 rfl rfl (by kernel_rfl)
      refine ⟨#[a.eval (.tmp 17), a.eval (.tmp 18)], w', (by simp only [execOp, resolve, List.map_toArray, List.map_cons, List.map_nil]; kernel_rfl), ?_⟩
      rw [e0, e1]
      refine (refTree_c VN VA nd names _ w' (HVN.out w' hC) (HVA.out w' hC) (HCB.out w' hC) hf.small (by have := hf.1; omega) (by omega)).mono ?_
      rintro e w2 ⟨hb2, v2, rfl, ho2⟩
      exact ⟨_, rfl, hC.step hb2, Reads.own ho2, fun _ _ h => RT.below h hb2⟩
    · refine Inv.StepW.of_call (f := 9) rfl (fun a w' hdep => wanted_of (j := 8) (b := false) (d := 13) rfl rfl rfl (hdep 8 _ 13 rfl rfl (by kernel_rfl))) (fun a w' hC hdep hfix => ?_)
      have e0 : Reads w' w'.heap.size (a.eval (.tmp 16)) (strs (treeF nd names)) := hdep 11 _ 16 rfl rfl (by kernel_rfl)
      have e1 : Reads w' w'.heap.size (a.eval (.tmp 19)) (strs (treeF nd names)) := hdep 14 _ 19 rfl rfl (by kernel_rfl)
      refine ⟨#[a.eval (.tmp 16), a.eval (.tmp 19)], w', (by simp only [execOp, resolve, List.map_toArray, List.map_cons, List.map_nil]; kernel_rfl), (sameTexts_any _ _ _ _ _ w' e0 e1).mono ?_⟩
      rintro e w2 ⟨rfl, nq, rfl⟩
      have hb2 := below_drewN (Below.refl w'.heap.size w') nq
      exact ⟨_, rfl, hC.step hb2, by rw [decide_eq_true rfl]; rfl, fun _ _ h => RT.below h hb2⟩
    · refine Inv.StepW.of_run rfl (fun _ _ _ => rfl) ⟨fun a w' hC hdep hfix => ?_⟩
      have e0 : a.eval (.tmp 13) = .bool false := hdep 8 _ 13 rfl rfl (by kernel_rfl)
      have e1 : a.eval (.tmp 20) = .bool true := hdep 15 _ 20 rfl rfl (by kernel_rfl)
      refine ⟨.bool true, w', ?_, hC, rfl, fun _ _ h => h⟩
      simp only [execOp, e0, e1]
      kernel_rfl
    · refine Inv.StepW.of_run rfl (fun _ _ _ => rfl) ⟨fun a w' hC hdep hfix => ?_⟩
      refine ⟨a.eval (.tmp 21), w', rfl, hC, (hdep 16 _ 21 rfl rfl (by kernel_rfl) : RT nd names VN VA (.boo true) (a.eval (.tmp 21)) w'), fun _ _ h => h⟩
    · refine Inv.StepW.of_call (f := 6) rfl (fun a w' hdep => wanted_of (j := 17) (b := true) (d := 22) rfl rfl rfl (hdep 17 _ 22 rfl rfl (by kernel_rfl))) (fun a w' hC hdep hfix => ?_)
      refine ⟨#[], w', (by simp only [execOp, resolve, List.map_toArray, List.map_cons, List.map_nil]; kernel_rfl), (works_any w').mono ?_⟩
      rintro e w2 ⟨rfl, hb2⟩
      exact ⟨_, rfl, hC.step hb2, rfl, fun _ _ h => RT.below h hb2⟩
    · refine Inv.StepW.of_run rfl (fun _ _ _ => rfl) ⟨fun a w' hC hdep hfix => ?_⟩
      have e0 : a.eval (.tmp 22) = .bool true := hdep 17 _ 22 rfl rfl (by kernel_rfl)
      have e1 : a.eval (.tmp 23) = .bool true := hdep 18 _ 23 rfl rfl (by kernel_rfl)
      refine ⟨.bool true, w', ?_, hC, rfl, fun _ _ h => h⟩
      simp only [execOp, e0, e1]
      kernel_rfl
    · refine Inv.StepW.of_run rfl (fun _ _ _ => rfl) ⟨fun a w' hC hdep hfix => ?_⟩
      refine ⟨a.eval (.tmp 24), w', rfl, hC, (hdep 19 _ 24 rfl rfl (by kernel_rfl) : RT nd names VN VA (.boo true) (a.eval (.tmp 24)) w'), fun _ _ h => h⟩
  have hv4 : f 4 = .bool true := hR 20 _ 4 rfl rfl
  simp only [Inv.dsts, List.filterMap_cons, List.filterMap_nil, List.foldl_cons, List.foldl_nil, Act.put, List.setIfInBounds_toArray, List.set_cons_succ, List.set_cons_zero]
  rw [hv4]
  have HB := Lib.hid (HBB.out w5 hC)
  clear hC hR hv4 HLD HCB HBB HVN HVA
  go_wp2
  go_ret
  exact ⟨rfl, HB.out⟩
end Go.Proofs.Ytadlimfpcfdgcaa
