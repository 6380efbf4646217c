/- Rows of bytes in memory, whole arrays out of them, and the contract of blocks. -/
import Derived.Test.YtnenjljcopbdeaaDoorShaD
import Derived.Laws.OwnMore
import Derived.Deep.AppendLies
namespace Go.Proofs.YtnenjljcopbdeaaDoor
open Go.RowKit

theorem add_block (a : Addr) (n : Nat) : (a.add n).block = a.block := by unfold Addr.add; split <;> rfl
theorem add_zero (a : Addr) : a.add 0 = a := by unfold Addr.add; simp
theorem add_two (a : Addr) (i j : Nat) : (a.add i).add j = a.add (i + j) := by
  unfold Addr.add
  by_cases hi : i = 0 <;> by_cases hj : j = 0 <;> simp [hi, hj, Nat.add_assoc]

/-- A slice of n bytes d, that lies below block B. -/
def Holds (w : World) (B : Nat) (A : Option Addr) (n : Nat) (d : Nat → Nat) : Prop :=
  0 < n → ∃ ad, A = some ad ∧ ad.block < B ∧ ∀ j, j < n → w.cell? (ad.add j) = some (.int .u8 (d j : Int))
theorem Holds.below {w w' : World} {B : Nat} {A : Option Addr} {n : Nat} {d : Nat → Nat} (h : Holds w B A n d) (hb : Below B w w') : Holds w' B A n d := fun hn => by
  obtain ⟨ad, e, hl, hc⟩ := h hn
  exact ⟨ad, e, hl, fun j hj => (hb.cell (by rw [add_block]; exact hl)).trans (hc j hj)⟩
theorem Holds.more {w : World} {B B' : Nat} {A : Option Addr} {n : Nat} {d : Nat → Nat} (h : Holds w B A n d) (hb : B ≤ B') : Holds w B' A n d := fun hn => by
  obtain ⟨ad, e, hl, hc⟩ := h hn
  exact ⟨ad, e, by omega, hc⟩
theorem Holds.cut {w : World} {B cap : Nat} {ad : Addr} {n : Nat} {d : Nat → Nat} (h : Holds w B (some ad) n d) (hk : 64 ≤ n) (hc : n ≤ cap) :
    Holds w B (if cap = 64 then some ad else some ⟨ad.block, ad.off + 64, none⟩) (n - 64) (fun i => d (64 + i)) := fun hn => by
  obtain ⟨ad', e, hl, hcell⟩ := h (by omega)
  cases e
  rw [if_neg (by omega)]
  have e64 : (⟨ad.block, ad.off + 64, none⟩ : Addr) = ad.add 64 := by simp [Addr.add]
  refine ⟨_, rfl, hl, fun j hj => ?_⟩
  rw [e64, add_two]
  exact hcell _ (by omega)
theorem Holds.setRow {w : World} {B g : Nat} {A : Option Addr} {n : Nat} {d : Nat → Nat} (h : Holds w B A n d) (hg : B ≤ g) (cs : Array Value) : Holds (w.setRow g cs) B A n d :=
  h.below ⟨rfl, rfl, rfl, by simp, fun i hi => setRow_other _ _ _ _ (by omega)⟩
theorem block_lt {w : World} {g : Nat} {o : Obj} (h : w.heap[g]? = some o) : g < w.heap.size := (Array.getElem?_eq_some_iff.1 h).1
theorem Holds.congr {w : World} {B : Nat} {A : Option Addr} {n : Nat} {d e : Nat → Nat} (h : Holds w B A n d) (he : ∀ j, j < n → d j = e j) : Holds w B A n e := fun hn => by
  obtain ⟨ad, e', hl, hc⟩ := h hn
  exact ⟨ad, e', hl, fun j hj => by rw [hc j hj, he j hj]⟩

theorem run_loadVar_cells {P : Program} (w : World) (p : Addr) (ty : TypeId) (cs : Array Value) (d : TypeDesc) (hc : ∀ j v, cs[j]? = some v → w.cell? (p.add j) = some v)
    (hu : P.underlying ty = some d) (hd : (match d with | .struct _ | .array _ _ => true | _ => false) = true) (hi : (P.info? ty).map (·.size) = some cs.size) :
    (loadVar ty p).run P w = .ok (.agg cs) w := by
  have hl : (loadCells p cs.toList.length).run P w = .ok cs.toList.toArray w :=
    run_loadCells_list (P := P) w p cs.toList (fun j v hv => hc j v (by simpa using hv))
  cases hq : P.info? ty with
  | none => simp [hq] at hi
  | some i =>
    have hs : i.size = cs.size := by simpa [hq] using hi
    have hagg : (isAgg ty).run P w = .ok true w := by
      unfold isAgg
      rw [Sem.run_bind, run_underlying hu w]
      cases d <;> simp_all
    simp only [Array.length_toList, Array.toArray_toList] at hl
    simp [loadVar, Sem.run_bind, hagg, sizeOf, typeInfo, hq, hs, hl]
theorem still_load {P : Program} {ops : Array Oper} {o : Oper} {a : Act} {w : World} {K : Act → Prop} (ty : TypeId) (x : Operand) (ho : o.op = .load ty x) (hg : o.guard = none)
    (p : Addr) (hx : a.eval x = .pointer (some p)) (cs : Array Value) (d : TypeDesc) (hc : ∀ j v, cs[j]? = some v → w.cell? (p.add j) = some v)
    (hu : P.underlying ty = some d) (hd : (match d with | .struct _ | .array _ _ => true | _ => false) = true) (hi : (P.info? ty).map (·.size) = some cs.size)
    (h : K (a.put o.dst (.agg cs))) : if Region.wanted o (yielded ops a.tmps) = true then o.still P a w K else K (a.put o.dst undef) := by
  rw [if_pos (by simp [Region.wanted, hg])]
  unfold Oper.still execOp
  simp only [ho, hx, Instr.loadAt, Instr.sureAddr, Sem.run_bind, Sem.run_pure, Result.andThen_ok, run_loadVar_cells w p ty cs d hc hu hd hi]
  rw [Oper.stillUpon_value]
  exact h
theorem wpList_load_cells {P : Program} {ops : Array Oper} {rest : List Oper} {o : Oper} {a : Act} {w : World} {Q : Exit → Act → World → Prop} (hgd : o.guard = none) (ty : TypeId) (x : Operand) (ho : o.op = .load ty x)
    (p : Addr) (hx : a.eval x = .pointer (some p)) (cs : Array Value) (d : TypeDesc) (hc : ∀ j v, cs[j]? = some v → w.cell? (p.add j) = some v)
    (hu : P.underlying ty = some d) (hd : (match d with | .struct _ | .array _ _ => true | _ => false) = true) (hi : (P.info? ty).map (·.size) = some cs.size)
    (h : wpList P ops Q rest (a.put o.dst (.agg cs)) w) : wpList P ops Q (o :: rest) a w :=
  wpList_plain hgd fun _ hK => by
    unfold Oper.wp execOp
    simp only [ho, hx, Instr.loadAt, Instr.sureAddr, Sem.run_bind, Sem.run_pure, Result.andThen_ok, run_loadVar_cells w p ty cs d hc hu hd hi]
    exact hK _ _ h
theorem run_arrayAt {P : Program} (w : World) (T e : TypeId) (n : Nat) (A : Option Addr) (len cap : Nat) (hT : P.underlying T = some (.array n e)) (h : n ≤ len) : (Instr.arrayAt T (.slice A len cap)).run P w = .ok (.pointer A) w := by
  have hlt : ¬ len < n := by omega
  simp [Instr.arrayAt, run_underlying hT, hlt]
theorem results_cell_tmp {P : Program} {fn : Func} {p q : Tmp} {ty : TypeId} (h : fn.results = #[.cell p ty, .tmp q]) (tmps : Array Value) (w : World) (g : Nat) (t : TypeId) (cs : Array Value) (fr : Nat × Nat) (d : TypeDesc) (v : Value)
    (hp : tmps.getD p undef = .pointer (some ⟨g, 0, none⟩)) (hq : tmps.getD q undef = v) (hg : w.heap[g]? = some (.cells cs t fr))
    (hu : P.underlying ty = some d) (hd : (match d with | .struct _ | .array _ _ => true | _ => false) = true) (hi : (P.info? ty).map (·.size) = some cs.size) :
    (results fn tmps).run P w = .ok (.tuple #[.agg cs, v]) w := by
  have hp' : tmps[p]?.getD undef = .pointer (some ⟨g, 0, none⟩) := by simpa using hp
  have hq' : tmps[q]?.getD undef = v := by simpa using hq
  simp [results, h, hp', hq', asAddr, run_loadVar_row w g t ty cs fr d hg hu hd hi]
theorem digA_cells {w : World} {p : Addr} {n : Nat} {d : Nat → Nat} (h : ∀ j, j < n → w.cell? (p.add j) = some (.int .u8 (d j : Int))) : ∀ j v, (digA d n)[j]? = some v → w.cell? (p.add j) = some v := by
  intro j v hv
  have hj : j < n := by
    have := (Array.getElem?_eq_some_iff.1 hv).1
    simpa [digA_size] using this
  rw [digA_get _ _ _ hj] at hv
  rw [h j hj, hv]
theorem row_cells {w : World} {g : Nat} {T : TypeId} {cs : Array Value} (h : w.heap[g]? = some (.cells cs T (0, 0))) : ∀ j v, cs[j]? = some v → w.cell? ((⟨g, 0, none⟩ : Addr).add j) = some v := by
  intro j v hv
  have hadd : (⟨g, 0, none⟩ : Addr).add j = ⟨g, j, none⟩ := by unfold Addr.add; split <;> simp_all
  rw [hadd, cell_of_row _ _ _ _ _ _ h, hv]

set_option maxRecDepth 100000 in
set_option maxHeartbeats 1000000 in
theorem blocks_any (c : Nat → UInt32) (d : Nat → Nat) (hd : ∀ i, d i < 256) (A : Option Addr) (n cap : Nat) (hnc : n ≤ cap) (hcm : cap ≤ maxLen) (w : World) (ht : Tabs w) (hr : Holds w w.heap.size A n d) (hA : A = none → cap = 0) :
    Calls Tryd.prog 28 #[.agg (wrow c 8), .slice A n cap] w fun e w' => ∃ A' cap', e = .returned (.tuple #[.agg (wrow (chainN d c (n / 64)) 8), .slice A' (n % 64) cap']) ∧ Below w.heap.size w w' ∧ Holds w' w.heap.size A' (n % 64) (fun i => d (64 * (n / 64) + i)) ∧ n % 64 ≤ cap' ∧ cap' ≤ maxLen ∧ (A' = none → cap' = 0) := by
  have HD := Lib.hid hd
  have HT := Lib.hid ht
  have HA := Lib.hid hA
  unfold maxLen at hcm
  clear hd ht hA
  go_enter Tryd.func28, Tryd.ntmps28
  go_upto_region 1 with (fail)
  rw [zeros8]
  obtain ⟨w1, hw1, hgC, hgR, hb, hsz⟩ := rows2 w (.cells (wrow c 8) 28) (.cells (wrow (fun _ => 0) 8) 28)
  rw [← hw1]
  clear hw1
  go_wp2
  go_loopw [1] (fun b wr => ∃ (k m : Nat) (A' : Option Addr) (cap' : Nat), b = .slice A' m cap' ∧ Hid (n = 64 * k + m) ∧ Hid (A' = none → cap' = 0) ∧ m ≤ cap' ∧ cap' ≤ 9223372036854775807 ∧ Holds wr w.heap.size A' m (fun i => d (64 * k + i)) ∧ wr.heap[w.heap.size]? = some (.cells (wrow (chainN d c k) 8) 28) ∧ wr.heap[w.heap.size + 1]? = some (.cells (wrow (fun _ => 0) 8) 28) ∧ Below w.heap.size w wr) (fun b _ => match b with | .slice _ m _ => m | _ => 0)
  case atStart => exact ⟨0, n, A, cap, rfl, Lib.hid (by omega), HA, hnc, hcm, (hr.below hb).congr fun j _ => by rw [Nat.mul_zero, Nat.zero_add], hgC, hgR, hb⟩
  case round =>
    clear hgC hgR hb hnc hr hsz
    obtain ⟨k, m, A', cap', rfl, HN, HA', hmc, hcm', hh, hgC, hgR, hB⟩ := hrel
    have hz := block_lt hgR
    by_cases h64 : 64 ≤ m
    · obtain ⟨ad, rfl, hl, hc⟩ := hh (by omega)
      have HC := Lib.hid hc
      have hge : decide ((64 : Int) ≤ (m : Int)) = true := decide_eq_true (by omega)
      have HGC := Lib.hid hgC
      clear hc hgC
      have harr := fun w' => run_arrayAt w' 29 5 64 (some ad) m cap' Tryd.underlying29 h64
      go_wp2
      refine wp_region_still_tail 4 (by kernel_rfl) (by kernel_rfl) ?_
      simp only [List.take_succ_cons, List.take_zero, List.drop_succ_cons, List.drop_zero]
      refine wpStill_step (fun K hK => ?_)
      refine still_load 28 _ rfl rfl ⟨w.heap.size, 0, none⟩ rfl (wrow (chainN d c k) 8) _ (row_cells HGC.out) Tryd.underlying28 rfl (by rw [wrow_size]; exact info8w) (hK _ ?_)
      clear hK K
      simp only [Act.put]
      still_step
      still_step
      refine wpStill_step (fun K hK => ?_)
      refine still_load 29 _ rfl rfl ad rfl (digA (fun i => d (64 * k + i)) 64) _ (digA_cells fun j hj => HC.out j (by omega)) Tryd.underlying29 rfl (by rw [digA_size]; exact info64) (hK _ ?_)
      clear hK K
      simp only [Act.put]
      refine wpStill_nil ?_
      change wpList _ _ _ _ _ wr.drew
      go_wp2_with fail
      refine (block_any (chainN d c k) (fun i => d (64 * k + i)) (fun i => HD.out _) _ ((HT.out.below hB).below (below_drewN (Below.refl _ _) 1))).mono ?_
      rintro e w5 ⟨rfl, hb5⟩
      have hB5 := below_step (below_drewN hB 1) hb5 hB.size
      have hgC5 := (hb5.block w.heap.size (by show w.heap.size < wr.heap.size; exact (by omega))).trans HGC.out
      have hgR5 := (hb5.block (w.heap.size + 1) (by show w.heap.size + 1 < wr.heap.size; exact (by omega))).trans hgR
      go_wp2_with (refine wpList_store_row rfl 28 _ _ rfl w.heap.size (wrow (chainN d c (k + 1)) 8) rfl rfl 28 _ hgC5 (by rw [wrow_size]; exact info8w) (by rw [wrow_size, wrow_size]) (wrow_ok _ _) ?_)
      have hh6 := ((hh.below (below_drewN (Below.refl _ _) 1)).below (hb5.mono hB.size)).cut h64 hmc
      have hb6 : Below w5.heap.size w5 w5 := Below.refl _ _
      clear hh hb5
      go_roundw
      case rel =>
        refine ⟨k + 1, m - 64, _, cap' - 64, rfl, Lib.hid (by have := HN.out; omega), Lib.hid (fun h => by have := hmc; split at h <;> cases h), by omega, by omega, ?_, setRow_heap _ _ _ _ _ _ hgC5, (setRow_other _ _ _ _ (by omega)).trans hgR5, below_setRow hB5 (Nat.le_refl _) _⟩
        have hh7 : Holds (w5.setRow w.heap.size (wrow (chainN d c (k + 1)) 8)) w.heap.size _ (m - 64) _ := hh6.setRow (Nat.le_refl _) _
        exact hh7.congr fun j _ => by rw [show 64 * k + (64 + j) = 64 * (k + 1) + j from by omega]
      case measure => show m - 64 < m; omega
    · have hge : decide ((64 : Int) ≤ (m : Int)) = false := decide_eq_false (by omega)
      have HK := Lib.hid (show k = n / 64 by have := HN.out; omega)
      have HM := Lib.hid (show m = n % 64 by have := HN.out; omega)
      clear h64
      go_wp2_with (first | (refine wpList_load_row rfl 28 _ rfl w.heap.size rfl 28 _ (0, 0) _ hgC Tryd.underlying28 rfl (by rw [wrow_size]; exact info8w) ?_) | (refine wpList_store_row rfl 28 _ _ rfl (w.heap.size + 1) (wrow (chainN d c k) 8) rfl rfl 28 _ hgR (by rw [wrow_size]; exact info8w) (by rw [wrow_size, wrow_size]) (wrow_ok _ _) ?_))
      refine bodyPost_ret (v := .tuple #[.agg (wrow (chainN d c k) 8), .slice A' m cap']) (results_cell_tmp Tryd.results28 _ _ (w.heap.size + 1) 28 _ (0, 0) _ _ rfl rfl (setRow_heap _ _ _ _ _ _ hgR) Tryd.underlying28 rfl (by rw [wrow_size]; exact info8w)) rfl ?_
      rw [← HK.out, ← HM.out]
      exact ⟨A', cap', rfl, below_setRow hB (by omega) _, hh.setRow (by omega) _, hmc, hcm', HA'.out⟩
end Go.Proofs.YtnenjljcopbdeaaDoor
