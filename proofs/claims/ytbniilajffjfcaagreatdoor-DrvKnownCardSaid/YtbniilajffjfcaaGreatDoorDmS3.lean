/- Rows of bytes in memory, whole arrays out of them, and the contract of blocks. -/
import Derived.Test.YtbniilajffjfcaaGreatDoorDmS2
import Derived.Laws.OwnMore
import Derived.Deep.AppendLies
import Derived.Deep.OwnRows
import Derived.Laws.AppendOwnNone
import Derived.Maps.AppendAt
import Derived.Laws.IdiomStrings
import Derived.Deep.RegionHeld3
import Derived.Lib.SlBytesConst
set_option linter.unusedVariables false
set_option linter.unusedSimpArgs false
namespace Go.Proofs.YtbniilajffjfcaaGreatDoor.Sha
open Go.RowKit

theorem add_block (a : Addr) (n : Nat) : (a.add n).block = a.block := by unfold Addr.add; split <;> rfl
theorem add_zero (a : Addr) : a.add 0 = a := by unfold Addr.add; simp
theorem add_two (a : Addr) (i j : Nat) : (a.add i).add j = a.add (i + j) := by
  unfold Addr.add
  by_cases hi : i = 0 <;> by_cases hj : j = 0 <;> simp [hi, hj, Nat.add_assoc]

/-- A slice of n bytes d, that lies below block B. -/
def Holds (w : World) (B : Nat) (A : Option Addr) (n : Nat) (d : Nat → Nat) : Prop :=
  0 < n → ∃ ad, A = some ad ∧ ad.block < B ∧ ∀ j, j < n → w.cell? (ad.add j) = some (.int .u8 (d j : Int))
theorem Holds.below {w w' : World} {B : Nat} {A : Option Addr} {n : Nat} {d : Nat → Nat} (h : Holds w B A n d) (hb : Below B w w') : Holds w' B A n d := fun hn => by
  obtain ⟨ad, e, hl, hc⟩ := h hn
  exact ⟨ad, e, hl, fun j hj => (hb.cell (by rw [add_block]; exact hl)).trans (hc j hj)⟩
theorem Holds.more {w : World} {B B' : Nat} {A : Option Addr} {n : Nat} {d : Nat → Nat} (h : Holds w B A n d) (hb : B ≤ B') : Holds w B' A n d := fun hn => by
  obtain ⟨ad, e, hl, hc⟩ := h hn
  exact ⟨ad, e, by omega, hc⟩
theorem Holds.cut {w : World} {B cap : Nat} {ad : Addr} {n : Nat} {d : Nat → Nat} (h : Holds w B (some ad) n d) (hk : 64 ≤ n) (hc : n ≤ cap) :
    Holds w B (if cap = 64 then some ad else some ⟨ad.block, ad.off + 64, none⟩) (n - 64) (fun i => d (64 + i)) := fun hn => by
  obtain ⟨ad', e, hl, hcell⟩ := h (by omega)
  cases e
  rw [if_neg (by omega)]
  have e64 : (⟨ad.block, ad.off + 64, none⟩ : Addr) = ad.add 64 := by simp [Addr.add]
  refine ⟨_, rfl, hl, fun j hj => ?_⟩
  rw [e64, add_two]
  exact hcell _ (by omega)
theorem Holds.setRow {w : World} {B g : Nat} {A : Option Addr} {n : Nat} {d : Nat → Nat} (h : Holds w B A n d) (hg : B ≤ g) (cs : Array Value) : Holds (w.setRow g cs) B A n d :=
  h.below ⟨rfl, rfl, rfl, by simp, fun i hi => setRow_other _ _ _ _ (by omega)⟩
theorem block_lt {w : World} {g : Nat} {o : Obj} (h : w.heap[g]? = some o) : g < w.heap.size := (Array.getElem?_eq_some_iff.1 h).1
theorem Holds.congr {w : World} {B : Nat} {A : Option Addr} {n : Nat} {d e : Nat → Nat} (h : Holds w B A n d) (he : ∀ j, j < n → d j = e j) : Holds w B A n e := fun hn => by
  obtain ⟨ad, e', hl, hc⟩ := h hn
  exact ⟨ad, e', hl, fun j hj => by rw [hc j hj, he j hj]⟩

theorem run_loadVar_cells {P : Program} (w : World) (p : Addr) (ty : TypeId) (cs : Array Value) (d : TypeDesc) (hc : ∀ j v, cs[j]? = some v → w.cell? (p.add j) = some v)
    (hu : P.underlying ty = some d) (hd : (match d with | .struct _ | .array _ _ => true | _ => false) = true) (hi : (P.info? ty).map (·.size) = some cs.size) :
    (loadVar ty p).run P w = .ok (.agg cs) w := by
  have hl : (loadCells p cs.toList.length).run P w = .ok cs.toList.toArray w :=
    run_loadCells_list (P := P) w p cs.toList (fun j v hv => hc j v (by simpa using hv))
  cases hq : P.info? ty with
  | none => simp [hq] at hi
  | some i =>
    have hs : i.size = cs.size := by simpa [hq] using hi
    have hagg : (isAgg ty).run P w = .ok true w := by
      unfold isAgg
      rw [Sem.run_bind, run_underlying hu w]
      cases d <;> simp_all
    simp only [Array.length_toList, Array.toArray_toList] at hl
    simp [loadVar, Sem.run_bind, hagg, sizeOf, typeInfo, hq, hs, hl]
theorem still_load {P : Program} {ops : Array Oper} {o : Oper} {a : Act} {w : World} {K : Act → Prop} (ty : TypeId) (x : Operand) (ho : o.op = .load ty x) (hg : o.guard = none)
    (p : Addr) (hx : a.eval x = .pointer (some p)) (cs : Array Value) (d : TypeDesc) (hc : ∀ j v, cs[j]? = some v → w.cell? (p.add j) = some v)
    (hu : P.underlying ty = some d) (hd : (match d with | .struct _ | .array _ _ => true | _ => false) = true) (hi : (P.info? ty).map (·.size) = some cs.size)
    (h : K (a.put o.dst (.agg cs))) : if Region.wanted o (yielded ops a.tmps) = true then o.still P a w K else K (a.put o.dst undef) := by
  rw [if_pos (by simp [Region.wanted, hg])]
  unfold Oper.still execOp
  simp only [ho, hx, Instr.loadAt, Instr.sureAddr, Sem.run_bind, Sem.run_pure, Result.andThen_ok, run_loadVar_cells w p ty cs d hc hu hd hi]
  rw [Oper.stillUpon_value]
  exact h
theorem wpList_load_cells {P : Program} {ops : Array Oper} {rest : List Oper} {o : Oper} {a : Act} {w : World} {Q : Exit → Act → World → Prop} (hgd : o.guard = none) (ty : TypeId) (x : Operand) (ho : o.op = .load ty x)
    (p : Addr) (hx : a.eval x = .pointer (some p)) (cs : Array Value) (d : TypeDesc) (hc : ∀ j v, cs[j]? = some v → w.cell? (p.add j) = some v)
    (hu : P.underlying ty = some d) (hd : (match d with | .struct _ | .array _ _ => true | _ => false) = true) (hi : (P.info? ty).map (·.size) = some cs.size)
    (h : wpList P ops Q rest (a.put o.dst (.agg cs)) w) : wpList P ops Q (o :: rest) a w :=
  wpList_plain hgd fun _ hK => by
    unfold Oper.wp execOp
    simp only [ho, hx, Instr.loadAt, Instr.sureAddr, Sem.run_bind, Sem.run_pure, Result.andThen_ok, run_loadVar_cells w p ty cs d hc hu hd hi]
    exact hK _ _ h
theorem run_arrayAt {P : Program} (w : World) (T e : TypeId) (n : Nat) (A : Option Addr) (len cap : Nat) (hT : P.underlying T = some (.array n e)) (h : n ≤ len) : (Instr.arrayAt T (.slice A len cap)).run P w = .ok (.pointer A) w := by
  have hlt : ¬ len < n := by omega
  simp [Instr.arrayAt, run_underlying hT, hlt]
theorem results_cell_tmp {P : Program} {fn : Func} {p q : Tmp} {ty : TypeId} (h : fn.results = #[.cell p ty, .tmp q]) (tmps : Array Value) (w : World) (g : Nat) (t : TypeId) (cs : Array Value) (fr : Nat × Nat) (d : TypeDesc) (v : Value)
    (hp : tmps.getD p undef = .pointer (some ⟨g, 0, none⟩)) (hq : tmps.getD q undef = v) (hg : w.heap[g]? = some (.cells cs t fr))
    (hu : P.underlying ty = some d) (hd : (match d with | .struct _ | .array _ _ => true | _ => false) = true) (hi : (P.info? ty).map (·.size) = some cs.size) :
    (results fn tmps).run P w = .ok (.tuple #[.agg cs, v]) w := by
  have hp' : tmps[p]?.getD undef = .pointer (some ⟨g, 0, none⟩) := by simpa using hp
  have hq' : tmps[q]?.getD undef = v := by simpa using hq
  simp [results, h, hp', hq', asAddr, run_loadVar_row w g t ty cs fr d hg hu hd hi]
theorem digA_cells {w : World} {p : Addr} {n : Nat} {d : Nat → Nat} (h : ∀ j, j < n → w.cell? (p.add j) = some (.int .u8 (d j : Int))) : ∀ j v, (digA d n)[j]? = some v → w.cell? (p.add j) = some v := by
  intro j v hv
  have hj : j < n := by
    have := (Array.getElem?_eq_some_iff.1 hv).1
    simpa [digA_size] using this
  rw [digA_get _ _ _ hj] at hv
  rw [h j hj, hv]
theorem row_cells {w : World} {g : Nat} {T : TypeId} {cs : Array Value} (h : w.heap[g]? = some (.cells cs T (0, 0))) : ∀ j v, cs[j]? = some v → w.cell? ((⟨g, 0, none⟩ : Addr).add j) = some v := by
  intro j v hv
  have hadd : (⟨g, 0, none⟩ : Addr).add j = ⟨g, j, none⟩ := by unfold Addr.add; split <;> simp_all
  rw [hadd, cell_of_row _ _ _ _ _ _ h, hv]

set_option maxRecDepth 100000 in
set_option maxHeartbeats 1000000 in
theorem blocks_any (c : Nat → UInt32) (d : Nat → Nat) (hd : ∀ i, d i < 256) (A : Option Addr) (n cap : Nat) (hnc : n ≤ cap) (hcm : cap ≤ maxLen) (w : World) (ht : Tabs w) (hr : Holds w w.heap.size A n d) (hA : A = none → cap = 0) :
    Calls Tryz.prog 61 #[.agg (wrow c 8), .slice A n cap] w fun e w' => ∃ A' cap', e = .returned (.tuple #[.agg (wrow (chainN d c (n / 64)) 8), .slice A' (n % 64) cap']) ∧ Below w.heap.size w w' ∧ Holds w' w.heap.size A' (n % 64) (fun i => d (64 * (n / 64) + i)) ∧ n % 64 ≤ cap' ∧ cap' ≤ maxLen ∧ (A' = none → cap' = 0) := by
  have HD := Lib.hid hd
  have HT := Lib.hid ht
  have HA := Lib.hid hA
  unfold maxLen at hcm
  clear hd ht hA
  go_enter Tryz.func61, Tryz.ntmps61
  go_upto_region 1 with (fail)
  rw [zeros8]
  obtain ⟨w1, hw1, hgC, hgR, hb, hsz⟩ := rows2 w (.cells (wrow c 8) 98) (.cells (wrow (fun _ => 0) 8) 98)
  rw [← hw1]
  clear hw1
  go_wp2
  go_loopw [1] (fun b wr => ∃ (k m : Nat) (A' : Option Addr) (cap' : Nat), b = .slice A' m cap' ∧ Hid (n = 64 * k + m) ∧ Hid (A' = none → cap' = 0) ∧ m ≤ cap' ∧ cap' ≤ 9223372036854775807 ∧ Holds wr w.heap.size A' m (fun i => d (64 * k + i)) ∧ wr.heap[w.heap.size]? = some (.cells (wrow (chainN d c k) 8) 98) ∧ wr.heap[w.heap.size + 1]? = some (.cells (wrow (fun _ => 0) 8) 98) ∧ Below w.heap.size w wr) (fun b _ => match b with | .slice _ m _ => m | _ => 0)
  case atStart => exact ⟨0, n, A, cap, rfl, Lib.hid (by omega), HA, hnc, hcm, (hr.below hb).congr fun j _ => by rw [Nat.mul_zero, Nat.zero_add], hgC, hgR, hb⟩
  case round =>
    clear hgC hgR hb hnc hr hsz
    obtain ⟨k, m, A', cap', rfl, HN, HA', hmc, hcm', hh, hgC, hgR, hB⟩ := hrel
    have hz := block_lt hgR
    by_cases h64 : 64 ≤ m
    · obtain ⟨ad, rfl, hl, hc⟩ := hh (by omega)
      have HC := Lib.hid hc
      have hge : decide ((64 : Int) ≤ (m : Int)) = true := decide_eq_true (by omega)
      have HGC := Lib.hid hgC
      clear hc hgC
      have harr := fun w' => run_arrayAt w' 104 5 64 (some ad) m cap' Tryz.underlying104 h64
      go_wp2
      refine wp_region_still_tail 4 (by kernel_rfl) (by kernel_rfl) ?_
      simp only [List.take_succ_cons, List.take_zero, List.drop_succ_cons, List.drop_zero]
      refine wpStill_step (fun K hK => ?_)
      refine still_load 98 _ rfl rfl ⟨w.heap.size, 0, none⟩ rfl (wrow (chainN d c k) 8) _ (row_cells HGC.out) Tryz.underlying98 rfl (by rw [wrow_size]; exact info8w) (hK _ ?_)
      clear hK K
      simp only [Act.put]
      still_step
      still_step
      refine wpStill_step (fun K hK => ?_)
      refine still_load 104 _ rfl rfl ad rfl (digA (fun i => d (64 * k + i)) 64) _ (digA_cells fun j hj => HC.out j (by omega)) Tryz.underlying104 rfl (by rw [digA_size]; exact info64) (hK _ ?_)
      clear hK K
      simp only [Act.put]
      refine wpStill_nil ?_
      change wpList _ _ _ _ _ wr.drew
      go_wp2_with fail
      refine (block_any (chainN d c k) (fun i => d (64 * k + i)) (fun i => HD.out _) _ ((HT.out.below hB).below (below_drewN (Below.refl _ _) 1))).mono ?_
      rintro e w5 ⟨rfl, hb5⟩
      have hB5 := below_step (below_drewN hB 1) hb5 hB.size
      have hgC5 := (hb5.block w.heap.size (by show w.heap.size < wr.heap.size; exact (by omega))).trans HGC.out
      have hgR5 := (hb5.block (w.heap.size + 1) (by show w.heap.size + 1 < wr.heap.size; exact (by omega))).trans hgR
      go_wp2_with (refine wpList_store_row rfl 98 _ _ rfl w.heap.size (wrow (chainN d c (k + 1)) 8) rfl rfl 98 _ hgC5 (by rw [wrow_size]; exact info8w) (by rw [wrow_size, wrow_size]) (wrow_ok _ _) ?_)
      have hh6 := ((hh.below (below_drewN (Below.refl _ _) 1)).below (hb5.mono hB.size)).cut h64 hmc
      have hb6 : Below w5.heap.size w5 w5 := Below.refl _ _
      clear hh hb5
      go_roundw
      case rel =>
        refine ⟨k + 1, m - 64, _, cap' - 64, rfl, Lib.hid (by have := HN.out; omega), Lib.hid (fun h => by have := hmc; split at h <;> cases h), by omega, by omega, ?_, setRow_heap _ _ _ _ _ _ hgC5, (setRow_other _ _ _ _ (by omega)).trans hgR5, below_setRow hB5 (Nat.le_refl _) _⟩
        have hh7 : Holds (w5.setRow w.heap.size (wrow (chainN d c (k + 1)) 8)) w.heap.size _ (m - 64) _ := hh6.setRow (Nat.le_refl _) _
        exact hh7.congr fun j _ => by rw [show 64 * k + (64 + j) = 64 * (k + 1) + j from by omega]
      case measure => show m - 64 < m; omega
    · have hge : decide ((64 : Int) ≤ (m : Int)) = false := decide_eq_false (by omega)
      have HK := Lib.hid (show k = n / 64 by have := HN.out; omega)
      have HM := Lib.hid (show m = n % 64 by have := HN.out; omega)
      clear h64
      go_wp2_with (first | (refine wpList_load_row rfl 98 _ rfl w.heap.size rfl 98 _ (0, 0) _ hgC Tryz.underlying98 rfl (by rw [wrow_size]; exact info8w) ?_) | (refine wpList_store_row rfl 98 _ _ rfl (w.heap.size + 1) (wrow (chainN d c k) 8) rfl rfl 98 _ hgR (by rw [wrow_size]; exact info8w) (by rw [wrow_size, wrow_size]) (wrow_ok _ _) ?_))
      refine bodyPost_ret (v := .tuple #[.agg (wrow (chainN d c k) 8), .slice A' m cap']) (results_cell_tmp Tryz.results61 _ _ (w.heap.size + 1) 98 _ (0, 0) _ _ rfl rfl (setRow_heap _ _ _ _ _ _ hgR) Tryz.underlying98 rfl (by rw [wrow_size]; exact info8w)) rfl ?_
      rw [← HK.out, ← HM.out]
      exact ⟨A', cap', rfl, below_setRow hB (by omega) _, hh.setRow (by omega) _, hmc, hcm', HA'.out⟩
end Go.Proofs.YtbniilajffjfcaaGreatDoor.Sha

/- The contract of Pad. -/
namespace Go.Proofs.YtbniilajffjfcaaGreatDoor.Sha
open Go.RowKit

def noughts (n : Nat) : Nat := (64 - (n + 9) % 64) % 64
def padLen (n : Nat) : Nat := noughts n + 9
def padB (n i : Nat) : Nat := if i = 0 then 128 else if i ≤ noughts n then 0 else n * 8 % 18446744073709551616 / 256 ^ (padLen n - 1 - i) % 256

theorem noughts_lt (n : Nat) : noughts n < 64 := Nat.mod_lt _ (by decide)
theorem noughts_of (n : Nat) : wrap64 ((IntKind.u64.wrap (64 - (IntKind.u64.wrap ((n : Int) + 9)).tmod 64)).tmod 64) = (noughts n : Int) := by
  have h1 : (IntKind.u64.wrap ((n : Int) + 9)).tmod 64 = (((n + 9) % 64 : Nat) : Int) := by
    rw [IntKind.wrap_u64, Int.tmod_eq_emod_of_nonneg (by omega)]; omega
  rw [h1]
  have h2 : (IntKind.u64.wrap (64 - (((n + 9) % 64 : Nat) : Int))).tmod 64 = (noughts n : Int) := by
    rw [IntKind.wrap_u64, Int.tmod_eq_emod_of_nonneg (by omega)]; unfold noughts; omega
  rw [h2]
  have := noughts_lt n
  unfold wrap64
  omega
theorem made_zero (n : Nat) : madeCells #[Value.int .u8 0] n = digA (fun _ => 0) n := by
  apply Array.toList_inj.1
  rw [toList_madeCells_one]
  simp [digA, cells, List.map_const']
/-- The bytes while they are put. -/
def padTo (n i j : Nat) : Nat := if j = 0 then 128 else if j < padLen n - i then 0 else padB n j
theorem pad_first (n : Nat) : (digA (fun _ => 0) (padLen n)).setIfInBounds 0 (.int .u8 128) = digA (padTo n 0) (padLen n) :=
  digA_set (fun _ => 0) (padTo n 0) (padLen n) 0 fun i hi hne => by simp [padTo, hne, hi]
theorem padB_lt (n i : Nat) : padB n i < 256 := by unfold padB; split; omega; split; omega; exact Nat.mod_lt _ (by decide)
theorem pad_last (n : Nat) : digA (padTo n 8) (padLen n) = digA (padB n) (padLen n) :=
  digA_congr _ _ _ fun i hi => by
    unfold padTo padB
    unfold padLen at *
    by_cases h : i = 0
    · simp [h]
    · rw [if_neg h, if_neg h]
      by_cases h2 : i < noughts n + 9 - 8
      · rw [if_pos h2, if_pos (by omega)]
      · rw [if_neg h2]
theorem pad_step (n i : Nat) (hi : i < 8) : (digA (padTo n i) (padLen n)).setIfInBounds (padLen n - 1 - i) (.int .u8 (padB n (padLen n - 1 - i) : Int)) = digA (padTo n (i + 1)) (padLen n) := by
  have e : padB n (padLen n - 1 - i) = padTo n (i + 1) (padLen n - 1 - i) := by
    unfold padTo
    rw [if_neg (by unfold padLen; omega), if_neg (by unfold padLen; omega)]
  rw [e]
  exact digA_set _ _ _ _ fun j hj hne => by
    unfold padTo
    by_cases h : j = 0
    · simp [h]
    · rw [if_neg h, if_neg h]
      by_cases h2 : j < padLen n - (i + 1)
      · rw [if_pos h2, if_pos (by omega)]
      · rw [if_neg h2]
        by_cases h3 : j < padLen n - i
        · omega
        · rw [if_neg h3]
theorem pad_byte (n i : Nat) (hi : i < 8) : IntKind.u8.wrap (((n : Int) * 8 % 18446744073709551616) / 2 ^ (8 * i)) = (padB n (padLen n - 1 - i) : Int) := by
  have e : padB n (padLen n - 1 - i) = n * 8 % 18446744073709551616 / 256 ^ i % 256 := by
    unfold padB
    rw [if_neg (by unfold padLen; omega), if_neg (by unfold padLen; omega), show padLen n - 1 - (padLen n - 1 - i) = i from by unfold padLen; omega]
  rw [e, IntKind.wrap_u8, show (256 : Nat) ^ i = 2 ^ (8 * i) from (Nat.pow_mul 2 8 i).symm, Int.natCast_emod, Int.natCast_ediv, Int.natCast_emod, Int.natCast_mul, Int.natCast_pow]
  rfl

set_option maxRecDepth 100000 in
set_option maxHeartbeats 400000 in
theorem pad_any (n : Nat) (w : World) :
    Calls Tryz.prog 62 #[.int .u64 (n : Int)] w fun e w' => e = .returned (.slice (some ⟨w.heap.size, 0, none⟩) (padLen n) (padLen n)) ∧ Below w.heap.size w w' ∧ w'.heap[w.heap.size]? = some (.cells (digA (padB n) (padLen n)) 5) := by
  obtain ⟨i0, hi, hz0, hz1, hz2⟩ := info_parts infoU8
  have ek := noughts_of n
  have hk := noughts_lt n
  obtain ⟨k, HK⟩ : ∃ k, Hid (k = noughts n) := ⟨_, Lib.hid rfl⟩
  have HL := Lib.hid (show padLen n = k + 9 by rw [HK.out]; rfl)
  rw [← HK.out] at ek hk
  have hmk : ∀ w' : World, (Instr.makeSlice 26 (.int .i64 ((k : Int) + 9)) (.int .i64 ((k : Int) + 9))).run Tryz.prog w' = .ok (.slice (some ⟨w'.heap.size, 0, none⟩) (k + 9) (k + 9)) (w'.alloc (.cells (digA (fun _ => 0) (k + 9)) 5)) := fun w' => by
    have := run_make_row (P := Tryz.prog) 26 5 i0 (.int .u8 0) Tryz.underlying26 hi hz0 hz1 rfl .i64 .i64 (k + 9) (by rw [hz2]; omega) (by omega) w'
    rw [made_zero] at this
    exact this
  go_enter Tryz.func62, Tryz.ntmps62
  go_upto_region 3 with (fail)
  obtain ⟨w1, hw1, hg, hb, hsz⟩ : ∃ w1, w1 = w.alloc (.cells (digA (fun _ => 0) (k + 9)) 5) ∧ w1.heap[w.heap.size]? = some (.cells (digA (fun _ => 0) (k + 9)) 5) ∧ Below w.heap.size w w1 ∧ w1.heap.size = w.heap.size + 1 :=
    ⟨_, rfl, heap_alloc_new w _, (Below.refl _ _).alloc (Nat.le_refl _) _, by simp⟩
  rw [← hw1]
  have hc0 : w1.cell? ⟨w.heap.size, 0, none⟩ = some (.int .u8 0) := by rw [cell_of_row _ _ _ _ _ _ hg, digA_get _ _ _ (by omega)]; rfl
  have hf0 : w1.frozen? ⟨w.heap.size, 0, none⟩ = false := frozen_of_row _ _ _ _ _ hg
  obtain ⟨w2, hw2, hg2, hb2, hsz2⟩ : ∃ w2, w2 = w1.setCell ⟨w.heap.size, 0, none⟩ (.int .u8 128) ∧ w2.heap[w.heap.size]? = some (.cells (digA (padTo n 0) (k + 9)) 5) ∧ Below w.heap.size w w2 ∧ w.heap.size < w2.heap.size := by
    refine ⟨_, rfl, ?_, hb.setCell (by show w.heap.size ≤ w.heap.size; omega) _, by simp; omega⟩
    rw [heap_setCell_same w1 w.heap.size 0 _ _ _ hg, ← HL.out, pad_first]
  have hk0 : (0 : Int) < (k : Int) + 9 := by omega
  clear hw1 hg hb hsz hmk ek
  go_wp2
  rw [← hw2]
  clear hw2 hc0 hf0 w1
  go_loopw [17] (fun i wr => ∃ j : Nat, j ≤ 8 ∧ i = .int .i64 j ∧ wr.heap[w.heap.size]? = some (.cells (digA (padTo n j) (k + 9)) 5) ∧ Below w.heap.size w wr ∧ w.heap.size < wr.heap.size) (fun i _ => 8 - (intOf i).toNat)
  case atStart => exact ⟨0, by omega, rfl, hg2, hb2, hsz2⟩
  case round =>
    clear hg2 hb2 hsz2
    obtain ⟨j, hj, rfl, hg, hb, hsz⟩ := hrel
    by_cases hlt : j < 8
    · obtain ⟨q, hq⟩ : ∃ q, q = k + 8 - j := ⟨_, rfl⟩
      have eq1 : (k : Int) + 9 - 1 - (j : Int) = (q : Int) := by omega
      have eq2 : (k : Int) + 8 - (j : Int) = (q : Int) := by omega
      have hqk : q < k + 9 := by omega
      have hqi : (q : Int) < (k : Int) + 9 := by omega
      have HQ := Lib.hid (show padLen n - 1 - j = q by rw [HL.out]; omega)
      clear hq
      obtain ⟨v, hv⟩ : ∃ v, v = padB n q := ⟨_, rfl⟩
      have ev : IntKind.u8.wrap (((n : Int) * 8 % 18446744073709551616) / 2 ^ (8 * j)) = (v : Int) := by rw [hv, ← HQ.out]; exact pad_byte n j hlt
      have ev2 : IntKind.u64.wrap ((n : Int) * 8) / 2 ^ (8 * j) % 256 = (v : Int) := by rw [← ev, IntKind.wrap_u8, IntKind.wrap_u64]
      have HV := Lib.hid hv
      clear ev
      clear hv
      have hc : wr.cell? ⟨w.heap.size, q, none⟩ = some (.int .u8 (padTo n j q : Int)) := by rw [cell_of_row _ _ _ _ _ _ hg, digA_get _ _ _ hqk]
      have hf : wr.frozen? ⟨w.heap.size, q, none⟩ = false := frozen_of_row _ _ _ _ _ hg
      obtain ⟨wz, hwz, hgz, hbz, hszz⟩ : ∃ wz, wz = wr.setCell ⟨w.heap.size, q, none⟩ (.int .u8 (v : Int)) ∧ wz.heap[w.heap.size]? = some (.cells (digA (padTo n (j + 1)) (k + 9)) 5) ∧ Below w.heap.size w wz ∧ w.heap.size < wz.heap.size := by
        refine ⟨_, rfl, ?_, hb.setCell (by show w.heap.size ≤ w.heap.size; omega) _, by simp; omega⟩
        rw [heap_setCell_same wr w.heap.size q _ _ _ hg, HV.out, ← HL.out, ← HQ.out, pad_step n j hlt]
      clear hg hb hsz
      go_wp2
      rw [← hwz]
      go_roundw
      case rel => exact ⟨j + 1, by omega, by go_num, hgz, hbz, hszz⟩
      case measure => simp [intOf]; omega
    · obtain rfl : j = 8 := by omega
      go_wp2
      go_ret
      rw [← HL.out] at hg
      rw [pad_last, HL.out] at hg
      rw [HL.out]
      exact ⟨rfl, hb, hg⟩
end Go.Proofs.YtbniilajffjfcaaGreatDoor.Sha

/- The contract of Sum. -/
namespace Go.Proofs.YtbniilajffjfcaaGreatDoor.Sha
open Go.RowKit

/-- A chain's bytes. -/
def dig (c : Nat → UInt32) (i : Nat) : Nat := (c (i / 4)).toNat / 2 ^ (24 - 8 * (i % 4)) % 256
/-- What is left of the bytes, and what is put behind them. -/
def endB (d : Nat → Nat) (n i : Nat) : Nat := if i < n % 64 then d (64 * (n / 64) + i) else padB n (i - n % 64)
def endLen (n : Nat) : Nat := n % 64 + padLen n
def sumC (d : Nat → Nat) (n : Nat) : Nat → UInt32 := chainN (endB d n) (chainN d hW (n / 64)) (endLen n / 64)
def sumB (d : Nat → Nat) (n : Nat) : Nat → Nat := dig (sumC d n)
theorem wpList_append_holds {P : Program} {w : World} {ops : Array Oper} {rest : List Oper} {o : Oper} {a : Act} {Q : Exit → Act → World → Prop} (hgd : o.guard = none) (s x : Operand) (t : TypeId)
    (ho : o.op = .call { callee := .builtin .append, args := #[s, x], argTypes := #[t, t] })
    (base : Nat) (e : TypeId) (i : TypeInfo) (ht : P.underlying t = some (.slice e)) (hi : P.info? e = some i) (hz : i.zero = some (.int .u8 0)) (hs1 : i.size = 1) (hb1 : i.bytes = 1)
    (v : Value) (n : Nat) (xs : List Value) (hs : a.eval s = v) (hown : w.ownsRow base e 1 v n xs) (B : Nat) (A : Option Addr) (m c : Nat) (d : Nat → Nat) (hx : a.eval x = .slice A m c) (hr : Holds w B A m d) (hA : A = none → c = 0) (hmc : m ≤ c)
    (h63 : n + m ≤ maxLen) (hbytes : n + m ≤ 140737488355328) (hbase : base ≤ w.heap.size)
    (h : ∀ v' w', w'.ownsRow base e 1 v' (n + m) (xs ++ cells d m) → w.grownBy w' v.ownBlock → wpList P ops Q rest (a.put o.dst v') w') : wpList P ops Q (o :: rest) a w := by
  cases A with
  | none =>
    have hc := hA rfl
    subst hc
    obtain rfl : m = 0 := by omega
    refine wpList_append_own_none hgd s x t ho base e i 1 ht hi v n xs hs hown hx ?_
    exact h v w (by simpa [cells] using hown) (World.grownBy.refl w _)
  | some ad =>
    refine wpList_append_own w hgd s x t ho base e i (.int .u8 0) 1 1 ht hi hz hs1 hb1 rfl (by decide) v n xs hs hown ad m c (cells d m) hx (by rw [cells_len]; omega) ?_ ?_ h63 (by omega) hbase fun v' w' h1 h2 _ => h v' w' h1 h2
    · intro j u hu
      have hj : j < m := by
        have := (List.getElem?_eq_some_iff.1 hu).1
        rwa [cells_len] at this
      obtain ⟨ad', e', _, hc⟩ := hr (by omega)
      cases e'
      rw [cells_get _ _ _ hj] at hu
      rw [hc j hj, hu]
    · intro u hu
      simp [cells] at hu
      obtain ⟨_, _, rfl⟩ := hu
      rfl
theorem own_below {w w' : World} {base size n B : Nat} {e : TypeId} {v : Value} {xs : List Value} (h : w.ownsRow base e size v n xs) (hb : Below B w w') (hB : w.heap.size ≤ B) : w'.ownsRow base e size v n xs := by
  obtain ⟨hl, h0 | ⟨g, cap, cur, rfl, hg, hgg, h1, h2, h3, h4⟩⟩ := h
  · exact ⟨hl, .inl h0⟩
  · exact ⟨hl, .inr ⟨g, cap, cur, rfl, hg, (hb.block g (Nat.lt_of_lt_of_le (block_lt hgg) hB)).trans hgg, h1, h2, h3, h4⟩⟩
theorem own_holds {w : World} {base n : Nat} {e : TypeId} {v : Value} {d : Nat → Nat} (h : w.ownsRow base e 1 v n (cells d n)) (hn : 0 < n) :
    ∃ g cap, v = .slice (some ⟨g, 0, none⟩) n cap ∧ base ≤ g ∧ g < w.heap.size ∧ n ≤ cap ∧ cap ≤ maxLen ∧ Holds w w.heap.size (some ⟨g, 0, none⟩) n d := by
  obtain ⟨hl, ⟨rfl, h0⟩ | ⟨g, cap, cur, rfl, hg, hgg, h1, h2, h3, h4⟩⟩ := h
  · omega
  · refine ⟨g, cap, rfl, hg, block_lt hgg, h1, h2, fun _ => ⟨_, rfl, block_lt hgg, fun j hj => ?_⟩⟩
    have hadd : (⟨g, 0, none⟩ : Addr).add j = ⟨g, j, none⟩ := by unfold Addr.add; split <;> simp_all
    rw [hadd, cell_of_row _ _ _ _ _ _ hgg]
    have := cells_get d n j hj
    rw [← h4, List.getElem?_take_of_lt (by omega)] at this
    simpa using this
theorem cells_append (a b : Nat → Nat) (m k : Nat) (e : Nat → Nat) (h1 : ∀ i, i < m → e i = a i) (h2 : ∀ i, i < k → e (m + i) = b i) : cells a m ++ cells b k = cells e (m + k) := by
  apply List.ext_getElem?
  intro i
  by_cases h : i < m
  · rw [List.getElem?_append_left (by rw [cells_len]; exact h), cells_get _ _ _ h, cells_get _ _ _ (by omega), h1 i h]
  · rw [List.getElem?_append_right (by rw [cells_len]; omega), cells_len]
    by_cases hk : i < m + k
    · rw [cells_get _ _ _ (by omega), cells_get _ _ _ hk, ← h2 _ (by omega : i - m < k), show m + (i - m) = i from by omega]
    · rw [List.getElem?_eq_none (by rw [cells_len]; omega), List.getElem?_eq_none (by rw [cells_len]; omega)]
theorem end_cells (d : Nat → Nat) (n m : Nat) (hm : m = n % 64) : cells (fun i => d (64 * (n / 64) + i)) m ++ cells (padB n) (padLen n) = cells (endB d n) (m + padLen n) :=
  cells_append _ _ _ _ _ (fun i hi => by rw [endB, if_pos (by omega)]) fun i _ => by rw [endB, if_neg (by omega), hm]; congr 1; omega
theorem endB_lt (d : Nat → Nat) (hd : ∀ i, d i < 256) (n i : Nat) : endB d n i < 256 := by unfold endB; split; exact hd _; exact padB_lt _ _
theorem kept {w w' : World} {row : Option Nat} {g : Nat} {o : Obj} (h : w.heap[g]? = some o) (hb : w.grownBy w' row) (hg : some g ≠ row) : w'.heap[g]? = some o := (hb.block g (block_lt h) hg).trans h
def digTo (c : Nat → UInt32) (k i : Nat) : Nat := if i < k then dig c i else 0
theorem dig_zero (c : Nat → UInt32) : digA (fun _ => 0) 32 = digA (digTo c 0) 32 := digA_congr _ _ _ fun i _ => by simp [digTo]
theorem dig_all (c : Nat → UInt32) : digA (digTo c 32) 32 = digA (dig c) 32 := digA_congr _ _ _ fun i hi => by simp [digTo, hi]
theorem dig_set (c : Nat → UInt32) (k : Nat) : (digA (digTo c k) 32).setIfInBounds k (.int .u8 (dig c k : Int)) = digA (digTo c (k + 1)) 32 := by
  have e : dig c k = digTo c (k + 1) k := by simp [digTo]
  rw [e]
  exact digA_set _ _ _ _ fun i _ hne => by unfold digTo; split <;> split <;> first | rfl | omega
theorem dig_start (w w9 : World) (gC : Nat) (c c1 : Nat → UInt32) (hB9 : Below w.heap.size w w9) (hgC9 : w9.heap[gC]? = some (.cells (wrow c1 8) 98)) (hgR9 : w9.heap[w.heap.size]? = some (.cells (digA (fun _ => 0) 32) 24)) (hlt : w.heap.size < gC) :
    ∃ wA, wA = (w9.setRow gC (wrow c 8)).alloc (.cells (digA (fun _ => 0) 32) 24) ∧ wA.heap[gC]? = some (.cells (wrow c 8) 98) ∧ wA.heap[w9.heap.size]? = some (.cells (digA (fun _ => 0) 32) 24) ∧ wA.heap[w.heap.size]? = some (.cells (digA (fun _ => 0) 32) 24) ∧ Below w.heap.size w wA := by
  have hC := block_lt hgC9
  refine ⟨_, rfl, (old_block _ _ _ (by simp; exact hC)).trans (setRow_heap _ _ _ _ _ _ hgC9), ?_, (old_block _ _ _ (by simp; omega)).trans ((setRow_other _ _ _ _ (by omega)).trans hgR9), (below_setRow hB9 (by omega) _).alloc (by simp; omega) _⟩
  have := heap_alloc_new (w9.setRow gC (wrow c 8)) (.cells (digA (fun _ => 0) 32) 24)
  simpa using this
theorem tab_first {w : World} (ht : Tabs w) : ∀ j v, (wrow hW 8)[j]? = some v → w.cell? ((⟨0, 0, none⟩ : Addr).add j) = some v := by
  intro j v hv
  have hj : j < 8 := by
    have := (Array.getElem?_eq_some_iff.1 hv).1
    simpa [wrow_size] using this
  have hadd : (⟨0, 0, none⟩ : Addr).add j = ⟨0, j, none⟩ := by unfold Addr.add; split <;> simp_all
  rw [wrow_get _ _ _ hj] at hv
  rw [hadd, ht.2.2 j hj, hv]
theorem zeros32 : #[Value.int IntKind.u8 0, Value.int IntKind.u8 0, Value.int IntKind.u8 0, Value.int IntKind.u8 0, Value.int IntKind.u8 0, Value.int IntKind.u8 0, Value.int IntKind.u8 0, Value.int IntKind.u8 0, Value.int IntKind.u8 0, Value.int IntKind.u8 0, Value.int IntKind.u8 0, Value.int IntKind.u8 0, Value.int IntKind.u8 0, Value.int IntKind.u8 0, Value.int IntKind.u8 0, Value.int IntKind.u8 0, Value.int IntKind.u8 0, Value.int IntKind.u8 0, Value.int IntKind.u8 0, Value.int IntKind.u8 0, Value.int IntKind.u8 0, Value.int IntKind.u8 0, Value.int IntKind.u8 0, Value.int IntKind.u8 0, Value.int IntKind.u8 0, Value.int IntKind.u8 0, Value.int IntKind.u8 0, Value.int IntKind.u8 0, Value.int IntKind.u8 0, Value.int IntKind.u8 0, Value.int IntKind.u8 0, Value.int IntKind.u8 0] = digA (fun _ => 0) 32 := rfl

set_option maxRecDepth 100000 in
set_option maxHeartbeats 1000000 in
theorem sum_any (d : Nat → Nat) (hd : ∀ i, d i < 256) (A : Option Addr) (n cap : Nat) (hnc : n ≤ cap) (hcm : cap ≤ maxLen) (w : World) (ht : Tabs w) (hr : Holds w w.heap.size A n d) (hA : A = none → cap = 0) :
    Calls Tryz.prog 37 #[.slice A n cap] w fun e w' => e = .returned (.agg (digA (sumB d n) 32)) ∧ Below w.heap.size w w' := by
  obtain ⟨i0, hi, hz0, hz1, hz2⟩ := info_parts infoU8
  have HD := Lib.hid hd
  have HT := Lib.hid ht
  have HA := Lib.hid hA
  have HCM := Lib.hid hcm
  unfold maxLen at hcm
  clear hd ht hA
  go_enter Tryz.func37, Tryz.ntmps37
  go_upto_region 1 with (fail)
  rw [zeros32]
  obtain ⟨w1, hw1, hgR, hb, hsz⟩ : ∃ w1, w1 = w.alloc (.cells (digA (fun _ => 0) 32) 24) ∧ w1.heap[w.heap.size]? = some (.cells (digA (fun _ => 0) 32) 24) ∧ Below w.heap.size w w1 ∧ w1.heap.size = w.heap.size + 1 :=
    ⟨_, rfl, heap_alloc_new w _, (Below.refl _ _).alloc (Nat.le_refl _) _, by simp⟩
  rw [← hw1]
  clear hw1
  go_wp2_with (refine wpList_load_cells rfl 98 _ rfl ⟨0, 0, none⟩ rfl (wrow hW 8) _ (tab_first (HT.out.below hb)) Tryz.underlying98 rfl (by rw [wrow_size]; exact info8w) ?_)
  refine (blocks_any hW d HD.out A n cap hnc HCM.out _ (HT.out.below hb) ((hr.below hb).more hb.size) HA.out).mono ?_
  rintro e w2 ⟨A2, cap2, rfl, hb2, hr2, hn2, hc2, hA2⟩
  have HA2 := Lib.hid hA2
  have HC2 := Lib.hid hc2
  have hgR2 := (hb2.block w.heap.size (by omega)).trans hgR
  have hB2 := below_step hb hb2 hb.size
  have hz2' : w.heap.size + 1 ≤ w2.heap.size := by have := hb2.size; omega
  unfold maxLen at hc2
  have hz1 := hb2.size
  clear hgR hb hb2 hA2 hr
  obtain ⟨c1, C1⟩ : ∃ c, Hid (c = chainN d hW (n / 64)) := ⟨_, Lib.hid rfl⟩
  rw [← C1.out]
  obtain ⟨m, HM⟩ : ∃ m, Hid (m = n % 64) := ⟨_, Lib.hid rfl⟩
  have hm64 : m < 64 := by have := HM.out; omega
  rw [← HM.out] at hr2 hn2 ⊢
  go_upto_region 2 with (refine wpList_store_row rfl 98 _ _ rfl w2.heap.size (wrow c1 8) rfl rfl 98 _ (heap_alloc_new _ _) (by rw [wrow_size]; exact info8w) (by rw [wrow_size]; rfl) (wrow_ok _ _) ?_)
  rw [zeros8]
  obtain ⟨w3, hw3, hgC, hold, hB3, hz3⟩ := row_put w.heap.size w w2 (wrow (fun _ => 0) 8) (wrow c1 8) 98 hB2 (by omega)
  rw [← hw3]
  have hgR3 := (hold w.heap.size (by omega)).trans hgR2
  have hr3 : Holds w3 w1.heap.size A2 m (fun i => d (64 * (n / 64) + i)) := by
    intro hm
    obtain ⟨ad, e1, e2, e3⟩ := hr2 hm
    refine ⟨ad, e1, e2, fun j hj => ?_⟩
    rw [← e3 j hj]
    exact World.cell?_of_block (hold _ (by rw [add_block]; omega))
  obtain ⟨gC, GC⟩ : ∃ g, Hid (g = w2.heap.size) := ⟨_, Lib.hid rfl⟩
  rw [← GC.out] at hgC ⊢
  have hlt3 : w.heap.size < w3.heap.size := by omega
  have hlt4 : w1.heap.size ≤ w3.heap.size := by omega
  have GCR := Lib.hid (show w.heap.size < gC ∧ gC < w3.heap.size by have := GC.out; omega)
  clear hw3 hold hz3 hgR2 hB2 hz2' hr2 hsz hz1
  go_wp2_with (at_builtin; refine wpList_append_holds rfl _ _ 26 rfl (gC + 1) 5 i0 Tryz.underlying26 hi hz0 hz1 hz2 _ 0 [] rfl (World.ownsRow_lit _ _ _ ?b1 ?b2 ?b3) w1.heap.size A2 m cap2 _ rfl (hr3.below ?b4) HA2.out hn2 ?b5 ?b6 ?b7 ?_)
  case b1 => have := GCR.out; omega
  case b2 => decide
  case b3 => rfl
  case b4 => exact (Below.refl _ _).alloc hlt4 _
  case b5 => unfold maxLen; omega
  case b6 => omega
  case b7 => have := GCR.out; simp; omega
  intro v5 w5 hown5 hg5
  have hB5 := (hB3.alloc (Nat.le_of_lt hlt3) (.cells #[] 5)).grown hg5 (by simp; omega) (fun g hg => by simp [Value.ownBlock] at hg; omega)
  have hgC5 := kept ((Below.heap_alloc w3 (.cells #[] 5) gC GCR.out.2).trans hgC) hg5 (by have := GCR.out.2; simp [Value.ownBlock]; omega)
  have hgR5 := kept ((Below.heap_alloc w3 (.cells #[] 5) w.heap.size hlt3).trans hgR3) hg5 (by simp [Value.ownBlock]; omega)
  have GCR5 := Lib.hid (show w.heap.size < gC ∧ gC < w5.heap.size from ⟨GCR.out.1, block_lt hgC5⟩)
  clear hg5 hB3 hgC hgR3 GCR hr3 hlt3 hlt4
  go_wp2_with fail
  refine (pad_any n _).mono ?_
  rintro e w6 ⟨rfl, hb6, hg6⟩
  have hown6 := own_below hown5 hb6 (Nat.le_refl _)
  have hB6 := below_step hB5 hb6 hB5.size
  have hgC6 := (hb6.block gC GCR5.out.2).trans hgC5
  have hgR6 := (hb6.block w.heap.size (block_lt hgR5)).trans hgR5
  have hpl : padLen n ≤ 72 := by have := noughts_lt n; unfold padLen; omega
  have hz6 : w.heap.size < w6.heap.size := block_lt hgR6
  have HP6 : Hid (Holds w6 w6.heap.size (some ⟨w5.heap.size, 0, none⟩) (padLen n) (padB n)) := Lib.hid fun _ => ⟨_, rfl, block_lt hg6, fun i hi => row_cells hg6 i _ (digA_get _ _ _ hi)⟩
  have HN6 : Hid ((some ⟨w5.heap.size, 0, none⟩ : Option Addr) = none → padLen n = 0) := Lib.hid fun h => by cases h
  have HO6 := Lib.hid hown6
  clear hown5 hb6 hB5 hgC5 hgR5 hown6
  go_wp2_with (at_builtin; go_must (refine wpList_append_holds rfl _ _ 26 rfl (gC + 1) 5 i0 Tryz.underlying26 hi hz0 hz1 hz2 v5 m _ rfl HO6.out w6.heap.size (some ⟨w5.heap.size, 0, none⟩) (padLen n) (padLen n) (padB n) rfl HP6.out HN6.out (Nat.le_refl _) ?b5 ?b6 ?b7 ?_))
  case b5 => unfold maxLen; omega
  case b6 => omega
  case b7 => have := hgC6; have := block_lt hgC6; omega
  intro v7 w7 hown7 hg7
  have hB7 := hB6.grown hg7 (by omega) (fun g hg => by have := (HO6.out.lt g hg).1; have := GCR5.out; omega)
  have hgC7 := kept hgC6 hg7 (fun e => by have := (HO6.out.lt gC e.symm).1; omega)
  have hgR7 := kept hgR6 hg7 (fun e => by have := (HO6.out.lt w.heap.size e.symm).1; have := GCR5.out; omega)
  rw [end_cells d n m HM.out] at hown7
  have hpl9 : 0 < m + padLen n := by unfold padLen; omega
  obtain ⟨g8, cap8, rfl, hb8, hlt8, hTc, hcm8, hh8⟩ := own_holds hown7 hpl9
  have HTc := Lib.hid hTc
  have HCM8 := Lib.hid hcm8
  have HH8 := Lib.hid hh8
  have HE : Hid (sumC d n = chainN (endB d n) c1 ((m + padLen n) / 64)) := Lib.hid (by rw [sumC, endLen, ← HM.out, ← C1.out])
  unfold maxLen at hcm8
  clear HO6 HP6 HN6 hg7 hB6 hgC6 hgR6 hg6 hown7 hh8 hb8 HA HA2 HC2 hpl9
  obtain ⟨T, HTT⟩ : ∃ T, Hid (T = m + padLen n) := ⟨_, Lib.hid rfl⟩
  rw [← HTT.out] at hTc HTc HH8 HE ⊢
  go_wp2_with (refine wpList_load_row rfl 98 _ rfl gC rfl 98 _ (0, 0) _ hgC7 Tryz.underlying98 rfl (by rw [wrow_size]; exact info8w) ?_)
  refine (blocks_any c1 (endB d n) (endB_lt d HD.out n) (some ⟨g8, 0, none⟩) T cap8 HTc.out HCM8.out _ (HT.out.below hB7) HH8.out (fun h => by cases h)).mono ?_
  rintro e w9 ⟨A9, cap9, rfl, hb9, _, _, _, _⟩
  rw [← HE.out]
  have hB9 := below_step hB7 hb9 hB7.size
  have hgC9 := (hb9.block gC (block_lt hgC7)).trans hgC7
  have hgR9 := (hb9.block w.heap.size (block_lt hgR7)).trans hgR7
  have GCR9 := Lib.hid (show w.heap.size < gC ∧ gC < w9.heap.size from ⟨GCR5.out.1, block_lt hgC9⟩)
  clear hb9 hB7 hgC7 hgR7 GCR5 hlt8 hTc hcm8 HTc HCM8 HH8 HE
  obtain ⟨c2, C2⟩ : ∃ c, Hid (c = sumC d n) := ⟨_, Lib.hid rfl⟩
  rw [← C2.out]
  go_upto_region 6 with (refine wpList_store_row rfl 98 _ _ rfl gC (wrow c2 8) rfl rfl 98 _ hgC9 (by rw [wrow_size]; exact info8w) (by rw [wrow_size, wrow_size]) (wrow_ok _ _) ?_)
  rw [zeros32]
  obtain ⟨wA, hwA, hgCA, hgDA, hgRA, hBA⟩ := dig_start w w9 gC c2 c1 hB9 hgC9 hgR9 GCR9.out.1
  rw [← hwA]
  obtain ⟨gD, GD⟩ : ∃ g, Hid (g = w9.heap.size) := ⟨_, Lib.hid rfl⟩
  rw [← GD.out] at hgDA ⊢
  have GDR := Lib.hid (show w.heap.size < gC ∧ gC < gD by have := GCR9.out; have := GD.out; omega)
  rw [dig_zero c2] at hgDA
  clear hwA hB9 hgC9 hgR9 GCR9
  go_wp2
  go_loopw [29] (fun i wr => ∃ k : Nat, k ≤ 32 ∧ i = .int .i64 k ∧ wr.heap[gC]? = some (.cells (wrow c2 8) 98) ∧ wr.heap[gD]? = some (.cells (digA (digTo c2 k) 32) 24) ∧ wr.heap[w.heap.size]? = some (.cells (digA (fun _ => 0) 32) 24) ∧ Below w.heap.size w wr) (fun i _ => 32 - (intOf i).toNat)
  case atStart => exact ⟨0, by omega, rfl, hgCA, hgDA, hgRA, hBA⟩
  case round =>
    clear hgCA hgDA hgRA hBA
    obtain ⟨k, hk, rfl, hgC, hgD, hgR, hB⟩ := hrel
    by_cases hlt : k < 32
    · have h8 : k / 4 < 8 := by omega
      obtain ⟨x, X⟩ : ∃ x, Hid (x = c2 (k / 4)) := ⟨_, Lib.hid rfl⟩
      have hcc : wr.cell? ⟨gC, k / 4, none⟩ = some (.int .u32 (x.toNat : Int)) := by rw [cell_of_row _ _ _ _ _ _ hgC, wrow_get _ _ _ h8, X.out]
      have hcd : wr.cell? ⟨gD, k, none⟩ = some (.int .u8 (digTo c2 k k : Int)) := by rw [cell_of_row _ _ _ _ _ _ hgD, digA_get _ _ _ hlt]
      have hfd : wr.frozen? ⟨gD, k, none⟩ = false := frozen_of_row _ _ _ _ _ hgD
      obtain ⟨v, V⟩ : ∃ v, Hid (v = dig c2 k) := ⟨_, Lib.hid rfl⟩
      obtain ⟨wz, hwz, hgCz, hgDz, hgRz, hBz⟩ : ∃ wz, wz = wr.setCell ⟨gD, k, none⟩ (.int .u8 (v : Int)) ∧ wz.heap[gC]? = some (.cells (wrow c2 8) 98) ∧ wz.heap[gD]? = some (.cells (digA (digTo c2 (k + 1)) 32) 24) ∧ wz.heap[w.heap.size]? = some (.cells (digA (fun _ => 0) 32) 24) ∧ Below w.heap.size w wz := by
        have := GDR.out
        refine ⟨_, rfl, (heap_setCell_other wr _ _ _ (by show gC ≠ gD; omega)).trans hgC, ?_, (heap_setCell_other wr _ _ _ (by show w.heap.size ≠ gD; omega)).trans hgR, hB.setCell (by show w.heap.size ≤ gD; omega) _⟩
        rw [heap_setCell_same wr gD k _ _ _ hgD, V.out, dig_set]
      clear hgC hgD hgR hB
      have ev : (x.toNat : Int) / 2 ^ (24 - 8 * (k % 4)) % 256 = (v : Int) := by rw [V.out, dig, ← X.out, Int.natCast_emod, Int.natCast_ediv, Int.natCast_pow]; rfl
      go_wp2
      rw [← hwz]
      go_roundw
      case rel => exact ⟨k + 1, by omega, by go_num, hgCz, hgDz, hgRz, hBz⟩
      case measure => simp [intOf]; omega
    · obtain rfl : k = 32 := by omega
      rw [dig_all] at hgD
      have HC2 := Lib.hid (show dig c2 = sumB d n by rw [C2.out]; rfl)
      go_wp2_with (first | (refine wpList_load_row rfl 24 _ rfl gD rfl 24 _ (0, 0) _ hgD Tryz.underlying24 rfl (by rw [digA_size]; exact info32) ?_) | (refine wpList_store_row rfl 24 _ _ rfl w.heap.size (digA (dig c2) 32) rfl rfl 24 _ hgR (by rw [digA_size]; exact info32) (by rw [digA_size, digA_size]) (digA_ok _ _) ?_))
      refine bodyPost_ret (v := .agg (digA (dig c2) 32)) (results_cell_row Tryz.results37 _ _ w.heap.size 24 _ (0, 0) _ rfl (setRow_heap _ _ _ _ _ _ hgR) Tryz.underlying24 rfl (by rw [digA_size]; exact info32)) rfl ?_
      rw [HC2.out]
      exact ⟨rfl, below_setRow hB (Nat.le_refl _) _⟩
end Go.Proofs.YtbniilajffjfcaaGreatDoor.Sha

/- The contract of Hex. -/
namespace Go.Proofs.YtbniilajffjfcaaGreatDoor.Sha
open Go.RowKit

def hexD (x : Nat) : Nat := if x < 10 then x + 48 else x + 87
/-- A digest's digits. -/
def hexB (d : Nat → Nat) (i : Nat) : Nat := hexD (if i % 2 = 0 then d (i / 2) / 16 else d (i / 2) % 16)
theorem hexD_lt (x : Nat) (h : x < 16) : hexD x < 256 := by unfold hexD; split <;> omega
theorem hexB_lt (d : Nat → Nat) (hd : ∀ i, d i < 256) (i : Nat) : hexB d i < 256 := by
  have := hd (i / 2)
  unfold hexB
  split <;> exact hexD_lt _ (by omega)
def txt (d : Nat → Nat) (n : Nat) : List UInt8 := (List.range n).map fun i => UInt8.ofNat (d i)
theorem txt_len (d : Nat → Nat) (n : Nat) : (txt d n).length = n := by simp [txt]
theorem txt_cells (d : Nat → Nat) (n : Nat) (hd : ∀ i, d i < 256) : cells d n = (txt d n).map fun c => Value.int .u8 (c.toNat : Int) := by
  simp only [cells, txt, List.map_map]
  refine List.map_congr_left fun i _ => ?_
  have := hd i
  simp only [Function.comp, UInt8.toNat_ofNat']
  congr 2
  omega
def strOf (l : List UInt8) : ByteArray := ⟨l.toArray⟩
theorem strOf_size (l : List UInt8) : (strOf l).size = l.length := by simp [strOf, ByteArray.size]
def hexS (d : Nat → Nat) : ByteArray := strOf (txt (hexB d) 64)
theorem hex_two (d : Nat → Nat) (k : Nat) : cells (hexB d) (2 * k) ++ [Value.int .u8 (hexD (d k / 16) : Int), Value.int .u8 (hexD (d k % 16) : Int)] = cells (hexB d) (2 * k + 2) := by
  rw [show 2 * k + 2 = (2 * k + 1) + 1 from rfl, cells_succ, cells_succ, List.append_assoc]
  have e1 : hexB d (2 * k) = hexD (d k / 16) := by unfold hexB; rw [if_pos (by omega), show 2 * k / 2 = k from by omega]
  have e2 : hexB d (2 * k + 1) = hexD (d k % 16) := by unfold hexB; rw [if_neg (by omega), show (2 * k + 1) / 2 = k from by omega]
  rw [e1, e2]
  rfl
theorem and15 (c : Nat) (h : c < 256) : bits BinOp.and IntKind.u8 (c : Int) 15 = ((c % 16 : Nat) : Int) := by
  have e : ∀ c : Fin 256, bits BinOp.and IntKind.u8 (c.val : Int) 15 = ((c.val % 16 : Nat) : Int) := by decide +kernel
  exact e ⟨c, h⟩
theorem digit_idx (x : Nat) (h : x < (ByteArray.mk #[48, 49, 50, 51, 52, 53, 54, 55, 56, 57, 97, 98, 99, 100, 101, 102]).size) : ((ByteArray.mk #[48, 49, 50, 51, 52, 53, 54, 55, 56, 57, 97, 98, 99, 100, 101, 102])[x]).toNat = hexD x := by
  have e : ∀ v : Fin 16, ((ByteArray.mk #[48, 49, 50, 51, 52, 53, 54, 55, 56, 57, 97, 98, 99, 100, 101, 102])[v.val]'(v.isLt)).toNat = hexD v.val := by decide +kernel
  exact e ⟨x, h⟩
theorem convert_own {P : Program} {wr : World} {base : Nat} {E src dst : TypeId} {v : Value} {l : List UInt8} (hown : wr.ownsRow base E 1 v l.length (l.map fun c => Value.int .u8 (c.toNat : Int)))
    (hs : P.underlying src = some (.slice E)) (he : P.underlying E = some (.int .u8)) (hd : P.underlying dst = some .string) :
    (convert src dst v).run P wr = .ok (.string (strOf l)) wr := by
  obtain ⟨hl, ⟨rfl, h0⟩ | ⟨g, cap, cur, rfl, hg, hgg, hn, hcm, hcs, htk⟩⟩ := hown
  · have : l = [] := List.eq_nil_of_length_eq_zero h0
    subst this
    rw [run_convert_bytes_string wr src dst E none 0 0 hs he hd]
    simp [Conv.bytesToString, strOf]
    rfl
  · refine run_convert_bytes_back wr src dst E ⟨g, 0, none⟩ cap l hs he hd fun j hj => ?_
    have h1 : wr.cell? ((⟨g, 0, none⟩ : Addr).add j) = cur[j]? := by
      unfold Addr.add
      split
      · rename_i h; subst h; simp [World.cell?, hgg]
      · simp [World.cell?, hgg]
    have : (l.map fun c => Value.int .u8 (c.toNat : Int))[j]? = some (.int .u8 (l[j].toNat : Int)) := by simp [List.getElem?_eq_getElem hj]
    rw [← htk, List.getElem?_take_of_lt (by omega)] at this
    rw [h1]
    simpa using this

end Go.Proofs.YtbniilajffjfcaaGreatDoor.Sha

/- The digest of abc, and the contract of works. -/
namespace Go.Proofs.YtbniilajffjfcaaGreatDoor.Sha
open Go.RowKit

def abcD (i : Nat) : Nat := [97, 98, 99].getD i 0
set_option maxRecDepth 100000 in
theorem abc_list : txt (hexB (sumB abcD 3)) 64 = [98, 97, 55, 56, 49, 54, 98, 102, 56, 102, 48, 49, 99, 102, 101, 97, 52, 49, 52, 49, 52, 48, 100, 101, 53, 100, 97, 101, 50, 50, 50, 51, 98, 48, 48, 51, 54, 49, 97, 51, 57, 54, 49, 55, 55, 97, 57, 99, 98, 52, 49, 48, 102, 102, 54, 49, 102, 50, 48, 48, 49, 53, 97, 100] := by decide +kernel
theorem abc_hex : hexS (sumB abcD 3) = ⟨#[98, 97, 55, 56, 49, 54, 98, 102, 56, 102, 48, 49, 99, 102, 101, 97, 52, 49, 52, 49, 52, 48, 100, 101, 53, 100, 97, 101, 50, 50, 50, 51, 98, 48, 48, 51, 54, 49, 97, 51, 57, 54, 49, 55, 55, 97, 57, 99, 98, 52, 49, 48, 102, 102, 54, 49, 102, 50, 48, 48, 49, 53, 97, 100]⟩ := by rw [hexS, abc_list]; rfl
theorem abcD_lt (i : Nat) : abcD i < 256 := by
  match i with
  | 0 => decide
  | 1 => decide
  | 2 => decide
  | i + 3 => simp [abcD]
theorem dig_lt (c : Nat → UInt32) (i : Nat) : dig c i < 256 := Nat.mod_lt _ (by decide)

end Go.Proofs.YtbniilajffjfcaaGreatDoor.Sha
