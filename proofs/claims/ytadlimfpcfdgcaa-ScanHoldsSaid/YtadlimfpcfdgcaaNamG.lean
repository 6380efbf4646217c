/- Contract of naming's Bytes. -/
import Derived.Test.YtadlimfpcfdgcaaNamF
import Derived.Test.YtadlimfpcfdgcaaNamQ
import Derived.Laws.Tables
import Derived.Laws.Rows
import Derived.Deep.Cut
set_option linter.unusedVariables false
set_option linter.unusedSimpArgs false
namespace Go.Proofs.Ytadlimfpcfdgcaa.Nam
open Go.RowKit

def letV (s : ByteArray) (i : Nat) : Nat := (valI (s.data.toList.getD i 0)).toNat
theorem letV_lt (s : ByteArray) (i : Nat) : letV s i < 32 := by have := valI_lt (s.data.toList.getD i 0); unfold letV; omega
def okL (s : ByteArray) : Bool := decide (s.size = 32) && s.data.toList.all (fun c => decide (0 ≤ valI c))
def outD (s : ByteArray) : Nat → Nat := if okL s then byteNo (numL (letV s) 32) else fun _ => 0
theorem getD_of (s : ByteArray) (k : Nat) (h : k < s.size) : s.data.toList.getD k 0 = s[k] := by
  simp [List.getD, h]
  rfl
theorem okL_no (s : ByteArray) (k : Nat) (hk : k < s.size) (h : valI s[k] < 0) : okL s = false := by
  have : s.data.toList.all (fun c => decide (0 ≤ valI c)) = false := by
    rw [List.all_eq_false]
    exact ⟨s[k], List.getElem_mem (l := s.data.toList) (by simpa using hk), by simp; omega⟩
  simp [okL, this]
theorem okL_len (s : ByteArray) (h : s.size ≠ 32) : okL s = false := by simp [okL, h]
theorem okL_yes (s : ByteArray) (h : s.size = 32) (ha : ∀ j (hj : j < s.size), 0 ≤ valI s[j]) : okL s = true := by
  have : s.data.toList.all (fun c => decide (0 ≤ valI c)) = true := by
    rw [List.all_eq_true]
    intro c hc
    obtain ⟨j, hj, rfl⟩ := List.getElem_of_mem hc
    exact decide_eq_true (ha j (by simpa using hj))
  simp [okL, h, this]
theorem outD_no (s : ByteArray) (h : okL s = false) : outD s = fun _ => 0 := by simp [outD, h]
theorem outD_yes (s : ByteArray) (h : okL s = true) : outD s = byteNo (numL (letV s) 32) := by simp [outD, h]

theorem info20 : (Try.prog.info? 53).map (·.size) = some 20 := by kernel_rfl
theorem digA_ok (d : Nat → Nat) (n : Nat) : (digA d n).all (·.oneCell') = true := by
  rw [Array.all_eq_true_iff_forall_mem]
  intro v hv
  simp [digA, cells] at hv
  obtain ⟨i, _, rfl⟩ := hv
  rfl
def upTo (f : Nat → Nat) (a i : Nat) : Nat := if i < a then f i else 0
theorem digA_set (f : Nat → Nat) (a : Nat) (_ha : a < 20) : (digA (upTo f a) 20).setIfInBounds a (.int .u8 (f a : Int)) = digA (upTo f (a + 1)) 20 := by
  apply Array.ext
  · simp [digA_size]
  · intro i h1 h2
    have hi : i < 20 := by simpa [digA_size] using h2
    have e : ∀ a, (digA (upTo f a) 20)[i]? = some (.int .u8 (upTo f a i : Int)) := fun a => digA_get _ _ _ hi
    apply Option.some.inj
    rw [← Array.getElem?_eq_getElem, ← Array.getElem?_eq_getElem, Array.getElem?_setIfInBounds, e, e]
    by_cases h : a = i
    · subst h; simp [digA_size, hi, upTo]
    · rw [if_neg h]
      congr 3
      unfold upTo
      split <;> split <;> first | rfl | omega
theorem upTo_zero (f : Nat → Nat) : upTo f 0 = fun _ => 0 := by funext i; simp [upTo]
theorem upTo_all (f : Nat → Nat) : digA (upTo f 20) 20 = digA f 20 := by
  unfold digA cells
  refine congrArg List.toArray (List.map_congr_left fun i hi => ?_)
  simp at hi
  simp [upTo, hi]
theorem zeros_eq : #[Value.int IntKind.u8 0, Value.int IntKind.u8 0, Value.int IntKind.u8 0, Value.int IntKind.u8 0, Value.int IntKind.u8 0, Value.int IntKind.u8 0, Value.int IntKind.u8 0, Value.int IntKind.u8 0, Value.int IntKind.u8 0, Value.int IntKind.u8 0, Value.int IntKind.u8 0, Value.int IntKind.u8 0, Value.int IntKind.u8 0, Value.int IntKind.u8 0, Value.int IntKind.u8 0, Value.int IntKind.u8 0, Value.int IntKind.u8 0, Value.int IntKind.u8 0, Value.int IntKind.u8 0, Value.int IntKind.u8 0] = digA (fun _ => 0) 20 := by
  rfl
theorem rows2 (w : World) (A B : Obj) : ((w.alloc A).alloc B).heap[w.heap.size]? = some A ∧ ((w.alloc A).alloc B).heap[w.heap.size + 1]? = some B := by
  have h1 : (w.alloc A).heap.size = w.heap.size + 1 := World.size_alloc _ _
  exact ⟨heap_alloc2_old w A B, heap_alloc2_new w A B⟩
theorem below_setRow {B g : Nat} {W w1 : World} (h : Below B W w1) (hg : B ≤ g) (cs : Array Value) : Below B W (w1.setRow g cs) := by
  refine ⟨h.os, h.tape, h.output, by simp; exact h.size, fun k hk => ?_⟩
  rw [setRow_other w1 g k cs (by omega)]
  exact h.block k hk

theorem rows_start (w : World) (Z : Obj) : ∃ w1, w1 = (w.alloc Z).alloc Z ∧ w1.heap[w.heap.size]? = some Z ∧ w1.heap[w.heap.size + 1]? = some Z ∧ Below w.heap.size w w1 ∧ w1.heap.size = w.heap.size + 2 :=
  ⟨_, rfl, (rows2 w Z Z).1, (rows2 w Z Z).2, ((Below.refl _ _).alloc (Nat.le_refl _) _).alloc (by simp) _, by simp⟩

theorem results_cell_tmp {P : Program} {fn : Func} {p q : Tmp} {ty : TypeId} (h : fn.results = #[.cell p ty, .tmp q]) (tmps : Array Value) (w : World) (g : Nat) (t : TypeId) (cs : Array Value) (fr : Nat × Nat) (d : TypeDesc) (v : Value)
    (hp : tmps.getD p undef = .pointer (some ⟨g, 0, none⟩)) (hq : tmps.getD q undef = v) (hg : w.heap[g]? = some (.cells cs t fr))
    (hu : P.underlying ty = some d) (hd : (match d with | .struct _ | .array _ _ => true | _ => false) = true) (hi : (P.info? ty).map (·.size) = some cs.size) :
    (results fn tmps).run P w = .ok (.tuple #[.agg cs, v]) w := by
  have hp' : tmps[p]?.getD undef = .pointer (some ⟨g, 0, none⟩) := by simpa using hp
  have hq' : tmps[q]?.getD undef = v := by simpa using hq
  simp [results, h, hp', hq', asAddr, run_loadVar_row w g t ty cs fr d hg hu hd hi]

theorem index_no (c : UInt8) (w : World) (h : valI c < 0) :
    Calls Try.prog 51 #[.string ⟨#[48, 49, 50, 51, 52, 53, 54, 55, 56, 57, 97, 98, 99, 100, 102, 103, 104, 105, 106, 107, 108, 109, 110, 112, 113, 114, 115, 118, 119, 120, 121, 122]⟩, .int .u8 (c.toNat : Int)] w fun e w' => e = .returned (.int .i64 (-1)) ∧ w = w' := by
  refine (Try.strings_IndexByte _ _ w).mono ?_
  rintro e w' ⟨rfl, rfl⟩
  refine ⟨ret_int ?_, rfl⟩
  have := valI_lt c
  have e : ((c.toNat : Int).toNat).toUInt8 = c := by simp
  rw [e]
  show valI c = -1
  omega
theorem index_yes (c : UInt8) (x : Nat) (w : World) (h : valI c = (x : Int)) :
    Calls Try.prog 51 #[.string ⟨#[48, 49, 50, 51, 52, 53, 54, 55, 56, 57, 97, 98, 99, 100, 102, 103, 104, 105, 106, 107, 108, 109, 110, 112, 113, 114, 115, 118, 119, 120, 121, 122]⟩, .int .u8 (c.toNat : Int)] w fun e w' => e = .returned (.int .i64 (x : Int)) ∧ w = w' := by
  refine (Try.strings_IndexByte _ _ w).mono ?_
  rintro e w' ⟨rfl, rfl⟩
  refine ⟨ret_int ?_, rfl⟩
  have e : ((c.toNat : Int).toNat).toUInt8 = c := by simp
  rw [e]
  exact h
theorem or_let (a c : Nat) (hc : c < 32) : bits BinOp.or IntKind.u64 (IntKind.u64.wrap ((mod64 a : Int) * 32)) (c : Int) = (mod64 (a * 32 + c) : Int) := by
  have e1 : ((mod64 a : Int) * 32) = ((mod64 a * 32 : Nat) : Int) := by omega
  have h2 : mod64 (mod64 a * 32) % 2 ^ 5 = 0 := by unfold mod64; omega
  rw [e1, wrap_u64_nat, u64_or_nat _ _ (mod64_lt _) (by omega), nat_join 5 _ _ h2 (by omega)]
  unfold mod64
  omega
theorem letV_of (s : ByteArray) (k : Nat) (hk : k < s.size) (h : 0 ≤ valI s[k]) : valI s[k] = (letV s k : Int) := by
  unfold letV
  rw [getD_of s k hk]
  omega

set_option maxRecDepth 100000 in
set_option maxHeartbeats 400000 in
theorem bytes_any (s : ByteArray) (w : World) (hs : s.size ≤ maxLen) :
    Calls Try.prog 43 #[.string s] w fun e w' => e = .returned (.tuple #[.agg (digA (outD s) 20), .bool (okL s)]) ∧ Below w.heap.size w w' := by
  unfold maxLen at hs
  go_enter Try.func43, Try.ntmps43
  go_upto_region 2 with (fail)
  rw [zeros_eq]
  obtain ⟨w1, hw1, hgR, hgB, hb, hsz⟩ := rows_start w (.cells (digA (fun _ => 0) 20) 53)
  rw [← hw1]
  clear hw1
  by_cases h32 : s.size = 32
  · have H32 := Lib.hid h32
    have hs32 : s.size ≤ 32 := by omega
    have hs32' : 32 ≤ s.size := by omega
    have hbn : ((s.size : Int) != 32) = false := by rw [h32]; rfl
    clear h32
    have HSZ := Lib.hid hsz
    clear hsz
    go_wp2
    go_loopw [5, 6, 7, 16] (fun b n a i wr => ∃ k j m : Nat, k ≤ 32 ∧ m < 8 ∧ Hid (m + 8 * j = 5 * k) ∧ i = .int .i64 k ∧ n = .int .i64 m ∧ a = .int .i64 j ∧ b = .int .u64 (mod64 (numL (letV s) k) : Int) ∧ Hid (∀ x, ∀ h : x < s.size, x < k → 0 ≤ valI s[x]) ∧
        wr.heap[w.heap.size]? = some (.cells (digA (fun _ => 0) 20) 53) ∧ wr.heap[w.heap.size + 1]? = some (.cells (digA (upTo (byteNo (numL (letV s) 32)) j) 20) 53) ∧ Below w.heap.size w wr) (fun _ _ _ i _ => 32 - (intOf i).toNat)
    case atStart => exact ⟨0, 0, 0, by omega, by omega, Lib.hid (by omega), rfl, rfl, rfl, rfl, Lib.hid (fun x _ h => absurd h (Nat.not_lt_zero x)), hgR, by rw [upTo_zero]; exact hgB, hb⟩
    case round =>
      clear hgR hgB hb
      obtain ⟨k, j, m, hk, hm, HM, rfl, rfl, rfl, rfl, HA, hgR, hgB, hb⟩ := hrel
      by_cases hlt : k < 32
      · have hks : k < s.size := by omega
        by_cases hv : valI s[k] < 0
        · have HV := Lib.hid hv
          have HO := Lib.hid (okL_no s k hks hv)
          clear hv
          go_wp2_with (first | (go_at_call 51; refine (index_no _ _ HV.out).mono ?_; rintro e w' ⟨rfl, rfl⟩) | (refine wpList_store_row rfl 53 _ _ rfl w.heap.size (digA (fun _ => 0) 20) rfl rfl 53 _ hgR info20 rfl (digA_ok _ _) ?_))
          refine bodyPost_ret (v := .tuple #[.agg (digA (fun _ => 0) 20), .bool false]) (results_cell_tmp Try.results43 _ _ w.heap.size 53 _ (0, 0) _ _ rfl rfl (setRow_heap _ _ _ _ _ _ hgR) Try.underlying53 rfl info20) rfl ?_
          refine ⟨by rw [HO.out, outD_no s HO.out], below_setRow hb (Nat.le_refl _) _⟩
        · have HV := Lib.hid (letV_of s k hks (by omega))
          have hx := letV_lt s k
          clear hv
          have eo := or_let (numL (letV s) k) (letV s k) hx
          rw [show numL (letV s) k * 32 + letV s k = numL (letV s) (k + 1) from rfl] at eo
          have HA' : Hid (∀ x, ∀ h : x < s.size, x < k + 1 → 0 ≤ valI s[x]) := Lib.hid fun x h hx' => by
            rcases Nat.lt_or_ge x k with h1 | h1
            · exact HA.out x h h1
            · obtain rfl : x = k := by omega
              rw [HV.out]; omega
          by_cases h8 : 8 ≤ m + 5
          · obtain ⟨q, rfl⟩ : ∃ q, m = q + 3 := ⟨m - 3, by omega⟩
            have hj : j < 20 := by have := HM.out; omega
            have hcell : wr.cell? ⟨w.heap.size + 1, j, none⟩ = some (.int .u8 0) := by
              rw [cell_of_row _ _ _ _ _ _ hgB, digA_get _ _ _ hj]; simp [upTo]
            have hfr : wr.frozen? ⟨w.heap.size + 1, j, none⟩ = false := frozen_of_row _ _ _ _ _ hgB
            have hgR' := (heap_setCell_other wr ⟨w.heap.size + 1, j, none⟩ w.heap.size (.int .u8 (byteNo (numL (letV s) 32) j : Int)) (by simp)).trans hgR
            have hgB' := heap_setCell_same wr (w.heap.size + 1) j _ _ (.int .u8 (byteNo (numL (letV s) 32) j : Int)) hgB
            rw [digA_set _ _ hj] at hgB'
            have hb' := hb.setCell (p := ⟨w.heap.size + 1, j, none⟩) (by simp) (.int .u8 (byteNo (numL (letV s) 32) j : Int))
            have ew : IntKind.u8.wrap ((mod64 (numL (letV s) (k + 1)) : Int) / 2 ^ q) = (byteNo (numL (letV s) 32) j : Int) := by
              rw [cast_div, IntKind.wrap_u8, ← byte_of (letV s) (letV_lt s) (k + 1) j q (by omega) (by have := HM.out; omega) (by omega)]
              exact (Int.natCast_emod _ _).symm
            go_wp2_with (first | (go_at_call 51; refine (index_yes _ _ _ HV.out).mono ?_; rintro e w' ⟨rfl, rfl⟩))
            go_roundw
            case rel => exact ⟨k + 1, j + 1, q, by omega, by omega, Lib.hid (by have := HM.out; omega), by go_num, by go_num, by go_num, rfl, HA', hgR', hgB', hb'⟩
            case measure => simp [intOf]; omega
          · go_wp2_with (first | (go_at_call 51; refine (index_yes _ _ _ HV.out).mono ?_; rintro e w' ⟨rfl, rfl⟩))
            go_roundw
            case rel => exact ⟨k + 1, j, m + 5, by omega, by omega, Lib.hid (by have := HM.out; omega), by go_num, by go_num, rfl, rfl, HA', hgR, hgB, hb⟩
            case measure => simp [intOf]; omega
      · have HK := Lib.hid (show k = 32 by omega)
        have HJ := Lib.hid (show j = 20 by have := HM.out; omega)
        have HO := Lib.hid (okL_yes s H32.out fun x h => HA.out x h (by omega))
        go_wp2_with (first | (refine wpList_load_row rfl 53 _ rfl (w.heap.size + 1) rfl 53 _ (0, 0) _ hgB Try.underlying53 rfl (by rw [digA_size]; exact info20) ?_) | (refine wpList_store_row rfl 53 _ _ rfl w.heap.size _ rfl rfl 53 _ hgR (by rw [digA_size]; exact info20) (by rw [digA_size, digA_size]) (digA_ok _ _) ?_))
        refine bodyPost_ret (v := .tuple #[.agg (digA (upTo (byteNo (numL (letV s) 32)) j) 20), .bool true]) (results_cell_tmp Try.results43 _ _ w.heap.size 53 _ (0, 0) _ _ rfl rfl (setRow_heap _ _ _ _ _ _ hgR) Try.underlying53 rfl (by rw [digA_size]; exact info20)) rfl ?_
        refine ⟨by rw [HO.out, outD_yes s HO.out, HJ.out, upTo_all], below_setRow hb (Nat.le_refl _) _⟩
  · have hbn : ((s.size : Int) != 32) = true := by rw [bne_iff_ne]; omega
    have HO := Lib.hid (okL_len s h32)
    clear h32
    go_wp2_with (first | (refine wpList_load_row rfl 53 _ rfl (w.heap.size + 1) rfl 53 _ (0, 0) _ hgB Try.underlying53 rfl info20 ?_) | (refine wpList_store_row rfl 53 _ _ rfl w.heap.size (digA (fun _ => 0) 20) rfl rfl 53 _ hgR info20 rfl (digA_ok _ _) ?_))
    refine bodyPost_ret (v := .tuple #[.agg (digA (fun _ => 0) 20), .bool false]) (results_cell_tmp Try.results43 _ _ w.heap.size 53 _ (0, 0) _ _ rfl rfl (setRow_heap _ _ _ _ _ _ hgR) Try.underlying53 rfl info20) rfl ?_
    refine ⟨by rw [HO.out, outD_no s HO.out], below_setRow hb (Nat.le_refl _) _⟩
end Go.Proofs.Ytadlimfpcfdgcaa.Nam
