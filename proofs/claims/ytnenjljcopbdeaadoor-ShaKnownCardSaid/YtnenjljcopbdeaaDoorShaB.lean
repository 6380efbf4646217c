/- Small laws on memory, and the contract of the words of a block. -/
import Derived.Test.YtnenjljcopbdeaaDoorShaA
import Derived.Laws.Tables
import Derived.Laws.Rows
import Derived.Deep.Cut
import Derived.OwnWalk
import Derived.WalkSmall
import Derived.Below
import Derived.ChangeKeysEq
namespace Go.Proofs.YtnenjljcopbdeaaDoor
open Go.RowKit

theorem cellsU8 : Tryd.prog.cellsOf 5 = 1 := by kernel_rfl
theorem cellsU32 : Tryd.prog.cellsOf 27 = 1 := by kernel_rfl
theorem infoU8 : (Tryd.prog.info? 5).map (fun i => (i.zero, i.size, i.bytes)) = some (some (.int .u8 0), 1, 1) := by kernel_rfl
theorem infoU32 : (Tryd.prog.info? 27).map (fun i => (i.zero, i.size, i.bytes)) = some (some (.int .u32 0), 1, 4) := by kernel_rfl
theorem info64 : (Tryd.prog.info? 29).map (·.size) = some 64 := by kernel_rfl
theorem info16w : (Tryd.prog.info? 44).map (·.size) = some 16 := by kernel_rfl
theorem info8w : (Tryd.prog.info? 28).map (·.size) = some 8 := by kernel_rfl
theorem info32 : (Tryd.prog.info? 33).map (·.size) = some 32 := by kernel_rfl

theorem run_index_row {P : Program} (w : World) (T e : TypeId) (n : Nat) (q : IntKind) (hT : P.underlying T = some (.array n e)) (he : P.underlying e = some (.int q)) (h1 : P.cellsOf e = 1) (cs : Array Value) (i : Nat) (v : Value) (hi : i < n) (hv : cs[i]? = some v) :
    (Instr.index T (.agg cs) (.int .i64 (i : Int))).run P w = .ok v w := by
  have hp : P.plainKey e = true := by simp [Program.plainKey, he]
  obtain ⟨i0, hi0⟩ := info_of_underlying he
  have hlt : (0 : Int) ≤ (i : Int) ∧ (i : Int) < (n : Int) := by omega
  simp only [Instr.index, asIntOf, Sem.run_bind, Sem.run_pure, Result.andThen_ok, run_underlying hT, if_pos hlt, run_sizeOf w hi0, h1, Nat.mul_one, Int.toNat_natCast]
  exact run_part_plain w hp hv

theorem row_ok (l : List Value) (h : ∀ v ∈ l, v.oneCell' = true) : l.toArray.all (·.oneCell') = true := by
  rw [Array.all_eq_true_iff_forall_mem]
  intro v hv
  exact h v (by simpa using hv)
theorem digA_ok (d : Nat → Nat) (n : Nat) : (digA d n).all (·.oneCell') = true := row_ok _ fun v hv => by
  simp [cells] at hv
  obtain ⟨i, _, rfl⟩ := hv
  rfl
theorem wrow_ok (c : Nat → UInt32) (n : Nat) : (wrow c n).all (·.oneCell') = true := row_ok _ fun v hv => by
  simp [wcells] at hv
  obtain ⟨i, _, rfl⟩ := hv
  rfl
theorem digA_congr (d e : Nat → Nat) (n : Nat) (h : ∀ i, i < n → d i = e i) : digA d n = digA e n := by
  unfold digA cells
  exact congrArg List.toArray (List.map_congr_left fun i hi => by rw [h i (by simpa using hi)])
theorem wrow_congr (d e : Nat → UInt32) (n : Nat) (h : ∀ i, i < n → d i = e i) : wrow d n = wrow e n := by
  unfold wrow wcells
  exact congrArg List.toArray (List.map_congr_left fun i hi => by rw [h i (by simpa using hi)])
theorem wrow_set (c e : Nat → UInt32) (n a : Nat) (h1 : ∀ i, i < n → i ≠ a → c i = e i) : (wrow c n).setIfInBounds a (.int .u32 ((e a).toNat : Int)) = wrow e n := by
  apply Array.ext
  · simp [wrow_size]
  · intro i h2 h3
    have hi : i < n := by simpa [wrow_size] using h3
    apply Option.some.inj
    rw [← Array.getElem?_eq_getElem, ← Array.getElem?_eq_getElem, Array.getElem?_setIfInBounds, wrow_get _ _ _ hi, wrow_get _ _ _ hi]
    by_cases h : a = i
    · subst h; simp [wrow_size, hi]
    · rw [if_neg h, h1 i hi (fun e => h e.symm)]
theorem digA_set (c e : Nat → Nat) (n a : Nat) (h1 : ∀ i, i < n → i ≠ a → c i = e i) : (digA c n).setIfInBounds a (.int .u8 (e a : Int)) = digA e n := by
  apply Array.ext
  · simp [digA_size]
  · intro i h2 h3
    have hi : i < n := by simpa [digA_size] using h3
    apply Option.some.inj
    rw [← Array.getElem?_eq_getElem, ← Array.getElem?_eq_getElem, Array.getElem?_setIfInBounds, digA_get _ _ _ hi, digA_get _ _ _ hi]
    by_cases h : a = i
    · subst h; simp [digA_size, hi]
    · rw [if_neg h, h1 i hi (fun e => h e.symm)]
theorem below_setRow {B g : Nat} {W w1 : World} (h : Below B W w1) (hg : B ≤ g) (cs : Array Value) : Below B W (w1.setRow g cs) := by
  refine ⟨h.os, h.tape, h.output, by simp; exact h.size, fun k hk => ?_⟩
  rw [setRow_other w1 g k cs (by omega)]
  exact h.block k hk
theorem below_step {B : Nat} {w w1 w2 : World} (h : Below B w w1) (h2 : Below w1.heap.size w1 w2) (hB : B ≤ w1.heap.size) : Below B w w2 := h.trans (h2.mono hB)
theorem below_drewN {B : Nat} {w w1 : World} (h : Below B w w1) (n : Nat) : Below B w (w1.drewN n) := by
  induction n with
  | zero => exact h
  | succ n ih => exact ih.drew
/-- Two, three new blocks. -/
theorem rows2 (w : World) (A B : Obj) : ∃ w1, w1 = (w.alloc A).alloc B ∧ w1.heap[w.heap.size]? = some A ∧ w1.heap[w.heap.size + 1]? = some B ∧ Below w.heap.size w w1 ∧ w1.heap.size = w.heap.size + 2 :=
  ⟨_, rfl, heap_alloc2_old w A B, heap_alloc2_new w A B, ((Below.refl _ _).alloc (Nat.le_refl _) _).alloc (by simp) _, by simp⟩
theorem old_block (w : World) (o : Obj) (i : Nat) (h : i < w.heap.size) : (w.alloc o).heap[i]? = w.heap[i]? := by
  show (w.heap.push o)[i]? = w.heap[i]?
  rw [Array.getElem?_push, if_neg (Nat.ne_of_lt h)]
theorem rows3 (w : World) (A B C : Obj) : ∃ w1, w1 = ((w.alloc A).alloc B).alloc C ∧ w1.heap[w.heap.size]? = some A ∧ w1.heap[w.heap.size + 1]? = some B ∧ w1.heap[w.heap.size + 2]? = some C ∧ Below w.heap.size w w1 ∧ w1.heap.size = w.heap.size + 3 := by
  obtain ⟨w1, e, h1, h2, hb, hz⟩ := rows2 w A B
  rw [← e]
  refine ⟨_, rfl, (old_block _ _ _ (by omega)).trans h1, (old_block _ _ _ (by omega)).trans h2, ?_, hb.alloc (by omega) _, by simp [hz]⟩
  have := heap_alloc_new w1 C
  rwa [hz] at this
theorem zeros16 : #[Value.int IntKind.u32 0, Value.int IntKind.u32 0, Value.int IntKind.u32 0, Value.int IntKind.u32 0, Value.int IntKind.u32 0, Value.int IntKind.u32 0, Value.int IntKind.u32 0, Value.int IntKind.u32 0, Value.int IntKind.u32 0, Value.int IntKind.u32 0, Value.int IntKind.u32 0, Value.int IntKind.u32 0, Value.int IntKind.u32 0, Value.int IntKind.u32 0, Value.int IntKind.u32 0, Value.int IntKind.u32 0] = wrow (fun _ => 0) 16 := rfl
theorem byte_or (x : UInt32) (c : Nat) (hc : c < 256) : bits BinOp.or IntKind.u32 ((x.toNat : Int) * 256 % 4294967296) (c : Int) = ((shl x 8 ||| UInt32.ofNat c).toNat : Int) := by
  have e : (c : Int) = ((UInt32.ofNat c).toNat : Int) := by rw [UInt32.toNat_ofNat', Nat.mod_eq_of_lt (by omega)]
  rw [show ((x.toNat : Int) * 256) = (x.toNat : Int) * 2 ^ 8 from rfl, shl_mod, e, u_or]

set_option maxHeartbeats 400000 in
theorem words_any (B : Nat → Nat) (hB : ∀ i, B i < 256) (w : World) :
    Calls Tryd.prog 23 #[.agg (digA B 64)] w fun e w' => e = .returned (.agg (wrow (word B) 16)) ∧ Below w.heap.size w w' := by
  have HB := Lib.hid hB
  clear hB
  go_enter Tryd.func23, Tryd.ntmps23
  go_upto_region 2 with (fail)
  rw [zeros16]
  obtain ⟨w1, hw1, hgB, hgR, hgW, hb, hsz⟩ := rows3 w (.cells (digA B 64) 29) (.cells (wrow (fun _ => 0) 16) 44) (.cells (wrow (fun _ => 0) 16) 44)
  rw [← hw1]
  clear hw1
  go_wp2_with (refine wpList_load_row rfl 29 _ rfl w.heap.size rfl 29 _ (0, 0) _ hgB Tryd.underlying29 rfl (by rw [digA_size]; exact info64) ?_)
  have HSZ := Lib.hid hsz
  rw [← pw_zero B] at hgR hgW
  clear hsz hgB
  go_loopw [7] (fun i wr => ∃ k : Nat, k ≤ 64 ∧ i = .int .i64 k ∧ wr.heap[w.heap.size + 1]? = some (.cells (wrow (pw B 0) 16) 44) ∧ wr.heap[w.heap.size + 2]? = some (.cells (wrow (pw B k) 16) 44) ∧ Below w.heap.size w wr) (fun i _ => 64 - (intOf i).toNat)
  case atStart => exact ⟨0, by omega, rfl, hgR, hgW, hb⟩
  case round =>
    clear hgR hgW hb
    obtain ⟨k, hk, rfl, hgR, hgW, hb⟩ := hrel
    by_cases hlt : k < 64
    · have hi := fun w => run_index_row w _ _ _ _ Tryd.underlying29 Tryd.underlying5 cellsU8 (digA B 64) k _ hlt (digA_get B 64 k hlt)
      have hd : k / 4 < 16 := by omega
      have hcell : wr.cell? ⟨w.heap.size + 2, k / 4, none⟩ = some (.int .u32 ((pw B k (k / 4)).toNat : Int)) := by
        rw [cell_of_row _ _ _ _ _ _ hgW, wrow_get _ _ _ hd]
      have hfr : wr.frozen? ⟨w.heap.size + 2, k / 4, none⟩ = false := frozen_of_row _ _ _ _ _ hgW
      have hbk := HB.out k
      have eo := byte_or (pw B k (k / 4)) (B k) hbk
      rw [pw_step B HB.out k] at eo
      have hgR' := (heap_setCell_other wr ⟨w.heap.size + 2, k / 4, none⟩ (w.heap.size + 1) (.int .u32 ((pw B (k + 1) (k / 4)).toNat : Int)) (by simp)).trans hgR
      have hgW' := heap_setCell_same wr (w.heap.size + 2) (k / 4) _ _ (.int .u32 ((pw B (k + 1) (k / 4)).toNat : Int)) hgW
      rw [wrow_set (pw B k) (pw B (k + 1)) 16 (k / 4) fun i _ h => (pw_other B k i h).symm] at hgW'
      have hb' := hb.setCell (p := ⟨w.heap.size + 2, k / 4, none⟩) (by simp) (.int .u32 ((pw B (k + 1) (k / 4)).toNat : Int))
      go_wp2
      go_roundw
      case rel => exact ⟨k + 1, by omega, by go_num, hgR', hgW', hb'⟩
      case measure => simp [intOf]; omega
    · obtain rfl : k = 64 := by omega
      have hall := wrow_congr (pw B 64) (word B) 16 (pw_all B)
      rw [hall] at hgW
      clear hall
      go_wp2_with (first | (refine wpList_load_row rfl 44 _ rfl (w.heap.size + 2) rfl 44 _ (0, 0) _ hgW Tryd.underlying44 rfl (by rw [wrow_size]; exact info16w) ?_) | (refine wpList_store_row rfl 44 _ _ rfl (w.heap.size + 1) (wrow (word B) 16) rfl rfl 44 _ hgR (by rw [wrow_size]; exact info16w) (by rw [wrow_size, wrow_size]) (wrow_ok _ _) ?_))
      refine bodyPost_ret (v := .agg (wrow (word B) 16)) (results_cell_row Tryd.results23 _ _ (w.heap.size + 1) 44 _ (0, 0) _ rfl (setRow_heap _ _ _ _ _ _ hgR) Tryd.underlying44 rfl (by rw [wrow_size]; exact info16w)) rfl ?_
      exact ⟨rfl, below_setRow hb (by omega) _⟩
end Go.Proofs.YtnenjljcopbdeaaDoor
