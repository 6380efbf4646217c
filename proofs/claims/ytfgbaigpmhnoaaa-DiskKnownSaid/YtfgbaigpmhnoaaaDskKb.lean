/- disk: what DiskKnown's calls leave. -/
import Derived.Test.YtfgbaigpmhnoaaaDskKa
set_option linter.unusedVariables false
set_option linter.unusedSimpArgs false
namespace Go.Proofs.Ytfgbaigpmhnoaaa
open Go.RowKit Go.BigFrame Go.Maps
open Dsk (Fl St Ok get put drop used)

def nB : ByteArray := ⟨#[98]⟩
def kS1 : St := appendS exS0 nA [1]
def kS2 : St := { kS1 with off := true, armed := none }
def kS3 : St := syncS kS2 nA
def kS4 : St := onS kS3 []
def kS5 : St := appendS kS4 nA [1, 2]
def kS6 : St := { kS5 with armed := armOf 0 }
def kS7 : St := appendS kS6 nA [3]
def kS8 : St := onS kS7 [6]
def kS9 : St := appendS kS8 nB [2]
def kS10 : St := renameS kS9 nA nB
theorem kS_codes : appendC exS0 nA [1] = 0 ∧ syncC kS2 nA = 40 ∧ (Dsk.names kS4.fs).length = 0 ∧ appendC kS6 nA [3] = 40 ∧ readC kS8 nA = 0 ∧ readB kS8 nA = [1, 2] ∧ renameC kS9 nA nB = 0 ∧ readC kS10 nB = 0 ∧ readB kS10 nB = [1, 2] ∧ (Dsk.names kS10.fs).length = 1 ∧ used kS10.fs = 2 :=
  ⟨by kernel_rfl, by kernel_rfl, by kernel_rfl, by kernel_rfl, by kernel_rfl, by kernel_rfl, by kernel_rfl, by kernel_rfl, by kernel_rfl, by kernel_rfl, by kernel_rfl⟩
theorem kS_low : (exS0.steps < 1000000000 ∧ used exS0.fs + 1 ≤ 1000000000000) ∧ kS2.steps < 1000000000 ∧ (kS4.steps < 1000000000 ∧ used kS4.fs + 2 ≤ 1000000000000) ∧ (kS6.steps < 1000000000 ∧ used kS6.fs + 1 ≤ 1000000000000) ∧ (kS8.steps < 1000000000 ∧ used kS8.fs + 1 ≤ 1000000000000) ∧ kS9.steps < 1000000000 := by
  refine ⟨⟨?_, ?_⟩, ?_, ⟨?_, ?_⟩, ⟨?_, ?_⟩, ⟨?_, ?_⟩, ?_⟩ <;> exact of_decide_eq_true (by kernel_rfl)
/-- What comes out of a large row. -/
theorem refC_nA {S : St} (h : S.off = false) : refC S [nA] = 0 := by
  unfold refC
  rw [if_neg (by rw [h]; simp)]
  rfl
theorem big_limit (q : Int) (L : List Nat) (h : 8388608 < L.length) : appendC ⟨q, [], 0, none, false⟩ nA L = 3 ∧ appendS ⟨q, [], 0, none, false⟩ nA L = ⟨q, [], 0, none, false⟩ := by
  have hr : refC ⟨q, [], 0, none, false⟩ [nA] = 0 := refC_nA rfl
  have hl : 8388608 < (getF ([] : Dsk.FS) nA).b.length + L.length := by show 8388608 < 0 + _; omega
  unfold appendC appendS
  rw [if_neg (by simp [hr]), if_pos hl, if_neg (by simp [hr]), if_pos hl]
  exact ⟨rfl, rfl⟩
theorem big_yes (q : Int) (L : List Nat) (h : L.length = 8388608) (hq : 8388608 ≤ q) : appendC ⟨q, [], 0, none, false⟩ nA L = 0 ∧ appendS ⟨q, [], 0, none, false⟩ nA L = ⟨q, [(nA, ⟨L, 0, false⟩)], 1, none, false⟩ := by
  have hr : refC ⟨q, [], 0, none, false⟩ [nA] = 0 := refC_nA rfl
  have hl : ¬ 8388608 < (getF ([] : Dsk.FS) nA).b.length + L.length := by show ¬ 8388608 < 0 + _; omega
  have hf : ¬ q < (used ([] : Dsk.FS) : Int) + (L.length : Int) := by show ¬ q < (0 : Int) + _; omega
  unfold appendC appendS
  rw [if_neg (by simp [hr]), if_neg hl, if_neg hf, if_neg (by simp [hr]), if_neg hl, if_neg hf]
  exact ⟨rfl, rfl⟩
theorem big_more (q : Int) (L : List Nat) (h : L.length = 8388608) : appendC ⟨q, [(nA, ⟨L, 0, false⟩)], 1, none, false⟩ nA [1] = 3 ∧ appendS ⟨q, [(nA, ⟨L, 0, false⟩)], 1, none, false⟩ nA [1] = ⟨q, [(nA, ⟨L, 0, false⟩)], 1, none, false⟩ := by
  have hr : refC ⟨q, [(nA, ⟨L, 0, false⟩)], 1, none, false⟩ [nA] = 0 := refC_nA rfl
  have hg : getF [(nA, (⟨L, 0, false⟩ : Fl))] nA = ⟨L, 0, false⟩ := by unfold getF Dsk.get; rw [if_pos rfl]; rfl
  have hl : 8388608 < (getF [(nA, (⟨L, 0, false⟩ : Fl))] nA).b.length + [1].length := by rw [hg]; show 8388608 < L.length + 1; omega
  unfold appendC appendS
  rw [if_neg (by simp [hr]), if_pos hl, if_neg (by simp [hr]), if_pos hl]
  exact ⟨rfl, rfl⟩
theorem big_none (q : Int) (L : List Nat) (h : L.length = 8388608) (hq : 8388608 ≤ q) : appendC ⟨q, [(nA, ⟨L, 0, false⟩)], 1, none, false⟩ nA [] = 0 := by
  have hr : refC ⟨q, [(nA, ⟨L, 0, false⟩)], 1, none, false⟩ [nA] = 0 := refC_nA rfl
  have hg : getF [(nA, (⟨L, 0, false⟩ : Fl))] nA = ⟨L, 0, false⟩ := by unfold getF Dsk.get; rw [if_pos rfl]; rfl
  have hl : ¬ 8388608 < (getF [(nA, (⟨L, 0, false⟩ : Fl))] nA).b.length + ([] : List Nat).length := by rw [hg]; show ¬ 8388608 < L.length + 0; omega
  have hf : ¬ q < (used [(nA, (⟨L, 0, false⟩ : Fl))] : Int) + (([] : List Nat).length : Int) := by show ¬ q < ((L.length + 0 : Nat) : Int) + 0; omega
  unfold appendC
  rw [if_neg (by simp [hr]), if_neg hl, if_neg hf]
  rfl
theorem low_codes : appendC ⟨0, [], 0, none, false⟩ nA [1] = 41 ∧ appendC ⟨0, [], 0, none, false⟩ nA [] = 0 := ⟨by kernel_rfl, by kernel_rfl⟩
/-- A row of zeros, from a place on. -/
def zer (n : Nat) : List Nat := List.replicate n 0
theorem zer_len (n : Nat) : (zer n).length = n := by simp [zer]
theorem zer_low (n : Nat) : ∀ x ∈ zer n, x < 256 := by intro x hx; simp [zer] at hx; omega
theorem zer_get (n i : Nat) : (zer n).getD i 0 = 0 := by
  unfold zer
  by_cases h : i < n
  · simp [List.getD, h]
  · simp [List.getD, h]
theorem zer_holds (w : World) (g n m o : Nat) (T : TypeId) (hg : w.heap[g]? = some (.cells (madeCells #[.int .u8 0] n) T (0, 0))) (h : o + m ≤ n) : Holds w w.heap.size (some ⟨g, o, none⟩) m (fun i => (zer m).getD i 0) := fun _ => by
  refine ⟨_, rfl, block_lt hg, fun j hj => ?_⟩
  have e : (⟨g, o, none⟩ : Addr).add j = ⟨g, o + j, none⟩ := by unfold Addr.add; by_cases h0 : j = 0 <;> simp [h0]
  rw [e, blk_cell hg, made_zero, digA_get _ _ _ (by omega)]
  dsimp only
  rw [zer_get]
end Go.Proofs.Ytfgbaigpmhnoaaa
