/- The contract of the reference's Take. -/
import Derived.Test.YtohojfgceaajfaaFldN
namespace Go.Proofs.Ytohojfgceaajfaa
open Go.RowKit

/-- The reference's reader in block g, over bytes that lie below block B. -/
def Rm (w : World) (g B n : Nat) (d : Nat → Nat) (bad : Bool) : Prop :=
  ∃ A cap, w.heap[g]? = some (.cells #[.slice A n cap, .bool bad] 39 (0, 0)) ∧ Holds w B A n d ∧ n ≤ cap ∧ cap ≤ maxLen ∧ (A = none → cap = 0)
theorem Rm.lt {w : World} {g B n : Nat} {d : Nat → Nat} {bad : Bool} (h : Rm w g B n d bad) : g < w.heap.size := by
  obtain ⟨A, cap, h0, _⟩ := h; exact block_lt h0
theorem Rm.below {w w' : World} {g B n : Nat} {d : Nat → Nat} {bad : Bool} (h : Rm w g B n d bad) (hB : B ≤ g) (hb : Below w.heap.size w w') : Rm w' g B n d bad := by
  obtain ⟨A, cap, h0, h1, h2⟩ := h
  have := block_lt h0
  exact ⟨A, cap, (hb.block g this).trans h0, h1.below (hb.mono (by omega)), h2⟩
theorem Rm.kept {w w' : World} {g B n g' : Nat} {d : Nat → Nat} {bad : Bool} (h : Rm w g B n d bad) (hB : B ≤ g) (hk : KeptBut w w' g' none) (hne : g ≠ g') (hBg : B ≤ g') : Rm w' g B n d bad := by
  obtain ⟨A, cap, h0, h1, h2⟩ := h
  have hlt := block_lt h0
  exact ⟨A, cap, (hk.block g hlt hne (fun e => by cases e)).trans h0, h1.below ⟨hk.os, hk.tape, hk.output, hk.size, fun k hk' => hk.block k (by omega) (by omega) (fun e => by cases e)⟩, h2⟩
theorem Rd.kept {w w' : World} {g n g' : Nat} {d : Nat → Nat} {bad : Bool} (h : Rd w g n d bad) (hk : KeptBut w w' g' none) (hne : g < g') : Rd w' g n d bad := by
  obtain ⟨A, cap, h0, h1, h2⟩ := h
  have hlt := block_lt h0
  exact ⟨A, cap, (hk.block g hlt (by omega) (fun e => by cases e)).trans h0, h1.below ⟨hk.os, hk.tape, hk.output, hk.size, fun k hk' => hk.block k (by omega) (by omega) (fun e => by cases e)⟩, h2⟩
theorem rm_store {w : World} {g B : Nat} {x y : Value} {T : TypeId} {A : Option Addr} {n : Nat} {d : Nat → Nat} (hg : w.heap[g]? = some (.cells #[x, y] T (0, 0))) (u : Value) (i : Nat) (hB : B ≤ g) (hr : Holds w B A n d) :
    (w.setCell ⟨g, i, none⟩ u).heap[g]? = some (.cells ((#[x, y] : Array Value).setIfInBounds i u) T (0, 0)) ∧ Holds (w.setCell ⟨g, i, none⟩ u) B A n d ∧ KeptBut w (w.setCell ⟨g, i, none⟩ u) g none :=
  ⟨Go.Joins.block_setCell hg u, hr.below ((Below.refl B w).setCell (p := ⟨g, i, none⟩) hB u), (KeptBut.refl w g none).setCell (p := ⟨g, i, none⟩) rfl u⟩

def TookOk (w : World) (g B n k : Nat) (d : Nat → Nat) (e : Ending) (w' : World) : Prop :=
  ∃ A c, e = .returned (.tuple #[.slice A k c, .bool true]) ∧ Holds w' B A k d ∧ k ≤ c ∧ c ≤ maxLen ∧ (A = none → c = 0) ∧ Rm w' g B (n - k) (shiftD k d) false ∧ KeptBut w w' g none
def TookNo (w : World) (g B : Nat) (e : Ending) (w' : World) : Prop := e = .returned (.tuple #[.slice none 0 0, .bool false]) ∧ Rm w' g B 0 (fun _ => 0) true ∧ KeptBut w w' g none

set_option maxHeartbeats 400000 in
theorem took_no (z : Int) (w : World) (g B n : Nat) (d : Nat → Nat) (bad : Bool) (hB : B ≤ g) (hR : Rm w g B n d bad) (hz : ¬ (bad = false ∧ 0 ≤ z ∧ z ≤ n)) :
    Calls Try.prog 15 #[.pointer (some ⟨g, 0, none⟩), .int .i64 z] w fun e w' => TookNo w g B e w' := by
  obtain ⟨A, cap, hg, hr, h1, h2, h3⟩ := hR
  have hc0 := cell_of_row w g 0 _ _ _ hg
  have hc1 := cell_of_row w g 1 _ _ _ hg
  have hf0 := frozen_of_row w g 0 _ _ hg
  have hf1 := frozen_of_row w g 1 _ _ hg
  simp at hc0 hc1
  obtain ⟨hg1, hr1, hk1⟩ := rm_store hg (.bool true) 1 hB hr
  obtain ⟨hg2, hr2, hk2⟩ := rm_store (x := .slice A n cap) (y := .bool true) hg1 (.slice none 0 0) 0 hB hr1
  have hfin : TookNo w g B (.returned (.tuple #[.slice none 0 0, .bool false])) ((w.setCell ⟨g, 1, none⟩ (.bool true)).setCell ⟨g, 0, none⟩ (.slice none 0 0)) :=
    ⟨rfl, ⟨none, 0, hg2, fun h => absurd h (by omega), Nat.le_refl _, by decide, fun _ => rfl⟩, keptbut_none hk1 hk2⟩
  have HF := Lib.hid hfin
  clear hg hr hg1 hr1 hk1 hg2 hr2 hk2 hfin h3
  cases bad with
  | true =>
    clear hz
    go_enter Try.func15, Try.ntmps15
    go_wp2_with fail
    go_ret2
    exact HF.out
  | false =>
    by_cases hz0 : z < 0
    · clear hz
      go_enter Try.func15, Try.ntmps15
      go_wp2_with fail
      go_ret2
      exact HF.out
    · have hz1 : (n : Int) < z := by
        by_cases h : (n : Int) < z
        · exact h
        · exact absurd ⟨rfl, by omega, by omega⟩ hz
      have hz2 : decide (z < 0) = false := decide_eq_false hz0
      clear hz
      go_enter Try.func15, Try.ntmps15
      go_wp2_with fail
      go_ret2
      exact HF.out
theorem took_fin (w : World) (g B n k cap : Nat) (ad ad' : Addr) (d : Nat → Nat) (hB : B ≤ g) (hk : k ≤ n) (hnc : n ≤ cap) (hcm : cap ≤ maxLen) (hr : Holds w B (some ad) n d) (hg : w.heap[g]? = some (.cells #[.slice (some ad) n cap, .bool false] 39 (0, 0))) (h : ad' = ad.add k ∨ cap = k) :
    TookOk w g B n k d (.returned (.tuple #[.slice (some ad) k cap, .bool true])) (w.setCell ⟨g, 0, none⟩ (.slice (some ad') (n - k) (cap - k))) := by
  obtain ⟨hg1, hr1, hk1⟩ := rm_store hg (.slice (some ad') (n - k) (cap - k)) 0 hB hr
  refine ⟨some ad, cap, rfl, fun h0 => ?_, by omega, hcm, (fun h => by cases h), ⟨some ad', cap - k, hg1, fun h0 => ?_, by omega, by omega, fun h => by cases h⟩, hk1⟩
  · obtain ⟨a, e, h1, h2⟩ := hr1 (by omega)
    exact ⟨a, e, h1, fun j hj => h2 j (by omega)⟩
  · obtain ⟨a, e, h1, h2⟩ := hr1 (by omega)
    cases e
    rcases h with rfl | h
    · exact ⟨_, rfl, by rw [add_block]; exact h1, fun j hj => by rw [add_two]; exact h2 (k + j) (by omega)⟩
    · omega
set_option maxHeartbeats 400000 in
theorem took_nil (w : World) (g B cap : Nat) (d : Nat → Nat) (hB : B ≤ g) (hcap : cap = 0) (hg : w.heap[g]? = some (.cells #[.slice none 0 cap, .bool false] 39 (0, 0))) :
    Calls Try.prog 15 #[.pointer (some ⟨g, 0, none⟩), .int .i64 0] w fun e w' => TookOk w g B 0 0 d e w' := by
  subst hcap
  have hc0 := cell_of_row w g 0 _ _ _ hg
  have hc1 := cell_of_row w g 1 _ _ _ hg
  have hf0 := frozen_of_row w g 0 _ _ hg
  simp at hc0 hc1
  obtain ⟨hg1, hr1, hk1⟩ := rm_store (A := none) (n := 0) (d := d) hg (.slice none 0 0) 0 hB (fun h => absurd h (by omega))
  have HF : Hid (TookOk w g B 0 0 d (.returned (.tuple #[.slice none 0 0, .bool true])) (w.setCell ⟨g, 0, none⟩ (.slice none 0 0))) :=
    Lib.hid ⟨none, 0, rfl, hr1, Nat.le_refl _, by decide, fun _ => rfl, ⟨none, 0, hg1, fun h => absurd h (by omega), Nat.le_refl _, by decide, fun _ => rfl⟩, hk1⟩
  clear hg hg1 hr1 hk1
  go_enter Try.func15, Try.ntmps15
  go_wp2_with fail
  go_ret2
  exact HF.out
set_option maxHeartbeats 400000 in
theorem took_some (w : World) (g B n k cap : Nat) (ad : Addr) (d : Nat → Nat) (hB : B ≤ g) (hk : k ≤ n) (hnc : n ≤ cap) (hcm : cap ≤ maxLen) (hr : Holds w B (some ad) n d) (hg : w.heap[g]? = some (.cells #[.slice (some ad) n cap, .bool false] 39 (0, 0))) :
    Calls Try.prog 15 #[.pointer (some ⟨g, 0, none⟩), .int .i64 (k : Int)] w fun e w' => TookOk w g B n k d e w' := by
  have HF1 := Lib.hid (took_fin w g B n k cap ad (ad.add k) d hB hk hnc hcm hr hg (.inl rfl))
  have HF2 := Lib.hid (fun h : cap = k => took_fin w g B n k cap ad ad d hB hk hnc hcm hr hg (.inr h))
  unfold maxLen at hcm
  have hc0 := cell_of_row w g 0 _ _ _ hg
  have hc1 := cell_of_row w g 1 _ _ _ hg
  have hf0 := frozen_of_row w g 0 _ _ hg
  simp at hc0 hc1
  clear hg hr
  by_cases hck : cap = k
  · subst hck
    obtain rfl : n = cap := by omega
    have hf := HF2.out rfl
    rw [Nat.sub_self] at hf
    have HF := Lib.hid hf
    clear hf
    go_enter Try.func15, Try.ntmps15
    go_wp2_with fail
    all_goals
      go_ret2
      first | exact HF.out | exact HF1.out
  · go_enter Try.func15, Try.ntmps15
    go_wp2_with fail
    all_goals
      go_ret2
      exact HF1.out
theorem took_ok (k : Nat) (w : World) (g B n : Nat) (d : Nat → Nat) (hB : B ≤ g) (hR : Rm w g B n d false) (hk : k ≤ n) :
    Calls Try.prog 15 #[.pointer (some ⟨g, 0, none⟩), .int .i64 (k : Int)] w fun e w' => TookOk w g B n k d e w' := by
  obtain ⟨A, cap, hg, hr, h1, h2, h3⟩ := hR
  cases A with
  | none =>
    have h0 := h3 rfl
    obtain rfl : n = 0 := by omega
    obtain rfl : k = 0 := by omega
    exact took_nil w g B cap d hB h0 hg
  | some ad => exact took_some w g B n k cap ad d hB hk h1 h2 hr hg
end Go.Proofs.Ytohojfgceaajfaa
