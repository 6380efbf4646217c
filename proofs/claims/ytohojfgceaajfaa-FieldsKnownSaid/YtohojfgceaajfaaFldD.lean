/- The contracts of Open, take, get, Byte, Short, Word, Long, Raw, Left, Bad. -/
import Derived.Test.YtohojfgceaajfaaFldC
namespace Go.Proofs.Ytohojfgceaajfaa
open Go.RowKit

/-- A reader in block g that has n bytes d left. -/
def Rd (w : World) (g n : Nat) (d : Nat → Nat) (bad : Bool) : Prop :=
  ∃ A cap, w.heap[g]? = some (.cells #[.slice A n cap, .bool bad] 64 (0, 0)) ∧ Holds w g A n d ∧ n ≤ cap ∧ cap ≤ maxLen ∧ (A = none → cap = 0)
def RdNew (w : World) (n : Nat) (d : Nat → Nat) (e : Ending) (w' : World) : Prop := ∃ g, e = .returned (.pointer (some ⟨g, 0, none⟩)) ∧ w.heap.size ≤ g ∧ Rd w' g n d false ∧ Below w.heap.size w w'
def shiftD (k : Nat) (d : Nat → Nat) (i : Nat) : Nat := d (k + i)

set_option maxHeartbeats 400000 in
theorem open_any (A : Option Addr) (n c : Nat) (d : Nat → Nat) (w : World) (hn : n ≤ 20000) (B : Nat) (hr : Holds w B A n d) (hA : A = none → c = 0) (hnc : n ≤ c) :
    Calls Try.prog 13 #[.slice A n c] w fun e w' => RdNew w n d e w' := by
  obtain ⟨i0, hi, hz0, hz1, hz2⟩ := info_parts infoU8
  have HR := Lib.hid hr
  have HA := Lib.hid hA
  clear hr hA
  go_enter Try.func13, Try.ntmps13
  go_wp2_with (at_builtin; refine wpList_app_holds rfl _ _ 25 rfl w.heap.size 5 i0 Try.underlying25 hi hz0 hz1 hz2 _ 0 [] rfl (World.ownsRow_nil _ _ _ _) B A n c d rfl HR.out HA.out hnc ?b5 ?b6 ?b7 ?_)
  case b5 => unfold maxLen; omega
  case b6 => omega
  case b7 => omega
  intro v1 w1 hown1 hgr1 _
  have hb := (Below.refl w.heap.size w).grown hgr1 (Nat.le_refl _) (fun g hg => by cases hg)
  have hown2 : w1.ownsRow w.heap.size 5 1 v1 n (cells d n) := by simpa using hown1
  obtain ⟨A1, cap1, rfl, h1, h2, h3, h4⟩ := own_slice hown2
  have H3 := Lib.hid h3
  have H4 := Lib.hid h4
  have hz := hb.size
  clear hown1 hgr1 hown2 h3 h4
  go_wp2_with fail
  go_ret
  refine ⟨w1.heap.size, rfl, hz, ⟨A1, cap1, heap_alloc_new w1 _, H3.out.below ((Below.refl _ _).alloc (Nat.le_refl _) _), h1, h2, H4.out⟩, hb.alloc hz _⟩

theorem Rd.bounds {w : World} {g n : Nat} {d : Nat → Nat} {bad : Bool} (h : Rd w g n d bad) : n ≤ maxLen := by
  obtain ⟨A, cap, _, _, h1, h2, _⟩ := h; omega
theorem Rd.lt {w : World} {g n : Nat} {d : Nat → Nat} {bad : Bool} (h : Rd w g n d bad) : g < w.heap.size := by
  obtain ⟨A, cap, h0, _⟩ := h; exact block_lt h0
theorem Rd.below {w w' : World} {g n : Nat} {d : Nat → Nat} {bad : Bool} (h : Rd w g n d bad) (hb : Below w.heap.size w w') : Rd w' g n d bad := by
  obtain ⟨A, cap, h0, h1, h2⟩ := h
  exact ⟨A, cap, (hb.block g (block_lt h0)).trans h0, h1.below (hb.mono (Nat.le_of_lt (block_lt h0))), h2⟩

/-- What is taken, and what is left. -/
def TakenOk (w : World) (g n k : Nat) (d : Nat → Nat) (e : Ending) (w' : World) : Prop :=
  ∃ A c, e = .returned (.slice A k c) ∧ Holds w' g A k d ∧ k ≤ c ∧ c ≤ maxLen ∧ (A = none → c = 0) ∧ Rd w' g (n - k) (shiftD k d) false ∧ KeptBut w w' g none
def TakenNo (w : World) (g : Nat) (e : Ending) (w' : World) : Prop := e = .returned (.slice none 0 0) ∧ Rd w' g 0 (fun _ => 0) true ∧ KeptBut w w' g none

theorem rd_store {w : World} {g : Nat} {x y : Value} {T : TypeId} {A : Option Addr} {n : Nat} {d : Nat → Nat} (hg : w.heap[g]? = some (.cells #[x, y] T (0, 0))) (u : Value) (i : Nat) (hr : Holds w g A n d) :
    (w.setCell ⟨g, i, none⟩ u).heap[g]? = some (.cells ((#[x, y] : Array Value).setIfInBounds i u) T (0, 0)) ∧ Holds (w.setCell ⟨g, i, none⟩ u) g A n d ∧ KeptBut w (w.setCell ⟨g, i, none⟩ u) g none :=
  ⟨Go.Joins.block_setCell hg u, hr.below ((Below.refl g w).setCell (p := ⟨g, i, none⟩) (Nat.le_refl _) u), (KeptBut.refl w g none).setCell (p := ⟨g, i, none⟩) rfl u⟩
theorem keptbut_none {w w1 w2 : World} {g : Nat} (h : KeptBut w w1 g none) (h2 : KeptBut w1 w2 g none) : KeptBut w w2 g none :=
  ⟨h2.os.trans h.os, h2.tape.trans h.tape, h2.output.trans h.output, Nat.le_trans h.size h2.size, fun k hk h0 h1 => (h2.block k (Nat.lt_of_lt_of_le hk h.size) h0 h1).trans (h.block k hk h0 h1)⟩

set_option maxHeartbeats 400000 in
theorem take_bad (z : Int) (w : World) (g : Nat) (d : Nat → Nat) (hR : Rd w g 0 d true) :
    Calls Try.prog 32 #[.pointer (some ⟨g, 0, none⟩), .int .i64 z] w fun e w' => e = .returned (.slice none 0 0) ∧ w = w' := by
  obtain ⟨A, cap, hg, hr, h1, h2, h3⟩ := hR
  have hcell := cell_of_row w g 1 _ _ _ hg
  simp at hcell
  clear hg hr h3
  go_enter Try.func32, Try.ntmps32
  go_wp2_with fail
  go_ret
  exact ⟨rfl, rfl⟩
set_option maxHeartbeats 400000 in
theorem take_no (z : Int) (w : World) (g n : Nat) (d : Nat → Nat) (hR : Rd w g n d false) (hz : z < 0 ∨ (n : Int) < z) :
    Calls Try.prog 32 #[.pointer (some ⟨g, 0, none⟩), .int .i64 z] w fun e w' => TakenNo w g e w' := by
  obtain ⟨A, cap, hg, hr, h1, h2, h3⟩ := hR
  have hc0 := cell_of_row w g 0 _ _ _ hg
  have hc1 := cell_of_row w g 1 _ _ _ hg
  have hf0 := frozen_of_row w g 0 _ _ hg
  have hf1 := frozen_of_row w g 1 _ _ hg
  simp at hc0 hc1
  obtain ⟨hg1, hr1, hk1⟩ := rd_store hg (.bool true) 1 hr
  obtain ⟨hg2, hr2, hk2⟩ := rd_store (x := .slice A n cap) (y := .bool true) hg1 (.slice none 0 0) 0 hr1
  have hfin : TakenNo w g (.returned (.slice none 0 0)) ((w.setCell ⟨g, 1, none⟩ (.bool true)).setCell ⟨g, 0, none⟩ (.slice none 0 0)) :=
    ⟨rfl, ⟨none, 0, hg2, fun h => absurd h (by omega), Nat.le_refl _, by decide, fun _ => rfl⟩, keptbut_none hk1 hk2⟩
  have HF := Lib.hid hfin
  clear hg hr hg1 hr1 hk1 hg2 hr2 hk2 hfin h3
  rcases hz with hz | hz
  · go_enter Try.func32, Try.ntmps32
    go_wp2_with fail
    go_ret
    exact HF.out
  · have hz0 : decide (z < 0) = false := decide_eq_false (by omega)
    go_enter Try.func32, Try.ntmps32
    go_wp2_with fail
    go_ret
    exact HF.out

set_option maxHeartbeats 400000 in
theorem take_nil (w : World) (g cap : Nat) (d : Nat → Nat) (hcap : cap = 0) (hg : w.heap[g]? = some (.cells #[.slice none 0 cap, .bool false] 64 (0, 0))) :
    Calls Try.prog 32 #[.pointer (some ⟨g, 0, none⟩), .int .i64 0] w fun e w' => TakenOk w g 0 0 d e w' := by
  subst hcap
  have hc0 := cell_of_row w g 0 _ _ _ hg
  have hc1 := cell_of_row w g 1 _ _ _ hg
  have hf0 := frozen_of_row w g 0 _ _ hg
  simp at hc0 hc1
  obtain ⟨hg1, hr1, hk1⟩ := rd_store (A := none) (n := 0) (d := d) hg (.slice none 0 0) 0 (fun h => absurd h (by omega))
  have HF : Hid (TakenOk w g 0 0 d (.returned (.slice none 0 0)) (w.setCell ⟨g, 0, none⟩ (.slice none 0 0))) :=
    Lib.hid ⟨none, 0, rfl, hr1, Nat.le_refl _, by decide, fun _ => rfl, ⟨none, 0, hg1, fun h => absurd h (by omega), Nat.le_refl _, by decide, fun _ => rfl⟩, hk1⟩
  clear hg hg1 hr1 hk1
  go_enter Try.func32, Try.ntmps32
  go_wp2_with fail
  go_ret
  exact HF.out
theorem take_fin (w : World) (g n k cap : Nat) (ad ad' : Addr) (d : Nat → Nat) (hk : k ≤ n) (hnc : n ≤ cap) (hcm : cap ≤ maxLen) (hr : Holds w g (some ad) n d) (hg : w.heap[g]? = some (.cells #[.slice (some ad) n cap, .bool false] 64 (0, 0))) (h : ad' = ad.add k ∨ cap = k) :
    TakenOk w g n k d (.returned (.slice (some ad) k k)) (w.setCell ⟨g, 0, none⟩ (.slice (some ad') (n - k) (cap - k))) := by
  obtain ⟨hg1, hr1, hk1⟩ := rd_store hg (.slice (some ad') (n - k) (cap - k)) 0 hr
  refine ⟨some ad, k, rfl, fun h0 => ?_, Nat.le_refl _, by omega, (fun h => by cases h), ⟨some ad', cap - k, hg1, fun h0 => ?_, by omega, by omega, fun h => by cases h⟩, hk1⟩
  · obtain ⟨a, e, h1, h2⟩ := hr1 (by omega)
    exact ⟨a, e, h1, fun j hj => h2 j (by omega)⟩
  · obtain ⟨a, e, h1, h2⟩ := hr1 (by omega)
    cases e
    rcases h with rfl | h
    · exact ⟨_, rfl, by rw [add_block]; exact h1, fun j hj => by rw [add_two]; exact h2 (k + j) (by omega)⟩
    · omega
set_option maxHeartbeats 400000 in
theorem take_some (w : World) (g n k cap : Nat) (ad : Addr) (d : Nat → Nat) (hk : k ≤ n) (hnc : n ≤ cap) (hcm : cap ≤ maxLen) (hr : Holds w g (some ad) n d) (hg : w.heap[g]? = some (.cells #[.slice (some ad) n cap, .bool false] 64 (0, 0))) :
    Calls Try.prog 32 #[.pointer (some ⟨g, 0, none⟩), .int .i64 (k : Int)] w fun e w' => TakenOk w g n k d e w' := by
  have HF1 := Lib.hid (take_fin w g n k cap ad (ad.add k) d hk hnc hcm hr hg (.inl rfl))
  have HF2 := Lib.hid (fun h : cap = k => take_fin w g n k cap ad ad d hk hnc hcm hr hg (.inr h))
  unfold maxLen at hcm
  have hc0 := cell_of_row w g 0 _ _ _ hg
  have hc1 := cell_of_row w g 1 _ _ _ hg
  have hf0 := frozen_of_row w g 0 _ _ hg
  simp at hc0 hc1
  clear hg hr
  by_cases hck : cap = k
  · subst hck
    obtain rfl : n = cap := by omega
    have hf := HF2.out rfl
    rw [Nat.sub_self] at hf
    have HF := Lib.hid hf
    clear hf
    go_enter Try.func32, Try.ntmps32
    go_wp2_with fail
    all_goals
      go_ret
      first | exact HF.out | exact HF1.out
  · go_enter Try.func32, Try.ntmps32
    go_wp2_with fail
    all_goals
      go_ret
      exact HF1.out
theorem take_ok (k : Nat) (w : World) (g n : Nat) (d : Nat → Nat) (hR : Rd w g n d false) (hk : k ≤ n) :
    Calls Try.prog 32 #[.pointer (some ⟨g, 0, none⟩), .int .i64 (k : Int)] w fun e w' => TakenOk w g n k d e w' := by
  obtain ⟨A, cap, hg, hr, h1, h2, h3⟩ := hR
  cases A with
  | none =>
    have h0 := h3 rfl
    obtain rfl : n = 0 := by omega
    obtain rfl : k = 0 := by omega
    exact take_nil w g cap d h0 hg
  | some ad => exact take_some w g n k cap ad d hk h1 h2 hr hg
end Go.Proofs.Ytohojfgceaajfaa
