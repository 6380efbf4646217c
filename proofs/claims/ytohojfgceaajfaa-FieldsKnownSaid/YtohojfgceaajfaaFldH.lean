/- The contract of works. -/
import Derived.Test.YtohojfgceaajfaaFldG
namespace Go.Proofs.Ytohojfgceaajfaa
open Go.RowKit

theorem Wr.below {w w' : World} {g base : Nat} {v : Value} {L : Nat} {d : Nat → Nat} (h : Wr w g base v L d) (hb : Below w.heap.size w w') : Wr w' g base v L d :=
  ⟨(hb.block g (block_lt h.1)).trans h.1, own_below h.2.1 hb (Nat.le_refl _), h.2.2⟩
theorem Wr.lt {w : World} {g base : Nat} {v : Value} {L : Nat} {d : Nat → Nat} (h : Wr w g base v L d) : g < w.heap.size := block_lt h.1
theorem Put.step {W w w' : World} {g base B : Nat} {v : Value} {L L' : Nat} {d d' : Nat → Nat} (hp : Put w g base v L' d' w') (hW : Wr w g base v L d) (hb : Below B W w) (hg : B ≤ g) (hbs : B ≤ base) (hB : B ≤ w.heap.size) :
    ∃ v', Wr w' g base v' L' d' ∧ Below B W w' ∧ w.heap.size ≤ w'.heap.size := by
  obtain ⟨v', h1, h2, _⟩ := hp
  exact ⟨v', h1, h2.below hb hg (fun k hk => Nat.le_trans hbs (hW.2.1.lt k hk).1) hB, h2.size⟩
theorem below_alloc1 (w : World) (o : Obj) : Below w.heap.size w (w.alloc o) := (Below.refl _ _).alloc (Nat.le_refl _) _
theorem kept_rd_below {W w w1 : World} {g B : Nat} (hb : Below B W w) (h : KeptBut w w1 g none) (hg : B ≤ g) (hB : B ≤ w.heap.size) : Below B W w1 :=
  h.below hb hg (fun k hk => by cases hk) hB
def sevenD (i : Nat) : Nat := [7].getD i 0
theorem sevenD_lt (i : Nat) : sevenD i < 256 := by
  match i with
  | 0 => decide
  | i + 1 => simp [sevenD]
def oneD (i : Nat) : Nat := [1, 2, 3].getD i 0
theorem oneD_lt (i : Nat) : oneD i < 256 := by
  match i with
  | 0 => decide
  | 1 => decide
  | 2 => decide
  | i + 3 => simp [oneD]
def workD : Nat → Nat := joinD (0 + 1 + 2 + 4) (joinD (0 + 1 + 2) (joinD (0 + 1) (joinD 0 (fun _ => 0) (numB 1 1)) (numB 2 2)) (numB 255 4)) sevenD
theorem work_str : strOf (txt workD (0 + 1 + 2 + 4 + 1)) = ⟨#[1, 0, 2, 0, 0, 0, 255, 7]⟩ := by decide +kernel
theorem workD_lt (i : Nat) : workD i < 256 := join_lt _ _ _ (fun i => join_lt _ _ _ (fun i => join_lt _ _ _ (fun i => join_lt _ _ _ (fun _ => by decide) (numB_lt 1 1) i) (numB_lt 2 2) i) (numB_lt 255 4) i) sevenD_lt i
theorem workD_cells (l : List UInt8) (h : l = txt workD 8) : cells workD 8 = l.map fun c => Value.int .u8 (c.toNat : Int) := by
  subst h; exact txt_cells _ _ workD_lt

set_option maxRecDepth 100000 in
set_option maxHeartbeats 1000000 in
theorem works_any (w : World) :
    Calls Try.prog 9 #[] w fun e w' => e = .returned (.bool true) ∧ Below w.heap.size w w' := by
  go_enter Try.func9, Try.ntmps9
  have hW0 := wr_new w
  have hb0 := below_alloc1 w (.cells #[.slice none 0 0] 27)
  have HB0 := Lib.hid hb0
  have HC := Lib.hid (wByte_any 1 (by decide) _ _ _ _ _ _ hW0 (by decide) (by simp))
  have HW0 := Lib.hid hW0
  clear hW0 hb0
  go_wp2_with fail
  refine HC.out.mono ?_
  rintro e w1 ⟨rfl, hp⟩
  obtain ⟨v1, hW1, hb1, hz1⟩ := hp.step HW0.out HB0.out (Nat.le_refl _) (Nat.le_succ _) (by simp)
  have HC1 := Lib.hid (wShort_any 2 (by decide) _ _ _ _ _ _ hW1 (by decide) (by have := hW1.lt; omega))
  have HW1 := Lib.hid hW1
  clear HC HW0 hp hW1
  go_wp2_with fail
  refine HC1.out.mono ?_
  rintro e w2 ⟨rfl, hp⟩
  obtain ⟨v2, hW2, hb2, hz2⟩ := hp.step HW1.out hb1 (Nat.le_refl _) (Nat.le_succ _) hb1.size
  have HC2 := Lib.hid (wWord_any 255 (by decide) _ _ _ _ _ _ hW2 (by decide) (by have := hW2.lt; omega))
  have HW2 := Lib.hid hW2
  clear HC1 HW1 hp hW2 hb1
  go_wp2_with fail
  refine HC2.out.mono ?_
  rintro e w3 ⟨rfl, hp⟩
  obtain ⟨v3, hW3, hb3, hz3⟩ := hp.step HW2.out hb2 (Nat.le_refl _) (Nat.le_succ _) hb2.size
  have hW4 := hW3.below (below_alloc1 w3 (.cells (digA sevenD 1) 5))
  have hb4 := hb3.alloc hb3.size (.cells (digA sevenD 1) 5)
  have HC3 := Lib.hid (wRaw_any (some ⟨w3.heap.size, 0, none⟩) 1 1 sevenD _ _ _ _ _ _ hW4 (by decide) (by decide) (by have := hW4.lt; omega) _ (holds_new w3 5 sevenD 1 (0, 0)) (fun h => by cases h) (Nat.le_refl _))
  have HW4 := Lib.hid hW4
  clear HC2 HW2 hp hW3 hb2 hW4
  go_wp2_with fail
  refine HC3.out.mono ?_
  rintro e w5 ⟨rfl, hp⟩
  obtain ⟨v5, hW5, hb5, hz5⟩ := hp.step HW4.out hb4 (Nat.le_refl _) (Nat.le_succ _) (by have := hb3.size; simp; omega)
  have hba := below_alloc1 w5 (.cells (digA oneD 3) 5)
  have hW6 := hW5.below hba
  have hb6 := hb5.alloc hb5.size (.cells (digA oneD 3) 5)
  have HC5 := Lib.hid (open_any (some ⟨w5.heap.size, 0, none⟩) 3 3 oneD _ (by decide) _ (holds_new w5 5 oneD 3 (0, 0)) (fun h => by cases h) (Nat.le_refl _))
  have HW6 := Lib.hid hW6
  clear HC3 HW4 hp hW5 hb3 hb4 hW6 hba
  go_wp2_with fail
  refine HC5.out.mono ?_
  rintro e w7 ⟨gr, rfl, hgr, hR, hb7⟩
  have hW7 := HW6.out.below hb7
  have hB7 := below_step hb6 hb7 (by have := hb5.size; simp; omega)
  have hgw : w.heap.size ≤ gr := by have := hb5.size; simp at hgr; omega
  have HC7 := Lib.hid (out_any _ _ _ _ _ _ hW7 (by decide))
  have HR7 := Lib.hid hR
  clear HC5 HW6 hb7 hb6 hb5 hW7 hR hgr
  go_wp2_with fail
  refine HC7.out.mono ?_
  rintro e w8 ⟨⟨vo, rfl, hown⟩, hb8⟩
  have hR8 := HR7.out.below hb8
  have hB8 := below_step hB7 hb8 hB7.size
  have hcv := convert_own (P := Try.prog) (src := 25) (dst := 9) (l := txt workD 8) (by rw [txt_len, ← workD_cells _ rfl]; exact hown) Try.underlying25 Try.underlying5 Try.underlying9
  rw [show strOf (txt workD 8) = ⟨#[1, 0, 2, 0, 0, 0, 255, 7]⟩ from work_str] at hcv
  have HC8 := Lib.hid (rShort_any _ _ _ _ _ oneD_lt hR8 (fun h => by cases h))
  clear HC7 HR7 hb8 hB7 hown hR8
  go_wp2_with fail
  refine HC8.out.mono ?_
  rintro e w9 ⟨hk9, hif⟩
  rw [if_pos (by decide), show numV oneD 2 = 258 by decide] at hif
  obtain ⟨rfl, hR9⟩ := hif
  have hB9 := kept_rd_below hB8 hk9 hgw hB8.size
  have HC9 := Lib.hid (rShort_any _ _ _ _ _ (fun i => oneD_lt _) hR9 (fun h => by cases h))
  clear HC8 hk9 hB8 hR9 hcv
  go_wp2_with fail
  refine HC9.out.mono ?_
  rintro e w10 ⟨hk10, hif⟩
  rw [if_neg (by decide)] at hif
  obtain ⟨rfl, hR10⟩ := hif
  have hB10 := kept_rd_below hB9 hk10 hgw hB9.size
  have HC10 := Lib.hid (rByte_any _ _ _ _ _ (fun i => by decide) hR10 (fun h => rfl))
  clear HC9 hk10 hB9
  have HR10 := Lib.hid hR10
  clear hR10
  go_wp2_with fail
  refine HC10.out.mono ?_
  rintro e w11 ⟨hk11, hif⟩
  rw [if_neg (by decide)] at hif
  obtain ⟨rfl, hR11⟩ := hif
  have hB11 := kept_rd_below hB10 hk11 hgw hB10.size
  have HC11 := Lib.hid (bad_any _ _ _ _ _ hR11)
  clear HC10 hk11 hB10 hR11
  go_wp2_with fail
  refine HC11.out.mono ?_
  rintro e w12 ⟨rfl, rfl⟩
  go_wp2_with fail
  go_ret
  exact ⟨rfl, hB11⟩
end Go.Proofs.Ytohojfgceaajfaa
