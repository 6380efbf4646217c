/- The walk of the law ShaBlocks. -/
import Derived.Test.YtnenjljcopbdeaaDoorShaY
namespace Go.Proofs.YtnenjljcopbdeaaDoor
open Go.RowKit Go.BigFrame

theorem info64c (d : Nat → Nat) : (Tryd.prog.info? 29).map (·.size) = some (cells d 64).length := by rw [cells_len]; exact info64
theorem run_equal_words (w : World) (f : Nat → UInt32) : (Op.equalIn 10000 28 (.agg (wrow f 8)) (.agg (wrow f 8))).run Tryd.prog w = .ok true w := by
  rw [run_equal_ints w 9998 8 28 27 .u32 .u32 (fun i => ((f i).toNat : Int)) (fun i => ((f i).toNat : Int)) _ _ Tryd.underlying28 Tryd.underlying27 cellsU32 fun i hi => ⟨wrow_get _ _ _ hi, wrow_get _ _ _ hi⟩]
  congr 1
  rw [List.all_eq_true]
  intro i _
  simp
def SCB (gC gB : Nat) (c : Nat → UInt32) (d : Nat → Nat) (w : World) : Prop := (w.rangeAt gC 0 (wcells c 8) ∧ gC < w.heap.size) ∧ (w.rangeAt gB 0 (cells d 64) ∧ gB < w.heap.size)
theorem SCB.below {gC gB : Nat} {c : Nat → UInt32} {d : Nat → Nat} {w w' : World} (s : SCB gC gB c d w) (hb : Below w.heap.size w w') : SCB gC gB c d w' :=
  ⟨⟨range_below hb s.1.2 s.1.1, Nat.lt_of_lt_of_le s.1.2 hb.size⟩, ⟨range_below hb s.2.2 s.2.1, Nat.lt_of_lt_of_le s.2.2 hb.size⟩⟩

set_option maxRecDepth 100000 in
set_option maxHeartbeats 1000000 in
theorem shaBlocks_walk (c : Nat → UInt32) (d : Nat → Nat) (w : World) (ht : Tabs w) (hd : ∀ i, d i < 256) :
    Calls Tryd.prog 4 #[.agg (wrow c 8), .agg (digA d 64)] w fun e w' => e = .returned (.bool true) ∧ Below w.heap.size w w' := by
  have HT := Lib.hid ht
  have HD := Lib.hid hd
  clear ht hd
  go_enter Tryd.func4, Tryd.ntmps4
  go_upto_region 1 with (fail)
  obtain ⟨w1, hw1, hgC, hgB, hb1, hsz⟩ := rows2 w (.cells (wrow c 8) 28) (.cells (digA d 64) 29)
  rw [← hw1]
  clear hw1
  have hS : SCB w.heap.size (w.heap.size + 1) c d w1 := ⟨⟨range_words _ _ _ _ _ hgC, block_lt hgC⟩, ⟨range_dig _ _ _ _ _ hgB, block_lt hgB⟩⟩
  clear hgC hgB
  have huC := Tryd.underlying28
  have huB := Tryd.underlying29
  have hiC := info8c c
  have hiB := info64c d
  obtain ⟨r8, R8⟩ : ∃ r, Hid (r = block c d) := ⟨_, Lib.hid rfl⟩
  have HB1 := Lib.hid (block_any c d HD.out)
  have HB2 := Lib.hid (refBlock_any c d HD.out)
  rw [← R8.out] at HB1 HB2
  clear R8
  have heq : ∀ wx : World, (Op.equalIn 10000 28 (.agg (wrow r8 8)) (.agg (wrow r8 8))).run Tryd.prog wx = .ok true wx := fun wx => run_equal_words wx _
  refine wp_region_held (S := SCB w.heap.size (w.heap.size + 1) c d) (by kernel_rfl) ?_
  refine wpAnyH_take (i := 0) rfl (by kernel_rfl) (by kernel_rfl) (by kernel_rfl) (fun _ _ _ h => h) (yieldsIf_load_mid (by rfl) 28 _ rfl w.heap.size 0 rfl (wcells c 8) _ (fun w' h => h.1.1) huC rfl hiC) hS ?_
  simp only [Act.put, List.setIfInBounds_toArray]
  refine wpAnyH_take (i := 1) rfl (by kernel_rfl) (by kernel_rfl) (by kernel_rfl) (fun _ _ _ h => h) (yieldsIf_load_mid (by rfl) 29 _ rfl (w.heap.size + 1) 0 rfl (cells d 64) _ (fun w' h => h.2.1) huB rfl hiB) hS ?_
  simp only [Act.put]
  refine wpAnyH_take (i := 3) rfl (by kernel_rfl) (by kernel_rfl) (by kernel_rfl) (fun _ _ _ h => h) (yieldsIf_load_mid (by rfl) 28 _ rfl w.heap.size 0 rfl (wcells c 8) _ (fun w' h => h.1.1) huC rfl hiC) hS ?_
  simp only [Act.put]
  refine wpAnyH_take (i := 4) rfl (by kernel_rfl) (by kernel_rfl) (by kernel_rfl) (fun _ _ _ h => h) (yieldsIf_load_mid (by rfl) 29 _ rfl (w.heap.size + 1) 0 rfl (cells d 64) _ (fun w' h => h.2.1) huB rfl hiB) hS ?_
  simp only [Act.put]
  refine wpAnyH_ready (rs := [2]) (by kernel_rfl) (by simp) ?_
  refine AllReadyH.cons rfl (fun K hK => ?_) AllReadyH.nil
  go_simp
  refine (HB1.out _ (HT.out.below hb1.drew)).mono ?_
  rintro e w6 ⟨rfl, hb6⟩
  refine hK.out _ _ (SCB.below (w := w1.drew) hS hb6) (fun hH6 => ?_)
  clear hK K
  refine wpAnyH_ready (rs := [5]) (by kernel_rfl) (by simp) ?_
  refine AllReadyH.cons rfl (fun K hK => ?_) AllReadyH.nil
  go_simp
  refine (HB2.out _).mono ?_
  rintro e w7 ⟨rfl, hb7⟩
  refine hK.out _ _ (SCB.below hH6 hb7) (fun hH7 => ?_)
  clear hK K
  refine wpAnyH_ready (rs := [6]) (by kernel_rfl) (by simp) ?_
  refine AllReadyH.cons rfl (fun K hK => ?_) AllReadyH.nil
  go_simp
  refine hK.out _ _ hH7 (fun _ => ?_)
  clear hK K
  refine wpAnyH_ready (rs := [7]) (by kernel_rfl) (by simp) ?_
  refine AllReadyH.cons rfl (fun K hK => ?_) AllReadyH.nil
  go_simp
  refine hK.out _ _ hH7 (fun _ => ?_)
  clear hK K
  have hB7 := below_step (below_step hb1.drew hb6 hb1.size) hb7 (Nat.le_of_lt hH6.1.2)
  refine wpAnyH_ready (rs := [8]) (by kernel_rfl) (by simp) ?_
  refine AllReadyH.cons rfl (fun K hK => ?_) AllReadyH.nil
  go_simp
  refine (works_any _ (HT.out.below hB7)).mono ?_
  rintro e w8 ⟨rfl, hb8⟩
  refine hK.out _ _ (SCB.below hH7 hb8) (fun hH8 => ?_)
  clear hK K
  refine wpAnyH_ready (rs := [9]) (by kernel_rfl) (by simp) ?_
  refine AllReadyH.cons rfl (fun K hK => ?_) AllReadyH.nil
  go_simp
  refine hK.out _ _ hH8 (fun _ => ?_)
  clear hK K
  refine wpAnyH_ready (rs := [10]) (by kernel_rfl) (by simp) ?_
  refine AllReadyH.cons rfl (fun K hK => ?_) AllReadyH.nil
  go_simp
  refine hK.out _ _ hH8 (fun _ => ?_)
  clear hK K
  refine wpAnyH_done (by kernel_rfl) ?_ _
  go_wp2_with fail
  go_ret
  exact ⟨rfl, below_step hB7 hb8 (Nat.le_of_lt hH7.1.2)⟩
end Go.Proofs.YtnenjljcopbdeaaDoor
