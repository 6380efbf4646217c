/- The walk of the law ShaTexts. -/
import Derived.Test.YtnenjljcopbdeaaDoorShaR
import Derived.Deep.RegionHeld3
namespace Go.Proofs.YtnenjljcopbdeaaDoor
open Go.RowKit Go.BigFrame

theorem range_below {g : Nat} {a b : World} {cs : List Value} (k : Below a.heap.size a b) (hg : g < a.heap.size) (h : a.rangeAt g 0 cs) : b.rangeAt g 0 cs := fun j v hv => by
  rw [k.cell (p := ⟨g, 0 + j, none⟩) hg]
  exact h j v hv
theorem range_dig (w : World) (g : Nat) (d : Nat → Nat) (n : Nat) (t : TypeId) (hg : w.heap[g]? = some (.cells (digA d n) t (0, 0))) : w.rangeAt g 0 (cells d n) := fun j v hv => by
  have hj : j < n := by
    have := (List.getElem?_eq_some_iff.1 hv).1
    rwa [cells_len] at this
  rw [cells_get _ _ _ hj] at hv
  rw [Nat.zero_add, cell_of_row _ _ _ _ _ _ hg, digA_get _ _ _ hj, hv]
theorem info32c (d : Nat → Nat) : (Tryd.prog.info? 33).map (·.size) = some (cells d 32).length := by rw [cells_len]; exact info32
/-- Three digests that lie in memory. -/
def S3 (gD gE gF : Nat) (d f h : Nat → Nat) (w : World) : Prop := (w.rangeAt gD 0 (cells d 32) ∧ gD < w.heap.size) ∧ (w.rangeAt gE 0 (cells f 32) ∧ gE < w.heap.size) ∧ (w.rangeAt gF 0 (cells h 32) ∧ gF < w.heap.size)
theorem S3.below {gD gE gF : Nat} {d f h : Nat → Nat} {w w' : World} (s : S3 gD gE gF d f h w) (hb : Below w.heap.size w w') : S3 gD gE gF d f h w' :=
  ⟨⟨range_below hb s.1.2 s.1.1, Nat.lt_of_lt_of_le s.1.2 hb.size⟩, ⟨range_below hb s.2.1.2 s.2.1.1, Nat.lt_of_lt_of_le s.2.1.2 hb.size⟩, ⟨range_below hb s.2.2.2 s.2.2.1, Nat.lt_of_lt_of_le s.2.2.2 hb.size⟩⟩

theorem shaTexts_long (d : Nat → Nat) (s : ByteArray) (w : World) (ht : Tabs w) (hs : s.size ≤ maxLen) (h5 : 200 < s.size) :
    Calls Tryd.prog 6 #[.agg (digA d 32), .string s] w fun e w' => e = .returned (.bool true) ∧ Below w.heap.size w w' := by
  have HT := Lib.hid ht
  clear ht
  unfold maxLen at hs
  go_enter Tryd.func6, Tryd.ntmps6
  go_upto_region 1 with (fail)
  obtain ⟨w1, hw1, hg1, hb1, hsz1⟩ := row_new w (.cells (digA d 32) 33)
  rw [← hw1]
  clear hw1
  go_wp2_with fail
  refine (works_any _ (HT.out.below hb1)).mono ?_
  rintro e w4 ⟨rfl, hb4⟩
  go_wp2_with fail
  go_ret
  exact ⟨rfl, below_step hb1 hb4 hb1.size⟩

set_option maxRecDepth 100000 in
set_option maxHeartbeats 1000000 in
theorem shaTexts_short (d : Nat → Nat) (s : ByteArray) (w : World) (ht : Tabs w) (hd : ∀ i, d i < 256) (hs : s.size ≤ maxLen) (h5 : ¬ 200 < s.size) :
    Calls Tryd.prog 6 #[.agg (digA d 32), .string s] w fun e w' => e = .returned (.bool true) ∧ Below w.heap.size w w' := by
  have HT := Lib.hid ht
  have HS := Lib.hid hs
  have HD := Lib.hid hd
  unfold maxLen at hs
  clear ht hd
  go_enter Tryd.func6, Tryd.ntmps6
  go_upto_region 1 with (fail)
  obtain ⟨w1, hw1, hg1, hb1, hsz1⟩ := row_new w (.cells (digA d 32) 33)
  rw [← hw1]
  clear hw1
  go_wp2_with fail
  refine (read_any s _ HS.out).mono ?_
  rintro e w2 ⟨rfl, hb2⟩
  have hg2 := (hb2.block w.heap.size (block_lt hg1)).trans hg1
  have hB2 := below_step hb1 hb2 hb1.size
  clear hg1 hb1 hb2 hsz1
  go_upto_region 4 with (refine wpList_store_row rfl 33 _ _ rfl w2.heap.size (digA (rdD s) 32) rfl rfl 33 _ (heap_alloc_new _ _) (by rw [digA_size]; exact info32) (by rw [digA_size]; rfl) (digA_ok _ _) ?_)
  rw [zeros32]
  obtain ⟨w3, hw3, hgE3, hold3, hB3, hz3⟩ := row_put w.heap.size w w2 (digA (fun _ => 0) 32) (digA (rdD s) 32) 33 hB2 hB2.size
  rw [← hw3]
  have hg3 := (hold3 w.heap.size (block_lt hg2)).trans hg2
  obtain ⟨gE, GE⟩ : ∃ g, Hid (g = w2.heap.size) := ⟨_, Lib.hid rfl⟩
  rw [← GE.out] at hgE3 ⊢
  clear hw3 hold3 hg2 hB2 hz3 GE
  go_wp2_with fail
  refine (refRead_any s _ HS.out).mono ?_
  rintro e w4 ⟨rfl, hb4⟩
  have hg4 := (hb4.block w.heap.size (block_lt hg3)).trans hg3
  have hgE4 := (hb4.block gE (block_lt hgE3)).trans hgE3
  have hB4 := below_step hB3 hb4 hB3.size
  clear hg3 hgE3 hB3 hb4
  go_upto_region 5 with (refine wpList_store_row rfl 33 _ _ rfl w4.heap.size (digA (rdD s) 32) rfl rfl 33 _ (heap_alloc_new _ _) (by rw [digA_size]; exact info32) (by rw [digA_size]; rfl) (digA_ok _ _) ?_)
  rw [zeros32]
  obtain ⟨w5, hw5, hgF5, hold5, hB5, hz5⟩ := row_put w.heap.size w w4 (digA (fun _ => 0) 32) (digA (rdD s) 32) 33 hB4 hB4.size
  rw [← hw5]
  have hg5 := (hold5 w.heap.size (block_lt hg4)).trans hg4
  have hgE5 := (hold5 gE (block_lt hgE4)).trans hgE4
  obtain ⟨gF, GF⟩ : ∃ g, Hid (g = w4.heap.size) := ⟨_, Lib.hid rfl⟩
  rw [← GF.out] at hgF5 ⊢
  clear hw5 hold5 hg4 hgE4 hB4 hz5 GF
  have hS : S3 w.heap.size gE gF d (rdD s) (rdD s) w5 := ⟨⟨range_dig _ _ _ _ _ hg5, block_lt hg5⟩, ⟨range_dig _ _ _ _ _ hgE5, block_lt hgE5⟩, ⟨range_dig _ _ _ _ _ hgF5, block_lt hgF5⟩⟩
  clear hg5 hgE5 hgF5
  have hu := Tryd.underlying33
  have hi := info32c d
  have hiE := info32c (rdD s)
  have heq : ∀ wx : World, (Op.equalIn 10000 33 (.agg (cells (rdD s) 32).toArray) (.agg (cells (rdD s) 32).toArray)).run Tryd.prog wx = .ok true wx := fun wx => (run_equal_dig wx (rdD s) (rdD s)).trans (by rw [sameB_of 32 _ _ (fun i _ => rfl)])
  generalize okR s = ok
  refine wp_region_held (S := S3 w.heap.size gE gF d (rdD s) (rdD s)) (by kernel_rfl) ?_
  refine wpAnyH_take (i := 0) rfl (by kernel_rfl) (by kernel_rfl) (by kernel_rfl) (fun _ _ _ h => h) (yieldsIf_load_mid (by rfl) 33 _ rfl w.heap.size 0 rfl (cells d 32) _ (fun w' h => h.1.1) hu rfl hi) hS ?_
  simp only [Act.put, List.setIfInBounds_toArray]
  refine wpAnyH_take (i := 2) rfl (by kernel_rfl) (by kernel_rfl) (by kernel_rfl) (fun _ _ _ h => h) (yieldsIf_load_mid (by rfl) 33 _ rfl w.heap.size 0 rfl (cells d 32) _ (fun w' h => h.1.1) hu rfl hi) hS ?_
  simp only [Act.put]
  refine wpAnyH_ready (rs := [1]) (by kernel_rfl) (by simp) ?_
  refine AllReadyH.cons rfl (fun K hK => ?_) AllReadyH.nil
  go_simp
  refine (hex_any d HD.out _).mono ?_
  rintro e w6 ⟨rfl, hb6⟩
  refine hK.out _ _ (S3.below (w := w5.drew) hS hb6) (fun hH6 => ?_)
  clear hK K
  refine wpAnyH_ready (rs := [3]) (by kernel_rfl) (by simp) ?_
  refine AllReadyH.cons rfl (fun K hK => ?_) AllReadyH.nil
  go_simp
  refine (refHex_any d HD.out _).mono ?_
  rintro e w7 ⟨rfl, hb7⟩
  refine hK.out _ _ (S3.below hH6 hb7) (fun hH7 => ?_)
  clear hK K
  refine wpAnyH_ready (rs := [4]) (by kernel_rfl) (by simp) ?_
  refine AllReadyH.cons rfl (fun K hK => ?_) AllReadyH.nil
  go_simp
  refine hK.out _ _ hH7 (fun _ => ?_)
  clear hK K
  refine wpAnyH_ready (rs := [5]) (by kernel_rfl) (by simp) ?_
  refine AllReadyH.cons rfl (fun K hK => ?_) AllReadyH.nil
  go_simp
  refine hK.out _ _ hH7 (fun _ => ?_)
  clear hK K
  refine wpAnyH_take (i := 6) rfl (by kernel_rfl) (by kernel_rfl) (by kernel_rfl) (fun _ _ _ h => h) (yieldsIf_load_mid (by rfl) 33 _ rfl gE 0 rfl (cells (rdD s) 32) _ (fun w' h => h.2.1.1) hu rfl hiE) hH7 ?_
  simp only [Act.put, List.setIfInBounds_toArray]
  refine wpAnyH_take (i := 7) rfl (by kernel_rfl) (by kernel_rfl) (by kernel_rfl) (fun _ _ _ h => h) (yieldsIf_load_mid (by rfl) 33 _ rfl gF 0 rfl (cells (rdD s) 32) _ (fun w' h => h.2.2.1) hu rfl hiE) hH7 ?_
  simp only [Act.put]
  refine wpAnyH_ready (rs := [8]) (by kernel_rfl) (by simp) ?_
  refine AllReadyH.cons rfl (fun K hK => ?_) AllReadyH.nil
  go_simp
  refine hK.out _ _ hH7 (fun _ => ?_)
  clear hK K
  refine wpAnyH_ready (rs := [9]) (by kernel_rfl) (by simp) ?_
  refine AllReadyH.cons rfl (fun K hK => ?_) AllReadyH.nil
  go_simp
  refine hK.out _ _ hH7 (fun _ => ?_)
  clear hK K
  refine wpAnyH_ready (rs := [10]) (by kernel_rfl) (by simp) ?_
  refine AllReadyH.cons rfl (fun K hK => ?_) AllReadyH.nil
  go_simp
  refine hK.out _ _ hH7 (fun _ => ?_)
  clear hK K
  refine wpAnyH_take (i := 11) rfl (by kernel_rfl) (by kernel_rfl) (by kernel_rfl) (fun _ _ _ h => h) (Or.inl ⟨by rfl, fun wx _ => run_move _ rfl wx⟩) hH7 ?_
  simp only [Act.put]
  refine wpAnyH_take (i := 12) rfl (by kernel_rfl) (by kernel_rfl) (by kernel_rfl) (fun _ _ _ h => h) (Or.inl ⟨by rfl, fun wx _ => run_move _ rfl wx⟩) hH7 ?_
  simp only [Act.put]
  refine wpAnyH_ready (rs := [13]) (by kernel_rfl) (by simp) ?_
  refine AllReadyH.cons rfl (fun K hK => ?_) AllReadyH.nil
  go_simp
  refine hK.out _ _ hH7 (fun _ => ?_)
  clear hK K
  refine wpAnyH_ready (rs := [14]) (by kernel_rfl) (by simp) ?_
  refine AllReadyH.cons rfl (fun K hK => ?_) AllReadyH.nil
  go_simp
  refine hK.out _ _ hH7 (fun _ => ?_)
  clear hK K
  refine wpAnyH_ready (rs := [15]) (by kernel_rfl) (by simp) ?_
  refine AllReadyH.cons rfl (fun K hK => ?_) AllReadyH.nil
  go_simp
  refine hK.out _ _ hH7 (fun _ => ?_)
  clear hK K
  have hB7 := below_step (below_step hB5.drew hb6 hB5.size) hb7 (Nat.le_of_lt hH6.1.2)
  refine wpAnyH_ready (rs := [16]) (by kernel_rfl) (by simp) ?_
  refine AllReadyH.cons rfl (fun K hK => ?_) AllReadyH.nil
  go_simp
  refine (works_any _ (HT.out.below hB7)).mono ?_
  rintro e w8 ⟨rfl, hb8⟩
  refine hK.out _ _ (S3.below hH7 hb8) (fun hH8 => ?_)
  clear hK K
  refine wpAnyH_ready (rs := [17]) (by kernel_rfl) (by simp) ?_
  refine AllReadyH.cons rfl (fun K hK => ?_) AllReadyH.nil
  go_simp
  refine hK.out _ _ hH8 (fun _ => ?_)
  clear hK K
  refine wpAnyH_ready (rs := [18]) (by kernel_rfl) (by simp) ?_
  refine AllReadyH.cons rfl (fun K hK => ?_) AllReadyH.nil
  go_simp
  refine hK.out _ _ hH8 (fun _ => ?_)
  clear hK K
  refine wpAnyH_done (by kernel_rfl) ?_ _
  go_wp2_with fail
  go_ret
  exact ⟨rfl, below_step hB7 hb8 (Nat.le_of_lt hH7.1.2)⟩
theorem shaTexts_walk (d : Nat → Nat) (s : ByteArray) (w : World) (ht : Tabs w) (hd : ∀ i, d i < 256) (hs : s.size ≤ maxLen) :
    Calls Tryd.prog 6 #[.agg (digA d 32), .string s] w fun e w' => e = .returned (.bool true) ∧ Below w.heap.size w w' := by
  by_cases h5 : 200 < s.size
  · exact shaTexts_long d s w ht hs h5
  · exact shaTexts_short d s w ht hd hs h5
end Go.Proofs.YtnenjljcopbdeaaDoor
