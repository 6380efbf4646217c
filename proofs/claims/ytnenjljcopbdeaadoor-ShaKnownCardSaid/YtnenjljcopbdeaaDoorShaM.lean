/- The walk of the law ShaBack. -/
import Derived.Test.YtnenjljcopbdeaaDoorShaK
namespace Go.Proofs.YtnenjljcopbdeaaDoor
open Go.RowKit Go.BigFrame

theorem row_new (w : World) (o : Obj) : ∃ w1, w1 = w.alloc o ∧ w1.heap[w.heap.size]? = some o ∧ Below w.heap.size w w1 ∧ w1.heap.size = w.heap.size + 1 :=
  ⟨_, rfl, heap_alloc_new w _, (Below.refl _ _).alloc (Nat.le_refl _) _, by simp⟩
theorem read_is (b : Bool) (s : ByteArray) (w : World) (hs : s.size ≤ maxLen) (h : okR s = b) :
    Calls Tryd.prog 17 #[.string s] w fun e w' => e = .returned (.tuple #[.agg (digA (rdD s) 32), .bool b]) ∧ Below w.heap.size w w' := h ▸ read_any s w hs
theorem rdD_lt (s : ByteArray) (i : Nat) : rdD s i < 256 := by unfold rdD; split; exact rdB_lt s i; decide

theorem shaBack_long (d : Nat → Nat) (s : ByteArray) (w : World) (ht : Tabs w) (hs : s.size ≤ maxLen) (h5 : 200 < s.size) :
    Calls Tryd.prog 8 #[.agg (digA d 32), .string s] w fun e w' => e = .returned (.bool true) ∧ Below w.heap.size w w' := by
  have HT := Lib.hid ht
  clear ht
  unfold maxLen at hs
  go_enter Tryd.func8, Tryd.ntmps8
  go_upto_region 1 with (fail)
  obtain ⟨w1, hw1, hg1, hb1, hsz1⟩ := row_new w (.cells (digA d 32) 33)
  rw [← hw1]
  clear hw1
  go_wp2_with fail
  refine (works_any _ (HT.out.below hb1)).mono ?_
  rintro e w4 ⟨rfl, hb4⟩
  go_wp2_with fail
  go_ret
  exact ⟨rfl, below_step hb1 hb4 hb1.size⟩

set_option maxRecDepth 100000 in
set_option maxHeartbeats 1000000 in
theorem shaBack_short (d : Nat → Nat) (s : ByteArray) (w : World) (ht : Tabs w) (hd : ∀ i, d i < 256) (hs : s.size ≤ maxLen) (h5 : ¬ 200 < s.size) :
    Calls Tryd.prog 8 #[.agg (digA d 32), .string s] w fun e w' => e = .returned (.bool true) ∧ Below w.heap.size w w' := by
  have HT := Lib.hid ht
  have HS := Lib.hid hs
  have HD := Lib.hid hd
  unfold maxLen at hs
  clear ht hd
  go_enter Tryd.func8, Tryd.ntmps8
  go_upto_region 1 with (fail)
  obtain ⟨w1, hw1, hg1, hb1, hsz1⟩ := row_new w (.cells (digA d 32) 33)
  rw [← hw1]
  clear hw1
  go_wp2_with (refine wpList_load_row rfl 33 _ rfl w.heap.size rfl 33 _ (0, 0) _ hg1 Tryd.underlying33 rfl (by rw [digA_size]; exact info32) ?_)
  refine (hex_any d HD.out _).mono ?_
  rintro e w2 ⟨rfl, hb2⟩
  have hg2 := (hb2.block w.heap.size (block_lt hg1)).trans hg1
  have hB2 := below_step hb1 hb2 hb1.size
  clear hg1 hb1 hb2 hsz1
  go_wp2_with fail
  refine (read_is true (hexS d) _ (by rw [hexS_size]; decide) (okR_hexS d HD.out)).mono ?_
  rintro e w3 ⟨rfl, hb3⟩
  have hg3 := (hb3.block w.heap.size (block_lt hg2)).trans hg2
  have hB3 := below_step hB2 hb3 hB2.size
  have hz3 : w.heap.size < w3.heap.size := block_lt hg3
  clear hg2 hB2 hb3
  go_upto_region 4 with (refine wpList_store_row rfl 33 _ _ rfl w3.heap.size (digA (rdD (hexS d)) 32) rfl rfl 33 _ (heap_alloc_new _ _) (by rw [digA_size]; exact info32) (by rw [digA_size]; rfl) (digA_ok _ _) ?_)
  rw [zeros32]
  obtain ⟨w4, hw4, hgE, hold, hB4, hz4⟩ := row_put w.heap.size w w3 (digA (fun _ => 0) 32) (digA (rdD (hexS d)) 32) 33 hB3 (by omega)
  rw [← hw4]
  have hg4 := (hold w.heap.size hz3).trans hg3
  clear hw4 hold hB3 hg3
  have heq := fun wx => (run_equal_dig wx (rdD (hexS d)) d).trans (by rw [sameB_of 32 _ _ (fun i hi => rdD_hexS d HD.out i hi)])
  go_wp2_with (first | (refine wpList_load_row_g rfl 33 _ rfl w3.heap.size rfl 33 _ (0, 0) _ hgE Tryd.underlying33 rfl (by rw [digA_size]; exact info32) ?_) | (refine wpList_load_row_g rfl 33 _ rfl w.heap.size rfl 33 _ (0, 0) _ hg4 Tryd.underlying33 rfl (by rw [digA_size]; exact info32) ?_))
  clear heq hgE hg4 hz4 hz3
  cases hok : okR s
  · have HOK := Lib.hid hok
    clear hok
    refine (read_is false s _ HS.out HOK.out).mono ?_
    rintro e w5 ⟨rfl, hb5⟩
    have hB5 := below_step hB4 hb5 hB4.size
    clear hB4 hb5
    go_upto_region 7 with (refine wpList_store_row rfl 33 _ _ rfl w5.heap.size (digA (rdD s) 32) rfl rfl 33 _ (heap_alloc_new _ _) (by rw [digA_size]; exact info32) (by rw [digA_size]; rfl) (digA_ok _ _) ?_)
    rw [zeros32]
    obtain ⟨w6, hw6, hgF, hold6, hB6, hz6⟩ := row_put w.heap.size w w5 (digA (fun _ => 0) 32) (digA (rdD s) 32) 33 hB5 hB5.size
    rw [← hw6]
    clear hw6 hold6 hB5
    have heq2 := fun wx => (run_equal_dig wx (rdD s) (fun _ => 0)).trans (by rw [sameB_of 32 _ _ (fun i _ => by simp [rdD, HOK.out])])
    rw [← zeros32] at heq2
    go_wp2_with (refine wpList_load_row_g rfl 33 _ rfl w5.heap.size rfl 33 _ (0, 0) _ hgF Tryd.underlying33 rfl (by rw [digA_size]; exact info32) ?_)
    refine (works_any _ (HT.out.below hB6)).mono ?_
    rintro e w7 ⟨rfl, hb7⟩
    go_wp2_with fail
    go_ret
    exact ⟨rfl, below_step hB6 hb7 hB6.size⟩
  · have HOK := Lib.hid hok
    clear hok
    refine (read_is true s _ HS.out HOK.out).mono ?_
    rintro e w5 ⟨rfl, hb5⟩
    have hB5 := below_step hB4 hb5 hB4.size
    clear hB4 hb5
    go_upto_region 7 with (refine wpList_store_row rfl 33 _ _ rfl w5.heap.size (digA (rdD s) 32) rfl rfl 33 _ (heap_alloc_new _ _) (by rw [digA_size]; exact info32) (by rw [digA_size]; rfl) (digA_ok _ _) ?_)
    rw [zeros32]
    obtain ⟨w6, hw6, hgF, hold6, hB6, hz6⟩ := row_put w.heap.size w w5 (digA (fun _ => 0) 32) (digA (rdD s) 32) 33 hB5 hB5.size
    rw [← hw6]
    clear hw6 hold6 hB5
    go_wp2_with (refine wpList_load_row_g rfl 33 _ rfl w5.heap.size rfl 33 _ (0, 0) _ hgF Tryd.underlying33 rfl (by rw [digA_size]; exact info32) ?_)
    refine (hex_any (rdD s) (rdD_lt s) _).mono ?_
    rintro e w7 ⟨rfl, hb7⟩
    have hB7 := below_step hB6 hb7 hB6.size
    rw [hexS_rdD s HOK.out]
    clear hgF hB6 hb7 hz6
    go_wp2_with fail
    refine (works_any _ (HT.out.below hB7)).mono ?_
    rintro e w8 ⟨rfl, hb8⟩
    go_wp2_with fail
    go_ret
    exact ⟨rfl, below_step hB7 hb8 hB7.size⟩
theorem shaBack_walk (d : Nat → Nat) (s : ByteArray) (w : World) (ht : Tabs w) (hd : ∀ i, d i < 256) (hs : s.size ≤ maxLen) :
    Calls Tryd.prog 8 #[.agg (digA d 32), .string s] w fun e w' => e = .returned (.bool true) ∧ Below w.heap.size w w' := by
  by_cases h5 : 200 < s.size
  · exact shaBack_long d s w ht hs h5
  · exact shaBack_short d s w ht hd hs h5
end Go.Proofs.YtnenjljcopbdeaaDoor
