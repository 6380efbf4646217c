/- The chapter's examples: works answers true. -/
import Derived.Test.YtjckcdemkpmheaaDoorRngAb
namespace Go.Proofs.YtjckcdemkpmheaaDoor
open Go.RowKit Go.BigFrame

theorem rparse_yes (s : ByteArray) (w : World) (hs : s.size ≤ 1000000) (hm : mayR (rowsB s) = true) : Calls Tryd.prog 10 #[.string s] w (PRYes s w) :=
  (rparse_any s w hs).mono fun _ _ h => by unfold PR at h; rwa [if_pos hm] at h
theorem rparse_no (s : ByteArray) (w : World) (hs : s.size ≤ 1000000) (hm : mayR (rowsB s) = false) : Calls Tryd.prog 10 #[.string s] w (PRNo w) :=
  (rparse_any s w hs).mono fun _ _ h => by unfold PR at h; rwa [hm, if_neg (by simp)] at h
theorem allow_is (b : Bool) (r : List (List Bd)) (v : Value) (s : ByteArray) (w : World) (h : RngAt w v r) (hsz : Short r) (hs : s.size ≤ 1000000) (he : allowR r s = b) :
    Calls Tryd.prog 16 #[v, .string s] w fun e w' => e = .returned (.bool b) ∧ Below w.heap.size w w' := he ▸ allow_any r v s w h hsz hs
theorem print_is (t : ByteArray) (z : Int) (r : List (List Bd)) (v : Value) (w : World) (h : RngAt w v r) (hsz : Short r) (he : prS r = t ∧ prE r = z) :
    Calls Tryd.prog 14 #[v] w fun e w' => e = .returned (.tuple #[.string t, .int .i64 z]) ∧ Below w.heap.size w w' := he.1 ▸ he.2 ▸ print_any r v w h hsz
theorem best_is (z : Int) (r : List (List Bd)) (v lv : Value) (l : List ByteArray) (w : World) (h : RngAt w v r) (hl : Reads w w.heap.size lv (strs l)) (hsz : Short r) (hs : ∀ s ∈ l, s.size ≤ 1000000) (he : bestR r l = z) :
    Calls Tryd.prog 18 #[v, lv] w fun e w' => e = .returned (.int .i64 z) ∧ Below w.heap.size w w' := he ▸ best_any r v lv l w h hl hsz hs
theorem reads_new (w : World) (cs : Array Value) (T : TypeId) (xs : List Value) (h : cs.toList = xs) (hn : xs.length ≤ 1000) : Reads (w.alloc (.cells cs T)) (w.alloc (.cells cs T)).heap.size (.slice (some ⟨w.heap.size, 0, none⟩) xs.length xs.length) xs :=
  ⟨_, _, rfl, Nat.le_refl _, by unfold maxLen; omega, (fun h => by cases h), fun _ => ⟨_, rfl, by simp, fun j u hu => row_cells (heap_alloc_new w (.cells cs T)) j u (by rw [← hu, ← h]; simp)⟩⟩
theorem sh1 : Short (rowsB g1) := rows_short g1 (by decide)
theorem sh2 : Short (rowsB g2) := rows_short g2 (by decide)
theorem sh3 : Short (rowsB g3) := rows_short g3 (by decide)
theorem l4_ : ∀ s ∈ [v12, v2, v19, v19], s.size ≤ 1000000 := by decide
set_option maxRecDepth 100000 in
set_option maxHeartbeats 4000000 in
theorem works_any (w : World) : Calls Tryd.prog 9 #[] w fun e w' => e = .returned (.bool true) ∧ Below w.heap.size w w' := by
  go_enter Tryd.func9, Tryd.ntmps9
  go_wp2_with fail
  refine (rparse_yes g1 _ (by decide) m1_).mono ?_
  rintro e w1 ⟨u1, rfl, hr1, hb1⟩
  go_wp2_with fail
  refine (rparse_yes g2 _ (by decide) m2_).mono ?_
  rintro e w2 ⟨u2, rfl, hr2, hb2⟩
  replace hr1 := hr1.below hb2
  replace hb1 := below_step hb1 hb2 hb1.size
  clear hb2
  go_wp2_with fail
  refine (rparse_yes g3 _ (by decide) m3_).mono ?_
  rintro e w3 ⟨u3, rfl, hr3, hb3⟩
  replace hr1 := hr1.below hb3
  replace hr2 := hr2.below hb3
  replace hb1 := below_step hb1 hb3 hb1.size
  clear hb3
  go_wp2_with fail
  refine (rparse_no g4 _ (by decide) m4_).mono ?_
  rintro e w4 ⟨rfl, hb4⟩
  replace hr1 := hr1.below hb4
  replace hr2 := hr2.below hb4
  replace hr3 := hr3.below hb4
  replace hb1 := below_step hb1 hb4 hb1.size
  clear hb4
  go_wp2_with fail
  refine (print_is ⟨#[62, 61, 49, 46, 50, 44, 60, 50]⟩ 0 (rowsB g1) _ _ hr1 sh1 p1_).mono ?_
  rintro e w5 ⟨rfl, hb5⟩
  replace hr1 := hr1.below hb5
  replace hr2 := hr2.below hb5
  replace hr3 := hr3.below hb5
  replace hb1 := below_step hb1 hb5 hb1.size
  clear hb5
  go_wp2_with fail
  refine (allow_is true _ _ v199 _ hr1 sh1 (by decide) a1_.1).mono ?_
  rintro e w6 ⟨rfl, hb6⟩
  replace hr1 := hr1.below hb6
  replace hr2 := hr2.below hb6
  replace hr3 := hr3.below hb6
  replace hb1 := below_step hb1 hb6 hb1.size
  clear hb6
  go_wp2_with fail
  refine (allow_is false _ _ v2 _ hr1 sh1 (by decide) a1_.2.1).mono ?_
  rintro e w7 ⟨rfl, hb7⟩
  replace hr1 := hr1.below hb7
  replace hr2 := hr2.below hb7
  replace hr3 := hr3.below hb7
  replace hb1 := below_step hb1 hb7 hb1.size
  clear hb7
  go_wp2_with fail
  refine (allow_is false _ _ v12r _ hr1 sh1 (by decide) a1_.2.2).mono ?_
  rintro e w8 ⟨rfl, hb8⟩
  replace hr1 := hr1.below hb8
  replace hr2 := hr2.below hb8
  replace hr3 := hr3.below hb8
  replace hb1 := below_step hb1 hb8 hb1.size
  clear hb8
  go_wp2_with fail
  refine (allow_is true _ _ v1210 _ hr2 sh2 (by decide) a2_.1).mono ?_
  rintro e w9 ⟨rfl, hb9⟩
  replace hr1 := hr1.below hb9
  replace hr2 := hr2.below hb9
  replace hr3 := hr3.below hb9
  replace hb1 := below_step hb1 hb9 hb1.size
  clear hb9
  go_wp2_with fail
  refine (allow_is false _ _ v13 _ hr2 sh2 (by decide) a2_.2).mono ?_
  rintro e w10 ⟨rfl, hb10⟩
  replace hr1 := hr1.below hb10
  replace hr2 := hr2.below hb10
  replace hr3 := hr3.below hb10
  replace hb1 := below_step hb1 hb10 hb1.size
  clear hb10
  go_wp2_with fail
  refine (allow_is true _ _ v31 _ hr3 sh3 (by decide) a3_.1).mono ?_
  rintro e w11 ⟨rfl, hb11⟩
  replace hr1 := hr1.below hb11
  replace hr2 := hr2.below hb11
  replace hr3 := hr3.below hb11
  replace hb1 := below_step hb1 hb11 hb1.size
  clear hb11
  go_wp2_with fail
  refine (allow_is false _ _ v10 _ hr3 sh3 (by decide) a3_.2).mono ?_
  rintro e w12 ⟨rfl, hb12⟩
  replace hr1 := hr1.below hb12
  replace hr2 := hr2.below hb12
  replace hr3 := hr3.below hb12
  replace hb1 := below_step hb1 hb12 hb1.size
  clear hb12
  go_wp2_with fail
  have hal := (Below.refl w12.heap.size w12).alloc (Nat.le_refl _) (.cells #[.string v12, .string v2, .string v19, .string v19] 9)
  refine (best_is 2 _ _ _ [v12, v2, v19, v19] _ (hr1.below hal) (reads_new w12 _ _ (strs [v12, v2, v19, v19]) rfl (by decide)) sh1 l4_ b1_.1).mono ?_
  rintro e w13 ⟨rfl, hb13⟩
  replace hr1 := (hr1.below hal).below hb13
  replace hb1 := below_step (below_step hb1 hal hb1.size) hb13 (Nat.le_trans hb1.size hal.size)
  clear hb13 hal hr2 hr3
  go_wp2_with fail
  refine (best_is (-1) _ _ _ [] _ hr1 (Reads.nil _ _) sh1 (by simp) b1_.2).mono ?_
  rintro e w14 ⟨rfl, hb14⟩
  go_wp2
  go_ret
  exact ⟨rfl, below_step hb1 hb14 hb1.size⟩
end Go.Proofs.YtjckcdemkpmheaaDoor
