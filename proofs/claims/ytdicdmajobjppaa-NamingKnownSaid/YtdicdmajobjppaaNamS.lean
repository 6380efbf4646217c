/- The walk of the law NamingLetters. -/
import Derived.Test.YtdicdmajobjppaaNamR
import Derived.Deep.RegionHeld3
namespace Go.Proofs.Ytdicdmajobjppaa
open Go.RowKit

theorem range_below {g : Nat} {a b : World} {cs : List Value} (k : Below a.heap.size a b) (hg : g < a.heap.size) (h : a.rangeAt g 0 cs) : b.rangeAt g 0 cs := fun j v hv => by
  rw [k.cell (p := ⟨g, 0 + j, none⟩) hg]
  exact h j v hv
theorem range_digA (w : World) (g : Nat) (d : Nat → Nat) (n : Nat) (t : TypeId) (fr : Nat × Nat) (hg : w.heap[g]? = some (.cells (digA d n) t fr)) : w.rangeAt g 0 (cells d n) :=
  range_of_row _ _ _ _ _ _ hg (cells_pre _ _ _ (Nat.le_refl _))

theorem info32c (d : Nat → Nat) : (Try.prog.info? 23).map (·.size) = some (cells d 32).length := by rw [cells_len]; exact info32

set_option maxHeartbeats 400000 in
theorem namingLetters_walk (d : Nat → Nat) (w : World) (hd : ∀ i, d i < 256) :
    Calls Try.prog 3 #[.agg (digA d 32)] w fun e w' => e = .returned (.bool true) ∧ Below w.heap.size w w' := by
  have HD := Lib.hid hd
  clear hd
  go_enter Try.func3, Try.ntmps3
  go_upto_region 1 with (fail)
  obtain ⟨w1, hw1, hg1, hb1, hsz1⟩ := row_new w (.cells (digA d 32) 23)
  rw [← hw1]
  clear hw1
  have hr := range_digA _ _ _ _ _ _ hg1
  have hlt : w.heap.size < w1.heap.size := by omega
  have hu := Try.underlying23
  have hi := info32c d
  refine wp_region_held (S := fun w' => w'.rangeAt w.heap.size 0 (cells d 32) ∧ w.heap.size < w'.heap.size) (by kernel_rfl) ?_
  refine wpAnyH_take (i := 0) rfl (by kernel_rfl) (by kernel_rfl) (by kernel_rfl) (fun _ _ _ h => h) (yieldsIf_load_mid (by rfl) 23 _ rfl w.heap.size 0 rfl (cells d 32) _ (fun w' h => h.1) hu rfl hi) ⟨hr, hlt⟩ ?_
  simp only [Act.put, List.setIfInBounds_toArray]
  refine wpAnyH_take (i := 2) rfl (by kernel_rfl) (by kernel_rfl) (by kernel_rfl) (fun _ _ _ h => h) (yieldsIf_load_mid (by rfl) 23 _ rfl w.heap.size 0 rfl (cells d 32) _ (fun w' h => h.1) hu rfl hi) ⟨hr, hlt⟩ ?_
  simp only [Act.put]
  refine wpAnyH_ready (rs := [1]) (by kernel_rfl) (by simp) ?_
  refine AllReadyH.cons rfl (fun K hK => ?_) AllReadyH.nil
  go_simp
  refine (letters_is d HD.out _).mono ?_
  rintro e w2 ⟨rfl, hb2⟩
  refine hK.out _ _ ⟨range_below hb2 hlt hr, Nat.lt_of_lt_of_le hlt hb2.size⟩ (fun hH => ?_)
  clear hK K
  refine wpAnyH_ready (rs := [3]) (by kernel_rfl) (by simp) ?_
  refine AllReadyH.cons rfl (fun K hK => ?_) AllReadyH.nil
  go_simp
  refine (refLetters_is d HD.out _).mono ?_
  rintro e w3 ⟨rfl, hb3⟩
  refine hK.out _ _ ⟨range_below hb3 hH.2 hH.1, Nat.lt_of_lt_of_le hH.2 hb3.size⟩ (fun hH3 => ?_)
  clear hK K
  refine wpAnyH_ready (rs := [4]) (by kernel_rfl) (by simp) ?_
  refine AllReadyH.cons rfl (fun K hK => ?_) AllReadyH.nil
  go_simp
  refine hK.out _ _ hH3 (fun _ => ?_)
  clear hK K
  refine wpAnyH_ready (rs := [5]) (by kernel_rfl) (by simp) ?_
  refine AllReadyH.cons rfl (fun K hK => ?_) AllReadyH.nil
  go_simp
  refine hK.out _ _ hH3 (fun _ => ?_)
  clear hK K
  refine wpAnyH_ready (rs := [6]) (by kernel_rfl) (by simp) ?_
  refine AllReadyH.cons rfl (fun K hK => ?_) AllReadyH.nil
  go_simp
  refine (works_any _).mono ?_
  rintro e w4 ⟨rfl, hb4⟩
  refine hK.out _ _ ⟨range_below hb4 hH3.2 hH3.1, Nat.lt_of_lt_of_le hH3.2 hb4.size⟩ (fun hH4 => ?_)
  clear hK K
  refine wpAnyH_ready (rs := [7]) (by kernel_rfl) (by simp) ?_
  refine AllReadyH.cons rfl (fun K hK => ?_) AllReadyH.nil
  go_simp
  refine hK.out _ _ hH4 (fun _ => ?_)
  clear hK K
  refine wpAnyH_ready (rs := [8]) (by kernel_rfl) (by simp) ?_
  refine AllReadyH.cons rfl (fun K hK => ?_) AllReadyH.nil
  go_simp
  refine hK.out _ _ hH4 (fun _ => ?_)
  clear hK K
  refine wpAnyH_done (by kernel_rfl) ?_ _
  go_wp2
  go_ret
  exact ⟨rfl, below_step (below_step (below_step hb1.drew hb2 hb1.size) hb3 (Nat.le_of_lt hH.2)) hb4 (Nat.le_of_lt hH3.2)⟩
end Go.Proofs.Ytdicdmajobjppaa
