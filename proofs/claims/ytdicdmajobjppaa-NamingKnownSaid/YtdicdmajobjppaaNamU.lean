/- The walk of the law NamingParse. -/
import Derived.Test.YtdicdmajobjppaaNamT
namespace Go.Proofs.Ytdicdmajobjppaa
open Go.RowKit Go.BigFrame

def parH (s : ByteArray) : ByteArray := if okP s then headS s else ⟨#[]⟩
def parT (s : ByteArray) : ByteArray := if okP s then tailS s else ⟨#[]⟩
def parE (s : ByteArray) : Int := if okP s then 0 else 90
theorem parse_is (s : ByteArray) (w : World) (hs : s.size ≤ maxLen) :
    Calls Try.prog 18 #[.string s] w fun e w' => e = .returned (.tuple #[.string (parH s), .string (parT s), .int .i64 (parE s)]) ∧ Below w.heap.size w w' := by
  cases h : okP s
  · have := parse_no s w hs h
    simpa [parH, parT, parE, h] using this
  · have := parse_yes s w hs h
    simpa [parH, parT, parE, h] using this
theorem refParse_is (s : ByteArray) (w : World) (hs : s.size ≤ maxLen) :
    Calls Try.prog 19 #[.string s] w fun e w' => e = .returned (.tuple #[.string (parH s), .string (parT s), .int .i64 (parE s)]) ∧ Below w.heap.size w w' := by
  cases h : okP s
  · have := refParse_no s w hs h
    simpa [parH, parT, parE, h] using this
  · have := refParse_yes s w hs h
    simpa [parH, parT, parE, h] using this
theorem fitB_no (s : ByteArray) (d : Nat → Nat) (h : okP s = false) : fitB s d = false := by simp [fitB, h]
theorem fits_is (s : ByteArray) (d : Nat → Nat) (w : World) (hs : s.size ≤ maxLen) :
    Calls Try.prog 20 #[.string s, .agg (digA d 32)] w fun e w' => e = .returned (.bool (fitB s d)) ∧ Below w.heap.size w w' := by
  cases h : okP s
  · rw [fitB_no s d h]; exact fits_no s d w hs h
  · exact fits_yes s d w hs h
theorem refFits_is (s : ByteArray) (d : Nat → Nat) (hd : ∀ i, d i < 256) (w : World) (hs : s.size ≤ maxLen) :
    Calls Try.prog 21 #[.string s, .agg (digA d 32)] w fun e w' => e = .returned (.bool (fitB s d)) ∧ Below w.heap.size w w' := by
  cases h : okP s
  · rw [fitB_no s d h]; exact refFits_no s d w hs h
  · have := refFits_yes s d hd w hs h
    rw [fit_iff (headS s) d hd (okP_yes s h).2.2.1] at this
    rw [fitB, h, Bool.true_and]
    exact this

theorem namingParse_long (s : ByteArray) (d : Nat → Nat) (w : World) (hs : s.size ≤ maxLen) (h5 : 500 < s.size) :
    Calls Try.prog 6 #[.string s, .agg (digA d 32)] w fun e w' => e = .returned (.bool true) ∧ Below w.heap.size w w' := by
  unfold maxLen at hs
  go_enter Try.func6, Try.ntmps6
  go_upto_region 1 with (fail)
  obtain ⟨w1, hw1, hg1, hb1, hsz1⟩ := row_new w (.cells (digA d 32) 23)
  rw [← hw1]
  clear hw1
  go_wp2_with fail
  refine (works_any _).mono ?_
  rintro e w4 ⟨rfl, hb4⟩
  go_wp2_with fail
  go_ret
  exact ⟨rfl, below_step hb1 hb4 hb1.size⟩

set_option maxHeartbeats 1000000 in
theorem namingParse_short (s : ByteArray) (d : Nat → Nat) (w : World) (hs : s.size ≤ maxLen) (hd : ∀ i, d i < 256) (h5 : ¬ 500 < s.size) :
    Calls Try.prog 6 #[.string s, .agg (digA d 32)] w fun e w' => e = .returned (.bool true) ∧ Below w.heap.size w w' := by
  have HS := Lib.hid hs
  have HD := Lib.hid hd
  unfold maxLen at hs
  clear hd
  go_enter Try.func6, Try.ntmps6
  go_upto_region 1 with (fail)
  obtain ⟨w1, hw1, hg1, hb1, hsz1⟩ := row_new w (.cells (digA d 32) 23)
  rw [← hw1]
  clear hw1
  go_wp2_with fail
  refine (parse_is s _ HS.out).mono ?_
  rintro e w2 ⟨rfl, hb2⟩
  have hg2 := (hb2.block w.heap.size (by omega)).trans hg1
  have hB2 := below_step hb1 hb2 hb1.size
  have hlt2 : w.heap.size < w2.heap.size := by have := hb2.size; omega
  clear hg1 hb1 hb2 hsz1
  go_wp2_with fail
  refine (refParse_is s _ HS.out).mono ?_
  rintro e w3 ⟨rfl, hb3⟩
  have hr := range_digA _ _ _ _ _ _ ((hb3.block w.heap.size hlt2).trans hg2)
  have hB3 := below_step hB2 hb3 hB2.size
  have hlt : w.heap.size < w3.heap.size := by have := hb3.size; omega
  clear hg2 hB2 hb3 hlt2
  go_upto_region 5 with (fail)
  have hu := Try.underlying23
  have hi := info32c d
  refine wp_region_held (S := fun w' => w'.rangeAt w.heap.size 0 (cells d 32) ∧ w.heap.size < w'.heap.size) (by kernel_rfl) ?_
  refine wpAnyH_take (i := 0) rfl (by kernel_rfl) (by kernel_rfl) (by kernel_rfl) (fun _ _ _ h => h) (Or.inl ⟨by rfl, fun wx _ => run_move _ rfl wx⟩) ⟨hr, hlt⟩ ?_
  simp only [Act.put]
  refine wpAnyH_take (i := 1) rfl (by kernel_rfl) (by kernel_rfl) (by kernel_rfl) (fun _ _ _ h => h) (Or.inl ⟨by rfl, fun wx _ => run_move _ rfl wx⟩) ⟨hr, hlt⟩ ?_
  simp only [Act.put]
  refine wpAnyH_ready (rs := [2]) (by kernel_rfl) (by simp) ?_
  refine AllReadyH.cons rfl (fun K hK => ?_) AllReadyH.nil
  go_simp
  refine hK.out _ _ ⟨hr, hlt⟩ (fun _ => ?_)
  clear hK K
  refine wpAnyH_ready (rs := [3]) (by kernel_rfl) (by simp) ?_
  refine AllReadyH.cons rfl (fun K hK => ?_) AllReadyH.nil
  go_simp
  refine hK.out _ _ ⟨hr, hlt⟩ (fun _ => ?_)
  clear hK K
  refine wpAnyH_take (i := 4) rfl (by kernel_rfl) (by kernel_rfl) (by kernel_rfl) (fun _ _ _ h => h) (Or.inl ⟨by rfl, fun wx _ => run_move _ rfl wx⟩) ⟨hr, hlt⟩ ?_
  simp only [Act.put]
  refine wpAnyH_take (i := 5) rfl (by kernel_rfl) (by kernel_rfl) (by kernel_rfl) (fun _ _ _ h => h) (Or.inl ⟨by rfl, fun wx _ => run_move _ rfl wx⟩) ⟨hr, hlt⟩ ?_
  simp only [Act.put]
  refine wpAnyH_ready (rs := [6]) (by kernel_rfl) (by simp) ?_
  refine AllReadyH.cons rfl (fun K hK => ?_) AllReadyH.nil
  go_simp
  refine hK.out _ _ ⟨hr, hlt⟩ (fun _ => ?_)
  clear hK K
  refine wpAnyH_ready (rs := [7]) (by kernel_rfl) (by simp) ?_
  refine AllReadyH.cons rfl (fun K hK => ?_) AllReadyH.nil
  go_simp
  refine hK.out _ _ ⟨hr, hlt⟩ (fun _ => ?_)
  clear hK K
  refine wpAnyH_ready (rs := [8]) (by kernel_rfl) (by simp) ?_
  refine AllReadyH.cons rfl (fun K hK => ?_) AllReadyH.nil
  go_simp
  refine hK.out _ _ ⟨hr, hlt⟩ (fun _ => ?_)
  clear hK K
  refine wpAnyH_take (i := 9) rfl (by kernel_rfl) (by kernel_rfl) (by kernel_rfl) (fun _ _ _ h => h) (Or.inl ⟨by rfl, fun wx _ => run_move _ rfl wx⟩) ⟨hr, hlt⟩ ?_
  simp only [Act.put]
  refine wpAnyH_take (i := 10) rfl (by kernel_rfl) (by kernel_rfl) (by kernel_rfl) (fun _ _ _ h => h) (Or.inl ⟨by rfl, fun wx _ => run_move _ rfl wx⟩) ⟨hr, hlt⟩ ?_
  simp only [Act.put]
  refine wpAnyH_ready (rs := [11]) (by kernel_rfl) (by simp) ?_
  refine AllReadyH.cons rfl (fun K hK => ?_) AllReadyH.nil
  go_simp
  refine hK.out _ _ ⟨hr, hlt⟩ (fun _ => ?_)
  clear hK K
  refine wpAnyH_ready (rs := [12]) (by kernel_rfl) (by simp) ?_
  refine AllReadyH.cons rfl (fun K hK => ?_) AllReadyH.nil
  go_simp
  refine hK.out _ _ ⟨hr, hlt⟩ (fun _ => ?_)
  clear hK K
  refine wpAnyH_ready (rs := [13]) (by kernel_rfl) (by simp) ?_
  refine AllReadyH.cons rfl (fun K hK => ?_) AllReadyH.nil
  go_simp
  refine hK.out _ _ ⟨hr, hlt⟩ (fun _ => ?_)
  clear hK K
  refine wpAnyH_take (i := 14) rfl (by kernel_rfl) (by kernel_rfl) (by kernel_rfl) (fun _ _ _ h => h) (Or.inl ⟨by rfl, fun wx _ => run_move _ rfl wx⟩) ⟨hr, hlt⟩ ?_
  simp only [Act.put]
  refine wpAnyH_take (i := 15) rfl (by kernel_rfl) (by kernel_rfl) (by kernel_rfl) (fun _ _ _ h => h) (yieldsIf_load_mid (by rfl) 23 _ rfl w.heap.size 0 rfl (cells d 32) _ (fun w' h => h.1) hu rfl hi) ⟨hr, hlt⟩ ?_
  simp only [Act.put]
  refine wpAnyH_take (i := 17) rfl (by kernel_rfl) (by kernel_rfl) (by kernel_rfl) (fun _ _ _ h => h) (Or.inl ⟨by rfl, fun wx _ => run_move _ rfl wx⟩) ⟨hr, hlt⟩ ?_
  simp only [Act.put]
  refine wpAnyH_take (i := 18) rfl (by kernel_rfl) (by kernel_rfl) (by kernel_rfl) (fun _ _ _ h => h) (yieldsIf_load_mid (by rfl) 23 _ rfl w.heap.size 0 rfl (cells d 32) _ (fun w' h => h.1) hu rfl hi) ⟨hr, hlt⟩ ?_
  simp only [Act.put]
  refine wpAnyH_ready (rs := [16]) (by kernel_rfl) (by simp) ?_
  refine AllReadyH.cons rfl (fun K hK => ?_) AllReadyH.nil
  go_simp
  refine (fits_is s d _ HS.out).mono ?_
  rintro e w5 ⟨rfl, hb5⟩
  refine hK.out _ _ ⟨range_below hb5 hlt hr, Nat.lt_of_lt_of_le hlt hb5.size⟩ (fun hH5 => ?_)
  clear hK K
  refine wpAnyH_ready (rs := [19]) (by kernel_rfl) (by simp) ?_
  refine AllReadyH.cons rfl (fun K hK => ?_) AllReadyH.nil
  go_simp
  refine (refFits_is s d HD.out _ HS.out).mono ?_
  rintro e w6 ⟨rfl, hb6⟩
  refine hK.out _ _ ⟨range_below hb6 hH5.2 hH5.1, Nat.lt_of_lt_of_le hH5.2 hb6.size⟩ (fun hH6 => ?_)
  clear hK K
  refine wpAnyH_ready (rs := [20]) (by kernel_rfl) (by simp) ?_
  refine AllReadyH.cons rfl (fun K hK => ?_) AllReadyH.nil
  go_simp
  refine hK.out _ _ hH6 (fun _ => ?_)
  clear hK K
  refine wpAnyH_ready (rs := [21]) (by kernel_rfl) (by simp) ?_
  refine AllReadyH.cons rfl (fun K hK => ?_) AllReadyH.nil
  go_simp
  refine hK.out _ _ hH6 (fun _ => ?_)
  clear hK K
  refine wpAnyH_ready (rs := [22]) (by kernel_rfl) (by simp) ?_
  refine AllReadyH.cons rfl (fun K hK => ?_) AllReadyH.nil
  go_simp
  refine hK.out _ _ hH6 (fun _ => ?_)
  clear hK K
  refine wpAnyH_ready (rs := [23]) (by kernel_rfl) (by simp) ?_
  refine AllReadyH.cons rfl (fun K hK => ?_) AllReadyH.nil
  go_simp
  refine (works_any _).mono ?_
  rintro e w7 ⟨rfl, hb7⟩
  refine hK.out _ _ ⟨range_below hb7 hH6.2 hH6.1, Nat.lt_of_lt_of_le hH6.2 hb7.size⟩ (fun hH7 => ?_)
  clear hK K
  refine wpAnyH_ready (rs := [24]) (by kernel_rfl) (by simp) ?_
  refine AllReadyH.cons rfl (fun K hK => ?_) AllReadyH.nil
  go_simp
  refine hK.out _ _ hH7 (fun _ => ?_)
  clear hK K
  refine wpAnyH_ready (rs := [25]) (by kernel_rfl) (by simp) ?_
  refine AllReadyH.cons rfl (fun K hK => ?_) AllReadyH.nil
  go_simp
  refine hK.out _ _ hH7 (fun _ => ?_)
  clear hK K
  refine wpAnyH_done (by kernel_rfl) ?_ _
  go_wp2
  go_ret
  exact ⟨rfl, below_step (below_step (below_step hB3.drew hb5 hB3.size) hb6 (Nat.le_of_lt hH5.2)) hb7 (Nat.le_of_lt hH6.2)⟩
theorem namingParse_walk (s : ByteArray) (d : Nat → Nat) (w : World) (hs : s.size ≤ maxLen) (hd : ∀ i, d i < 256) :
    Calls Try.prog 6 #[.string s, .agg (digA d 32)] w fun e w' => e = .returned (.bool true) ∧ Below w.heap.size w w' := by
  by_cases h5 : 500 < s.size
  · exact namingParse_long s d w hs h5
  · exact namingParse_short s d w hs hd h5
end Go.Proofs.Ytdicdmajobjppaa
