/- The walk of the law NamingName. -/
import Derived.Test.YtdicdmajobjppaaNamS
namespace Go.Proofs.Ytdicdmajobjppaa
open Go.RowKit

set_option maxHeartbeats 400000 in
theorem namingName_yes (d : Nat → Nat) (s : ByteArray) (w : World) (hd : ∀ i, d i < 256) (hs : s.size ≤ maxLen) (h5 : ¬ 500 < s.size) (h : rightB s = true) :
    Calls Try.prog 5 #[.agg (digA d 32), .string s] w fun e w' => e = .returned (.bool true) ∧ Below w.heap.size w w' := by
  have HS := Lib.hid hs
  have HD := Lib.hid hd
  have HR := Lib.hid h
  unfold maxLen at hs
  clear hd h
  go_enter Try.func5, Try.ntmps5
  go_upto_region 1 with (fail)
  obtain ⟨w1, hw1, hg1, hb1, hsz1⟩ := row_new w (.cells (digA d 32) 23)
  rw [← hw1]
  clear hw1
  go_wp2_with (refine wpList_load_row rfl 23 _ rfl w.heap.size rfl 23 _ (0, 0) _ hg1 Try.underlying23 rfl (by rw [digA_size]; exact info32) ?_)
  refine (name_yes d HD.out s _ HS.out HR.out).mono ?_
  rintro e w2 ⟨rfl, hb2⟩
  have hg2 := (hb2.block w.heap.size (by omega)).trans hg1
  have hB2 := below_step hb1 hb2 hb1.size
  have hlt2 : w.heap.size < w2.heap.size := by have := hb2.size; omega
  clear hg1 hb1 hb2 hsz1
  go_wp2_with (refine wpList_load_row rfl 23 _ rfl w.heap.size rfl 23 _ (0, 0) _ hg2 Try.underlying23 rfl (by rw [digA_size]; exact info32) ?_)
  refine (refName_yes d HD.out s _ HS.out HR.out).mono ?_
  rintro e w3 ⟨rfl, hb3⟩
  have hB3 := below_step hB2 hb3 hB2.size
  clear hg2 hB2 hb3 hlt2
  go_wp2_with fail
  refine (right_is true s _ HS.out HR.out).mono ?_
  rintro e w' ⟨rfl, rfl⟩
  go_wp2_with fail
  refine (refRight_is true s _ HS.out HR.out).mono ?_
  rintro e w' ⟨rfl, rfl⟩
  go_wp2_with fail
  refine (works_any _).mono ?_
  rintro e w4 ⟨rfl, hb4⟩
  go_wp2_with fail
  go_ret
  exact ⟨rfl, below_step hB3 hb4 hB3.size⟩

set_option maxHeartbeats 400000 in
theorem namingName_no (d : Nat → Nat) (s : ByteArray) (w : World) (hd : ∀ i, d i < 256) (hs : s.size ≤ maxLen) (h5 : ¬ 500 < s.size) (h : rightB s = false) :
    Calls Try.prog 5 #[.agg (digA d 32), .string s] w fun e w' => e = .returned (.bool true) ∧ Below w.heap.size w w' := by
  have HS := Lib.hid hs
  have HD := Lib.hid hd
  have HR := Lib.hid h
  unfold maxLen at hs
  clear hd h
  go_enter Try.func5, Try.ntmps5
  go_upto_region 1 with (fail)
  obtain ⟨w1, hw1, hg1, hb1, hsz1⟩ := row_new w (.cells (digA d 32) 23)
  rw [← hw1]
  clear hw1
  go_wp2_with (refine wpList_load_row rfl 23 _ rfl w.heap.size rfl 23 _ (0, 0) _ hg1 Try.underlying23 rfl (by rw [digA_size]; exact info32) ?_)
  refine (name_no d s _ HS.out HR.out).mono ?_
  rintro e w2 ⟨rfl, hb2⟩
  have hg2 := (hb2.block w.heap.size (by omega)).trans hg1
  have hB2 := below_step hb1 hb2 hb1.size
  have hlt2 : w.heap.size < w2.heap.size := by have := hb2.size; omega
  clear hg1 hb1 hb2 hsz1
  go_wp2_with (refine wpList_load_row rfl 23 _ rfl w.heap.size rfl 23 _ (0, 0) _ hg2 Try.underlying23 rfl (by rw [digA_size]; exact info32) ?_)
  refine (refName_no d s _ HS.out HR.out).mono ?_
  rintro e w3 ⟨rfl, hb3⟩
  have hB3 := below_step hB2 hb3 hB2.size
  clear hg2 hB2 hb3 hlt2
  go_wp2_with fail
  refine (right_is false s _ HS.out HR.out).mono ?_
  rintro e w' ⟨rfl, rfl⟩
  go_wp2_with fail
  refine (refRight_is false s _ HS.out HR.out).mono ?_
  rintro e w' ⟨rfl, rfl⟩
  go_wp2_with fail
  refine (works_any _).mono ?_
  rintro e w4 ⟨rfl, hb4⟩
  go_wp2_with fail
  go_ret
  exact ⟨rfl, below_step hB3 hb4 hB3.size⟩

set_option maxHeartbeats 400000 in
theorem namingName_long (d : Nat → Nat) (s : ByteArray) (w : World) (hs : s.size ≤ maxLen) (h5 : 500 < s.size) :
    Calls Try.prog 5 #[.agg (digA d 32), .string s] w fun e w' => e = .returned (.bool true) ∧ Below w.heap.size w w' := by
  unfold maxLen at hs
  go_enter Try.func5, Try.ntmps5
  go_upto_region 1 with (fail)
  obtain ⟨w1, hw1, hg1, hb1, hsz1⟩ := row_new w (.cells (digA d 32) 23)
  rw [← hw1]
  clear hw1
  go_wp2_with fail
  refine (works_any _).mono ?_
  rintro e w4 ⟨rfl, hb4⟩
  go_wp2_with fail
  go_ret
  exact ⟨rfl, below_step hb1 hb4 hb1.size⟩
theorem namingName_walk (d : Nat → Nat) (s : ByteArray) (w : World) (hd : ∀ i, d i < 256) (hs : s.size ≤ maxLen) :
    Calls Try.prog 5 #[.agg (digA d 32), .string s] w fun e w' => e = .returned (.bool true) ∧ Below w.heap.size w w' := by
  by_cases h5 : 500 < s.size
  · exact namingName_long d s w hs h5
  · cases h : rightB s
    · exact namingName_no d s w hd hs h5 h
    · exact namingName_yes d s w hd hs h5 h
end Go.Proofs.Ytdicdmajobjppaa
