/- The walk of the law VersionParse. -/
import Derived.Test.YtijepjoklmblhaaDoorVerW
namespace Go.Proofs.YtijepjoklmblhaaDoor
open Go.RowKit Go.BigFrame
open Ver (prs cmpV BL)

set_option maxRecDepth 100000 in
set_option maxHeartbeats 1000000 in
theorem versionParse_walk (s : ByteArray) (w : World) (hs : s.size ≤ maxLen) :
    Calls Tryd.prog 14 #[.string s] w fun e w' => e = .returned (.bool true) ∧ Below w.heap.size w w' := by
  unfold maxLen at hs
  by_cases h5 : 500 < s.size
  · go_enter Tryd.func14, Tryd.ntmps14
    go_wp2_with (go_at_call 6; refine (works_any _).mono ?_; rintro e w' ⟨rfl, hb⟩)
    go_ret
    exact ⟨rfl, hb⟩
  · cases ho : okS s
    · have HO := Lib.hid ho
      clear ho
      go_enter Tryd.func14, Tryd.ntmps14
      go_wp2_with fail
      refine (parse_no s _ (by omega) HO.out).mono ?_
      rintro e w1 ⟨rfl, hb1⟩
      go_upto_region 4 with (fail)
      obtain ⟨w2, hw2, hg2, hb12, hz2, hb2⟩ := row_at w w1 (.cells #[.slice none 0 0, .string ⟨#[]⟩] 24) hb1
      rw [← hw2]
      clear hw2 hb12 hb1
      go_wp2_with fail
      refine (refParse_no s _ (by omega) HO.out).mono ?_
      rintro e w3 ⟨rfl, hb3⟩
      go_upto_region 5 with (fail)
      have hg3 := (hb3.block w1.heap.size (by omega)).trans hg2
      have hb3' := below_step hb2 hb3 hb2.size
      obtain ⟨w4, hw4, hg4, hb34, hz4, hb4⟩ := row_at w w3 (.cells #[.slice none 0 0, .string ⟨#[]⟩] 30) hb3'
      have hg3' := (hb34.block w1.heap.size (by have := hb3.size; omega)).trans hg3
      rw [← hw4]
      obtain ⟨hc0, hc1, _, _⟩ := cell_two hg3'
      obtain ⟨hd0, hd1, _, _⟩ := cell_two hg4
      clear hw4 hb34 hg3 hg3' hg2 hg4 hb3' hz2
      go_wp2_with fail
      refine (sameInts_any _ _ [] [] _ _ (Reads.nil _ 0) (Reads.nil _ 0)).mono ?_
      rintro e w5 ⟨rfl, nq, rfl⟩
      rw [show decide (([] : List Int) = []) = true from rfl]
      have hb5 := below_drewN hb4 nq
      go_wp2_with fail
      refine (works_any _).mono ?_
      rintro e w6 ⟨rfl, hb6⟩
      go_wp2_with fail
      go_ret
      exact ⟨rfl, below_step hb5 hb6 hb5.size⟩
    · have HO := Lib.hid ho
      clear ho
      go_enter Tryd.func14, Tryd.ntmps14
      go_wp2_with fail
      refine (parse_yes s _ (by omega) HO.out).mono ?_
      rintro e w1 ⟨v, t, rfl, hR, htl, htz, hb1, ⟨A, n, cap, rfl, _⟩⟩
      go_upto_region 4 with (fail)
      obtain ⟨w2, hw2, hg2, hb12, hz2, hb2⟩ := row_at w w1 (.cells #[.slice A n cap, .string t] 24) hb1
      have hR2 := (hR.below hb12).more hb12.size
      rw [← hw2]
      clear hw2 hb12 hb1 hR
      go_wp2_with fail
      refine (refParse_yes s _ (by omega) HO.out).mono ?_
      rintro e w3 ⟨v', t', rfl, hR', htl', htz', hb3, ⟨A', n', cap', rfl, _⟩⟩
      obtain rfl : t' = t := str_ext (by rw [htl, htl'])
      go_upto_region 5 with (fail)
      have hg3 := (hb3.block w1.heap.size (by omega)).trans hg2
      have hR3 := (hR2.below hb3).more hb3.size
      have hb3' := below_step hb2 hb3 hb2.size
      obtain ⟨w4, hw4, hg4, hb34, hz4, hb4⟩ := row_at w w3 (.cells #[.slice A' n' cap', .string t'] 30) hb3'
      have hg3' := (hb34.block w1.heap.size (by have := hb3.size; omega)).trans hg3
      have HR4 := Lib.hid ((hR3.below hb34).more hb34.size)
      have HR4' := Lib.hid ((hR'.below hb34).more hb34.size)
      rw [← hw4]
      obtain ⟨hc0, hc1, _, _⟩ := cell_two hg3'
      obtain ⟨hd0, hd1, _, _⟩ := cell_two hg4
      have hz1 : w1.heap.size < w4.heap.size := by have := hb3.size; omega
      have hz3 : w3.heap.size < w4.heap.size := by omega
      clear hw4 hb34 hg3 hg3' hg2 hg4 hb3' hz2 hR2 hR3 hR' htl htl' hb3
      go_wp2_with fail
      refine (sameInts_any _ _ (verOf s).1 (verOf s).1 _ _ HR4.out HR4'.out).mono ?_
      rintro e w5 ⟨rfl, nq, hw5⟩
      rw [show decide ((verOf s).1 = (verOf s).1) = true from decide_eq_true rfl]
      have hb5 : Below w.heap.size w w5 := by rw [hw5]; exact below_drewN hb4 nq
      have hcd := cell_drew hw5
      have hc1' := (hcd ⟨w1.heap.size, 1, none⟩).trans hc1
      have hd1' := (hcd ⟨w3.heap.size, 1, none⟩).trans hd1
      clear hcd hw5 hc0 hc1 hd0 hd1
      go_wp2_with fail
      refine (works_any _).mono ?_
      rintro e w6 ⟨rfl, hb6⟩
      go_wp2_with fail
      go_ret
      exact ⟨rfl, below_step hb5 hb6 hb5.size⟩
end Go.Proofs.YtijepjoklmblhaaDoor
