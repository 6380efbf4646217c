/- The walk of the law RangesParse. -/
import Derived.Test.YtjckcdemkpmheaaDoorRngAc
import Derived.Test.YtjckcdemkpmheaaDoorRows
import Derived.Test.YtjckcdemkpmheaaDoorTie
import Derived.LaidMore
namespace Go.Proofs.YtjckcdemkpmheaaDoor
open Go.RowKit Go.BigFrame

def laidL : List (String × DataW Unit) := [("unicode/utf8.acceptRanges", Rows.laid_unicode_utf8_acceptRanges), ("unicode/utf8.first", Rows.laid_unicode_utf8_first)]
theorem of_laid {W : World} (_ : laidMetH Tryd.prog laidL W) : True := trivial
theorem same_is (a b : Value) (r q : List (List Bd)) (w : World) (ha : RngAt w a r) (hb : RngAt w b q) (h : r = q) :
    Calls Tryd.prog 12 #[a, b] w fun e w' => e = .returned (.bool true) ∧ Below w.heap.size w w' := by
  refine (sameR_any a b r q w ha hb).mono ?_
  rintro e w' ⟨rfl, n, rfl⟩
  exact ⟨by rw [decide_eq_true h], below_drewN (Below.refl _ _) n⟩
theorem RngAt.nil (w : World) : RngAt w (.slice none 0 0) [] := ⟨[], RdS.nil w AllB, ItemsS.nil _ _ _⟩
theorem refrparse_yes (s : ByteArray) (w : World) (hs : s.size ≤ 1000000) (hm : mayR (rowsB s) = true) : Calls Tryd.prog 11 #[.string s] w (PRYes s w) :=
  (refrparse_any s w hs).mono fun _ _ h => by unfold PR at h; rwa [if_pos hm] at h
theorem refrparse_no (s : ByteArray) (w : World) (hs : s.size ≤ 1000000) (hm : mayR (rowsB s) = false) : Calls Tryd.prog 11 #[.string s] w (PRNo w) :=
  (refrparse_any s w hs).mono fun _ _ h => by unfold PR at h; rwa [hm, if_neg (by simp)] at h
set_option maxRecDepth 100000 in
set_option maxHeartbeats 4000000 in
theorem rangesParse_walk (s : ByteArray) (w : World) (_ : True) (hs : s.size ≤ maxLen) : Calls Tryd.prog 3 #[.string s] w fun e w' => e = .returned (.bool true) ∧ Below w.heap.size w w' := by
  unfold maxLen at hs
  by_cases hl : s.size ≤ 1000
  · have hlI : ¬ (s.size : Int) > 1000 := by omega
    cases hm : mayR (rowsB s)
    · have HM := Lib.hid hm
      clear hm
      go_enter Tryd.func3, Tryd.ntmps3
      go_wp2_with fail
      refine (rparse_no s _ (by omega) HM.out).mono ?_
      rintro e w1 ⟨rfl, hb1⟩
      go_wp2_with fail
      refine (refrparse_no s _ (by omega) HM.out).mono ?_
      rintro e w2 ⟨rfl, hb2⟩
      replace hb1 := below_step hb1 hb2 hb1.size
      clear hb2
      go_wp2_with fail
      refine (same_is _ _ [] [] _ (RngAt.nil _) (RngAt.nil _) rfl).mono ?_
      rintro e w3 ⟨rfl, hb3⟩
      replace hb1 := below_step hb1 hb3 hb1.size
      clear hb3
      go_wp2_with fail
      refine (works_any _).mono ?_
      rintro e w4 ⟨rfl, hb4⟩
      go_wp2
      go_ret
      exact ⟨rfl, below_step hb1 hb4 hb1.size⟩
    · have HM := Lib.hid hm
      clear hm
      go_enter Tryd.func3, Tryd.ntmps3
      go_wp2_with fail
      refine (rparse_yes s _ (by omega) HM.out).mono ?_
      rintro e w1 ⟨u1, rfl, hr1, hb1⟩
      go_wp2_with fail
      refine (refrparse_yes s _ (by omega) HM.out).mono ?_
      rintro e w2 ⟨u2, rfl, hr2, hb2⟩
      replace hb1 := below_step hb1 hb2 hb1.size
      replace hr1 := hr1.below hb2
      clear hb2
      go_wp2_with fail
      refine (same_is _ _ _ _ _ hr1 hr2 rfl).mono ?_
      rintro e w3 ⟨rfl, hb3⟩
      replace hb1 := below_step hb1 hb3 hb1.size
      clear hb3 hr1 hr2
      go_wp2_with fail
      refine (works_any _).mono ?_
      rintro e w4 ⟨rfl, hb4⟩
      go_wp2
      go_ret
      exact ⟨rfl, below_step hb1 hb4 hb1.size⟩
  · have hlI : (s.size : Int) > 1000 := by omega
    go_enter Tryd.func3, Tryd.ntmps3
    go_wp2_with fail
    refine (works_any _).mono ?_
    rintro e w4 ⟨rfl, hb4⟩
    go_wp2
    go_ret
    exact ⟨rfl, hb4⟩
end Go.Proofs.YtjckcdemkpmheaaDoor
