/- The walk of the law FilesName. -/
import Derived.Test.YtmcafiihicanfaaDoorFilQf
import Derived.Test.YtmcafiihicanfaaDoorRows
import Derived.Test.YtmcafiihicanfaaDoorTie
import Derived.LaidMore
set_option linter.unusedVariables false
set_option linter.unusedSimpArgs false
namespace Go.Proofs.YtmcafiihicanfaaDoor
open Go Go.RowKit Go.BigFrame
open Fil (Es Nd Sp)

def laidL : List (String × DataW Unit) := [("unicode/utf8.acceptRanges", Rows.laid_unicode_utf8_acceptRanges), ("unicode/utf8.first", Rows.laid_unicode_utf8_first)]
theorem of_laid {W : World} (_ : laidMetH Tryd.prog laidL W) : True := trivial
set_option maxRecDepth 1000000 in
set_option maxRecDepth 100000 in
set_option maxHeartbeats 4000000 in
theorem filesName_walk (s : ByteArray) (w : World) (_ : True) (hs : s.size ≤ maxLen) : Calls Tryd.prog 3 #[.string s] w fun e w' => e = .returned (.bool true) ∧ Below w.heap.size w w' := by
  unfold maxLen at hs
  have HW := Lib.hid works_any
  have HN := Lib.hid (name_any s w)
  have HM := Lib.hid (fun w' => refName_any s (by unfold maxLen; omega) w')
  go_enter Tryd.func3, Tryd.ntmps3
  by_cases hl : s.size ≤ 2000
  · have hlI : decide ((2000 : Int) < (s.size : Int)) = false := decide_eq_false (by omega)
    have HL := Lib.hid hl
    clear hl
    go_wp2_with fail
    refine HN.out.mono ?_
    rintro e W1 ⟨rfl, hb1⟩
    have HB1 := Lib.hid hb1
    clear hb1
    go_wp2_with fail
    refine (HM.out W1).mono ?_
    intro e W2 h
    obtain ⟨h1, h2⟩ := h
    have h3 := h2.symm
    subst h3
    subst h1
    generalize Fil.nameB s = b at *
    have hbb : (b == b) = true := by cases b <;> rfl
    go_wp2_with fail
    refine (HW.out W1).mono ?_
    rintro e W3 ⟨rfl, hb3⟩
    have HB3 := Lib.hid (below_step HB1.out hb3 HB1.out.size)
    clear hb3
    go_wp2_with fail
    go_ret
    exact ⟨rfl, HB3.out⟩
  · have hlI : decide ((2000 : Int) < (s.size : Int)) = true := decide_eq_true (by omega)
    clear hl
    go_wp2_with fail
    refine (HW.out w).mono ?_
    rintro e W3 ⟨rfl, hb3⟩
    have HB3 := Lib.hid hb3
    clear hb3
    go_wp2_with fail
    go_ret
    exact ⟨rfl, HB3.out⟩
end Go.Proofs.YtmcafiihicanfaaDoor
