/- catalogue: CatalogueWants walked. -/
import Derived.Test.YtcnedecmmplmoaaGreatDoorCm35
set_option linter.unusedVariables false
set_option linter.unusedSimpArgs false
namespace Go.Proofs.YtcnedecmmplmoaaGreatDoor
open Go Go.RowKit Go.BigFrame
open Ver (cmpV BL parts brk)

theorem wants_yes {s : ByteArray} (w : World) (hs : s.size ≤ 1000000) (h1 : wantsOk s = true) :
    Calls Tryz.prog 25 #[.string s] w fun e w' => ∃ A c, e = .returned (.tuple #[.slice A (wantsOf s).length c, .int .i64 0]) ∧ NdsAt w' (.slice A (wantsOf s).length c) (wantsOf s) ∧ Below w.heap.size w w' := wants_is w hs h1 rfl rfl
theorem wants_no {s : ByteArray} (w : World) (hs : s.size ≤ 1000000) (h1 : wantsOk s = false) :
    Calls Tryz.prog 25 #[.string s] w fun e w' => e = .returned (.tuple #[.slice none 0 0, .int .i64 2]) ∧ Below w.heap.size w w' := by
  refine (callsIn_wide.1 (wants_any s w hs)).mono fun e w' h => ?_
  unfold WantsP at h
  rw [if_neg (by rw [h1]; decide)] at h
  exact h
theorem refWants_yes {s : ByteArray} (w : World) (hs : s.size ≤ 1000000) (h1 : wantsOk s = true) :
    Calls Tryz.prog 26 #[.string s] w fun e w' => ∃ A c, e = .returned (.tuple #[.slice A (wantsOf s).length c, .int .i64 0]) ∧ NdsAt w' (.slice A (wantsOf s).length c) (wantsOf s) ∧ Below w.heap.size w w' := by
  refine (refWants_any s w hs).mono fun e w' h => ?_
  unfold RWantsP at h
  rw [if_pos h1] at h
  obtain ⟨v, rfl, hv, hb⟩ := h
  obtain ⟨A, c, rfl, _⟩ := OutM.form hv
  exact ⟨A, c, rfl, hv, hb⟩
theorem refWants_no {s : ByteArray} (w : World) (hs : s.size ≤ 1000000) (h1 : wantsOk s = false) :
    Calls Tryz.prog 26 #[.string s] w fun e w' => e = .returned (.tuple #[.slice none 0 0, .int .i64 2]) ∧ Below w.heap.size w w' := by
  refine (refWants_any s w hs).mono fun e w' h => ?_
  unfold RWantsP at h
  rw [if_neg (by rw [h1]; decide)] at h
  exact h
theorem sameN_is (a b : Value) (l m : List Nde) (w : World) (ha : NdsAt w a l) (hb : NdsAt w b m) (h : l = m) :
    Calls Tryz.prog 27 #[a, b] w fun e w' => e = .returned (.bool true) ∧ Below w.heap.size w w' := by
  refine (refSameN_any a b l m w ha hb).mono ?_
  rintro e w' ⟨rfl, n, rfl⟩
  exact ⟨by rw [decide_eq_true h], below_drewN (Below.refl _ _) n⟩
set_option maxRecDepth 100000 in
set_option maxHeartbeats 1000000 in
theorem catalogueWants_walk (s : ByteArray) (w : World) (_ : True) (hs : s.size ≤ maxLen) : Calls Tryz.prog 8 #[.string s] w fun e w' => e = .returned (.bool true) ∧ Below w.heap.size w w' := by
  unfold maxLen at hs
  by_cases hl : s.size ≤ 1500
  · have hlI : ¬ (s.size : Int) > 1500 := by omega
    cases hm : wantsOk s
    · have HM := Lib.hid hm
      clear hm
      go_enter Tryz.func8, Tryz.ntmps8
      go_wp2_with fail
      refine (wants_no _ (by omega) HM.out).mono ?_
      rintro e w1 ⟨rfl, hb1⟩
      go_wp2_with fail
      refine (refWants_no _ (by omega) HM.out).mono ?_
      rintro e w2 ⟨rfl, hb2⟩
      replace hb1 := below_step hb1 hb2 hb1.size
      clear hb2
      go_wp2_with fail
      refine (sameN_is _ _ [] [] _ (OutM.nil _ _) (OutM.nil _ _) rfl).mono ?_
      rintro e w3 ⟨rfl, hb3⟩
      replace hb1 := below_step hb1 hb3 hb1.size
      clear hb3
      go_wp2_with fail
      refine (works_any _).mono ?_
      rintro e w4 ⟨rfl, hb4⟩
      go_wp2
      go_ret
      exact ⟨rfl, below_step hb1 hb4 hb1.size⟩
    · have HM := Lib.hid hm
      clear hm
      go_enter Tryz.func8, Tryz.ntmps8
      go_wp2_with fail
      refine (wants_yes _ (by omega) HM.out).mono ?_
      rintro e w1 ⟨A1, c1, rfl, hr1, hb1⟩
      go_wp2_with fail
      refine (refWants_yes _ (by omega) HM.out).mono ?_
      rintro e w2 ⟨A2, c2, rfl, hr2, hb2⟩
      replace hb1 := below_step hb1 hb2 hb1.size
      replace hr1 := NdsAt.below hr1 hb2
      clear hb2
      go_wp2_with fail
      refine (sameN_is _ _ _ _ _ hr1 hr2 rfl).mono ?_
      rintro e w3 ⟨rfl, hb3⟩
      replace hb1 := below_step hb1 hb3 hb1.size
      clear hb3 hr1 hr2
      go_wp2_with fail
      refine (works_any _).mono ?_
      rintro e w4 ⟨rfl, hb4⟩
      go_wp2
      go_ret
      exact ⟨rfl, below_step hb1 hb4 hb1.size⟩
  · have hlI : (s.size : Int) > 1500 := by omega
    go_enter Tryz.func8, Tryz.ntmps8
    go_wp2_with fail
    refine (works_any _).mono ?_
    rintro e w4 ⟨rfl, hb4⟩
    go_wp2
    go_ret
    exact ⟨rfl, hb4⟩
end Go.Proofs.YtcnedecmmplmoaaGreatDoor
