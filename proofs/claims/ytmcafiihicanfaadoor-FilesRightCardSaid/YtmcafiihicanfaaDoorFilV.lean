/- files: the reference's Name. -/
import Derived.Test.YtmcafiihicanfaaDoorFilU
set_option linter.unusedVariables false
set_option linter.unusedSimpArgs false
namespace Go.Proofs.YtmcafiihicanfaaDoor
open Go Go.RowKit Go.BigFrame
open Fil (Es Nd Sp badB)

theorem nameB_eq2 (s : ByteArray) : Fil.nameB s = (decide ((1 : Int) ≤ (s.size : Int)) && decide ((s.size : Int) ≤ 255) && !(s.toList == [46]) && !(s.toList == [46, 46]) && !s.data.toList.any badB) := by
  have e1 : decide (1 ≤ s.size) = decide ((1 : Int) ≤ (s.size : Int)) := by rw [decide_eq_decide]; omega
  have e2 : decide (s.size ≤ 255) = decide ((s.size : Int) ≤ 255) := by rw [decide_eq_decide]; omega
  unfold Fil.nameB
  rw [e1, e2, eq_toList, eq_toList]
  rw [show (⟨#[46]⟩ : ByteArray).toList = [46] by rw [Lib.toList_data], show (⟨#[46, 46]⟩ : ByteArray).toList = [46, 46] by rw [Lib.toList_data]]
theorem bad_val (x : UInt8) : badB x = (((x.toNat : Int) == 47) || ((x.toNat : Int) == 0)) := by
  unfold badB
  have h1 : (x == 47) = ((x.toNat : Int) == 47) := by
    by_cases h : x = 47
    · subst h; rfl
    · rw [beq_eq_false_iff_ne.2 h]; symm; refine beq_eq_false_iff_ne.2 fun e => h ?_
      exact UInt8.toNat_inj.1 (show x.toNat = 47 by omega)
  have h2 : (x == 0) = ((x.toNat : Int) == 0) := by
    by_cases h : x = 0
    · subst h; rfl
    · rw [beq_eq_false_iff_ne.2 h]; symm; refine beq_eq_false_iff_ne.2 fun e => h ?_
      exact UInt8.toNat_inj.1 (show x.toNat = 0 by omega)
  rw [h1, h2]
set_option maxRecDepth 1000000 in
set_option maxRecDepth 100000 in
set_option maxHeartbeats 4000000 in
theorem refName_any (s : ByteArray) (hs : s.size ≤ maxLen) (w : World) :
    Calls Tryd.prog 11 #[.string s] w fun e W => e = .returned (.bool (Fil.nameB s)) ∧ W = w := by
  go_enter Tryd.func11, Tryd.ntmps11
  go_wp2
  go_loopg [3] s.size (fun g u3 wx => ∃ i : Nat, u3 = .int .i64 (i : Int) ∧ i + g = s.size ∧ wx = w ∧ Hid (NoBad s i))
  case atStart => exact ⟨0, rfl, by omega, rfl, fun j b hj => by omega⟩
  case round =>
    obtain ⟨i, rfl, hig, rfl, HN⟩ := hrel
    cases gk with
    | zero =>
      obtain rfl : i = s.size := by omega
      have HE := Lib.hid (show Fil.nameB s = (decide ((1 : Int) ≤ (s.size : Int)) && decide ((s.size : Int) ≤ 255) && !(s.toList == [46]) && !(s.toList == [46, 46])) by rw [nameB_eq2, HN.out.all (Nat.le_refl _)]; simp)
      rcases Bool.eq_false_or_eq_true (decide ((1 : Int) ≤ (s.size : Int))) with h1 | h1
      rotate_left
      · have HQ := Lib.hid (show Fil.nameB s = false by rw [HE.out, h1]; rfl)
        go_wp2
        go_ret
        exact ⟨by rw [HQ.out]; rfl, rfl⟩
      rcases Bool.eq_false_or_eq_true (decide ((s.size : Int) ≤ 255)) with h2 | h2
      rotate_left
      · have HQ := Lib.hid (show Fil.nameB s = false by rw [HE.out, h1, h2]; rfl)
        go_wp2
        go_ret
        exact ⟨by rw [HQ.out]; rfl, rfl⟩
      rcases Bool.eq_false_or_eq_true (s.toList == [46]) with h3 | h3
      · have HQ := Lib.hid (show Fil.nameB s = false by rw [HE.out, h1, h2, h3]; rfl)
        go_wp2
        go_ret
        exact ⟨by rw [HQ.out]; rfl, rfl⟩
      rcases Bool.eq_false_or_eq_true (s.toList == [46, 46]) with h4 | h4
      · have HQ := Lib.hid (show Fil.nameB s = false by rw [HE.out, h1, h2, h3, h4]; rfl)
        go_wp2
        go_ret
        exact ⟨by rw [HQ.out]; rfl, rfl⟩
      · have HQ := Lib.hid (show Fil.nameB s = true by rw [HE.out, h1, h2, h3, h4]; rfl)
        go_wp2
        go_ret
        exact ⟨by rw [HQ.out]; rfl, rfl⟩
    | succ g =>
      have hil : i < s.size := by omega
      obtain ⟨x, hx⟩ : ∃ x : UInt8, s[i]'hil = x := ⟨_, rfl⟩
      have HX := Lib.hid (show s.data.toList[i]? = some x by rw [← hx]; exact Lib.data_getElem? s i hil)
      have hw1 : IntKind.i64.wrap ((i : Int) + 1) = (i : Int) + 1 := IntWalk.i64_in _ (by unfold maxLen at hs; omega)
      have HBV := Lib.hid (bad_val x)
      have HF := Lib.hid (show badB x = true → Fil.nameB s = false from fun hb => by rw [nameB_eq2, List.any_eq_true.2 ⟨x, List.mem_of_getElem? HX.out, hb⟩]; simp)
      rcases Bool.eq_false_or_eq_true ((x.toNat : Int) == 47) with h47 | h47
      · have HQ := Lib.hid (HF.out (by rw [HBV.out, h47]; rfl))
        go_wp2
        go_ret
        exact ⟨by rw [HQ.out]; rfl, rfl⟩
      rcases Bool.eq_false_or_eq_true ((x.toNat : Int) == 0) with h0 | h0
      · have HQ := Lib.hid (HF.out (by rw [HBV.out, h47, h0]; rfl))
        go_wp2
        go_ret
        exact ⟨by rw [HQ.out]; rfl, rfl⟩
      have HQ := Lib.hid (show badB x = false by rw [HBV.out, h47, h0]; rfl)
      go_wp2
      go_roundg g
      case measure => omega
      case rel =>
        refine ⟨i + 1, by simp, by omega, rfl, fun j b hj hb => ?_⟩
        rcases Nat.lt_or_ge j i with hji | hji
        · exact HN.out j b hji hb
        · obtain rfl : j = i := by omega
          rw [HX.out] at hb
          cases hb
          exact HQ.out
end Go.Proofs.YtmcafiihicanfaaDoor
