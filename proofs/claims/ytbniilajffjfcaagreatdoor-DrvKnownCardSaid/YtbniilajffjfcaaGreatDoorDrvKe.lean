/- drv's laws: place; what DrvHolds asks (maths). -/
import Derived.Test.YtbniilajffjfcaaGreatDoorDrvKd
set_option linter.unusedVariables false
set_option linter.unusedSimpArgs false
namespace Go.Proofs.YtbniilajffjfcaaGreatDoor
open Go.RowKit Go.BigFrame Go.Maps
open Drv (posO edges edgeAt dupB stepS sortS closeF closeL Ordered addNew)

def plN (l : List Nat) (x : Nat) : Int := if x ∈ l then (l.idxOf x : Int) else -1
theorem plN_neg {l : List Nat} {x : Nat} : plN l x < 0 ↔ x ∉ l := by
  unfold plN
  split
  · rename_i h; constructor
    · intro h2; omega
    · intro h2; exact absurd h h2
  · rename_i h; simp [h]
theorem idx_le : ∀ (l : List Nat) (j x : Nat), l[j]? = some x → l.idxOf x ≤ j
  | [], j, x, h => by simp at h
  | y :: l, 0, x, h => by simp at h; subst h; simp
  | y :: l, j + 1, x, h => by
    simp at h
    have := idx_le l j x h
    rw [List.idxOf_cons]
    cases (y == x)
    · simp; omega
    · simp
theorem idx_take {l : List Nat} {x k : Nat} (h : x ∈ l.take k) : l.idxOf x < k := by
  obtain ⟨j, hj, e⟩ := List.mem_iff_getElem.1 h
  rw [List.length_take] at hj
  have hjl : j < l.length := by omega
  have e2 : l[j] = x := by rw [← e, List.getElem_take]
  have : l.idxOf x ≤ j := by
    exact idx_le l j x (by rw [List.getElem?_eq_getElem hjl, e2])
  omega
set_option maxRecDepth 100000 in
set_option maxHeartbeats 800000 in
theorem placeL_any (v : Value) (l : List Nat) (x : Nat) (w : World) (hv : IRow w AllB v (ofN l)) (hx : x ≤ 1000000) :
    Calls Tryz.prog 33 #[v, .int .i64 (x : Int)] w fun e w' => e = .returned (.int .i64 (plN l x)) ∧ w' = w := by
  have HP := Lib.hid (fun (p : Int) (h : plN l x = p) => show Ending.returned (.int .i64 p) = .returned (.int .i64 (plN l x)) by rw [h])
  obtain ⟨A, ca, rfl, hla, hma⟩ := RdS.form hv
  rw [ofN_len] at *
  unfold maxLen at hma
  have HV := Lib.hid hv
  clear hv
  go_enter Tryz.func33, Tryz.ntmps33
  go_wp2
  go_loopw [5] (fun iv wr => ∃ k : Nat, k ≤ l.length ∧ iv = .int .i64 (k : Int) ∧ wr = w ∧ Hid (x ∉ l.take k)) (fun iv _ => l.length - (intOf iv).toNat)
  case atStart => exact ⟨0, by omega, rfl, rfl, Lib.hid (by simp)⟩
  case round =>
    obtain ⟨k, hk, rfl, rfl, HN⟩ := hrel
    by_cases hlt : k < l.length
    · have hki : (k : Int) < (l.length : Int) := by omega
      obtain ⟨ad, rfl, hcx⟩ := IRow.get HV.out k (by rw [ofN_len]; exact hlt)
      rw [ofN_get l k hlt] at hcx
      have HT := Lib.hid (show l.take (k + 1) = l.take k ++ [l.getD k 0] from Drv.take_snoc l k _ (by simp [List.getD, hlt]))
      have HG := Lib.hid (show l[k] = l.getD k 0 by simp [List.getD, hlt])
      generalize l.getD k 0 = y at *
      by_cases hxy : y = x
      · have hyi : (y : Int) = (x : Int) := by omega
        have HF := Lib.hid (show plN l x = (k : Int) by
          unfold plN
          have hm : x ∈ l := by rw [← hxy, ← HG.out]; exact List.getElem_mem hlt
          rw [if_pos hm]
          have h1 : l.idxOf x < k + 1 := idx_take (by rw [HT.out, hxy]; simp)
          have h2 : ¬ l.idxOf x < k := fun h => HN.out (by
            rw [List.mem_iff_getElem]
            exact ⟨l.idxOf x, by rw [List.length_take]; omega, by rw [List.getElem_take]; exact List.getElem_idxOf _⟩)
          omega)
        go_wp2
        go_ret
        exact ⟨HP.out _ HF.out, by trivial⟩
      · have hyi : ¬ (y : Int) = (x : Int) := by omega
        have HN2 : Hid (x ∉ l.take (k + 1)) := Lib.hid (by
          rw [HT.out]
          intro h
          rcases List.mem_append.1 h with h | h
          · exact HN.out h
          · exact hxy (List.mem_singleton.1 h).symm)
        go_wp2
        go_roundw
        case rel => exact ⟨k + 1, by omega, by go_num, by trivial, HN2⟩
        case measure => simp [intOf]; omega
    · have hki : ¬ (k : Int) < (l.length : Int) := by omega
      have HF := Lib.hid (show plN l x = -1 by
        unfold plN
        rw [if_neg (by have := HN.out; rwa [List.take_of_length_le (by omega)] at this)])
      go_wp2
      go_ret
      exact ⟨HP.out _ HF.out, by trivial⟩
end Go.Proofs.YtbniilajffjfcaaGreatDoor
