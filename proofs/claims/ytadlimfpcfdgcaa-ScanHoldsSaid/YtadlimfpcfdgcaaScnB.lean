/- scan's laws and reference: is a text in a row? -/
import Derived.Test.YtadlimfpcfdgcaaReads
import Derived.Test.YtadlimfpcfdgcaaScnA
set_option linter.unusedVariables false
set_option linter.unusedSimpArgs false
namespace Go.Proofs.Ytadlimfpcfdgcaa
open Go.RowKit Go.BigFrame

def isIn (s : ByteArray) (xs : List ByteArray) : Bool := xs.any fun x => decide (x = s)
theorem isIn_iff (s : ByteArray) (xs : List ByteArray) : isIn s xs = true ↔ s ∈ xs := by
  unfold isIn
  rw [List.any_eq_true]
  constructor
  · rintro ⟨x, hx, h⟩; rw [decide_eq_true_eq] at h; exact h ▸ hx
  · intro h; exact ⟨s, h, decide_eq_true rfl⟩
set_option maxRecDepth 100000 in
set_option maxHeartbeats 800000 in
theorem has_any (a : Value) (xs : List ByteArray) (s : ByteArray) (B : Nat) (w : World) (ha : Reads w B a (strs xs)) :
    Calls Try.prog 13 #[a, .string s] w fun e w' => e = .returned (.bool (isIn s xs)) ∧ ∃ nq, w' = w.drewN nq := by
  obtain ⟨A, ca, rfl, hla, hma, hza, hra⟩ := ha
  simp only [strs_len] at *
  have HRA := Lib.hid hra
  unfold maxLen at *
  clear hra hza
  go_enter Try.func13, Try.ntmps13
  go_wp2
  go_loopw [5] (fun i wr => ∃ (k nq : Nat), k ≤ xs.length ∧ i = .int .i64 k ∧ Hid (wr = w.drewN nq) ∧ Hid (s ∉ xs.take k)) (fun i _ => xs.length - (intOf i).toNat)
  case atStart => exact ⟨0, 0, by omega, rfl, Lib.hid rfl, Lib.hid (by simp)⟩
  case round =>
    obtain ⟨k, nq, hk, rfl, HW, HS⟩ := hrel
    by_cases hlt : k < xs.length
    · obtain ⟨ad, rfl, hbl, hc⟩ := HRA.out (by omega)
      have hcx := (cell_drew HW.out _).trans (hc k _ (strs_get xs k (by omega)))
      clear hc hbl
      have hi1 : (k : Int) < (xs.length : Int) := by omega
      have hi0 : (0 : Int) ≤ (k : Int) := by omega
      have HTK := Lib.hid (show xs.take (k + 1) = xs.take k ++ [xs.getD k ⟨#[]⟩] by rw [List.take_succ_eq_append_getElem hlt]; simp [List.getD, hlt])
      have HMEM := Lib.hid (show xs.getD k ⟨#[]⟩ ∈ xs by simp [List.getD, hlt])
      obtain ⟨x, hx⟩ : ∃ x, x = xs.getD k ⟨#[]⟩ := ⟨_, rfl⟩
      rw [← hx] at hcx HTK HMEM
      clear hx
      by_cases hxy : x = s
      · have HF := Lib.hid (show isIn s xs = true by rw [isIn_iff, ← hxy]; exact HMEM.out)
        have hbe : (x.toList == s.toList) = true := by rw [str_ne_iff]; simpa using hxy
        clear hxy
        go_wp2
        go_ret
        exact ⟨ret_bool HF.out.symm, _, HW.out⟩
      · have HS' : Hid (s ∉ xs.take (k + 1)) := Lib.hid (by
          rw [HTK.out, List.mem_append, List.mem_singleton]
          rintro (h | h)
          · exact HS.out h
          · exact hxy h.symm)
        have hbe : (x.toList == s.toList) = false := by rw [str_ne_iff]; simpa using hxy
        clear hxy
        go_wp2
        go_roundw
        case rel => exact ⟨k + 1, _, by omega, by go_num, HW, HS'⟩
        case measure => simp [intOf]; omega
    · have HF := Lib.hid (show isIn s xs = false by
        have h := HS.out
        rw [show k = xs.length by omega, List.take_length, ← isIn_iff] at h
        simpa using h)
      go_wp2
      go_ret
      exact ⟨ret_bool HF.out.symm, _, HW.out⟩
set_option maxRecDepth 100000 in
set_option maxHeartbeats 800000 in
theorem refHas_any (a : Value) (xs : List ByteArray) (s : ByteArray) (B : Nat) (w : World) (ha : Reads w B a (strs xs)) :
    Calls Try.prog 20 #[a, .string s] w fun e w' => e = .returned (.bool (isIn s xs)) ∧ ∃ nq, w' = w.drewN nq := by
  obtain ⟨A, ca, rfl, hla, hma, hza, hra⟩ := ha
  simp only [strs_len] at *
  have HRA := Lib.hid hra
  unfold maxLen at *
  clear hra hza
  go_enter Try.func20, Try.ntmps20
  go_wp2
  go_loopw [5] (fun i wr => ∃ (k nq : Nat), k ≤ xs.length ∧ i = .int .i64 k ∧ Hid (wr = w.drewN nq) ∧ Hid (s ∉ xs.take k)) (fun i _ => xs.length - (intOf i).toNat)
  case atStart => exact ⟨0, 0, by omega, rfl, Lib.hid rfl, Lib.hid (by simp)⟩
  case round =>
    obtain ⟨k, nq, hk, rfl, HW, HS⟩ := hrel
    by_cases hlt : k < xs.length
    · obtain ⟨ad, rfl, hbl, hc⟩ := HRA.out (by omega)
      have hcx := (cell_drew HW.out _).trans (hc k _ (strs_get xs k (by omega)))
      clear hc hbl
      have hi1 : (k : Int) < (xs.length : Int) := by omega
      have hi0 : (0 : Int) ≤ (k : Int) := by omega
      have HTK := Lib.hid (show xs.take (k + 1) = xs.take k ++ [xs.getD k ⟨#[]⟩] by rw [List.take_succ_eq_append_getElem hlt]; simp [List.getD, hlt])
      have HMEM := Lib.hid (show xs.getD k ⟨#[]⟩ ∈ xs by simp [List.getD, hlt])
      obtain ⟨x, hx⟩ : ∃ x, x = xs.getD k ⟨#[]⟩ := ⟨_, rfl⟩
      rw [← hx] at hcx HTK HMEM
      clear hx
      by_cases hxy : x = s
      · have HF := Lib.hid (show isIn s xs = true by rw [isIn_iff, ← hxy]; exact HMEM.out)
        have hbe : (x.toList == s.toList) = true := by rw [str_ne_iff]; simpa using hxy
        clear hxy
        go_wp2
        go_ret
        exact ⟨ret_bool HF.out.symm, _, HW.out⟩
      · have HS' : Hid (s ∉ xs.take (k + 1)) := Lib.hid (by
          rw [HTK.out, List.mem_append, List.mem_singleton]
          rintro (h | h)
          · exact HS.out h
          · exact hxy h.symm)
        have hbe : (x.toList == s.toList) = false := by rw [str_ne_iff]; simpa using hxy
        clear hxy
        go_wp2
        go_roundw
        case rel => exact ⟨k + 1, _, by omega, by go_num, HW, HS'⟩
        case measure => simp [intOf]; omega
    · have HF := Lib.hid (show isIn s xs = false by
        have h := HS.out
        rw [show k = xs.length by omega, List.take_length, ← isIn_iff] at h
        simpa using h)
      go_wp2
      go_ret
      exact ⟨ret_bool HF.out.symm, _, HW.out⟩
end Go.Proofs.Ytadlimfpcfdgcaa
