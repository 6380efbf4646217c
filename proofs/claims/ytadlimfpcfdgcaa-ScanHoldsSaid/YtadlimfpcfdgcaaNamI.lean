/- Contracts of Name, of naming and of its reference. -/
import Derived.Test.YtadlimfpcfdgcaaNamB
import Derived.Test.YtadlimfpcfdgcaaNamH
set_option linter.unusedVariables false
set_option linter.unusedSimpArgs false
namespace Go.Proofs.Ytadlimfpcfdgcaa.Nam
open Go.RowKit

theorem info32 : (Try.prog.info? 29).map (·.size) = some 32 := by kernel_rfl
theorem right_len {s : ByteArray} (h : rightB s = true) : s.size ≤ 64 ∧ 1 ≤ s.size := by
  simp [rightB] at h
  omega
def letS (d : Nat → Nat) : ByteArray := strOf (letters (num d 20) 32)
theorem letS_size (d : Nat → Nat) : (letS d).size = 32 := by unfold letS; rw [strOf_size, letters_len]
def nameS (d : Nat → Nat) (s : ByteArray) : ByteArray := letS d ++ ⟨#[45]⟩ ++ s

theorem row_new (w : World) (o : Obj) : ∃ w1, w1 = w.alloc o ∧ w1.heap[w.heap.size]? = some o ∧ Below w.heap.size w w1 ∧ w1.heap.size = w.heap.size + 1 :=
  ⟨_, rfl, heap_alloc_new w o, (Below.refl _ _).alloc (Nat.le_refl _) _, by simp⟩

theorem right_is (b : Bool) (s : ByteArray) (w : World) (hs : s.size ≤ maxLen) (h : rightB s = b) :
    Calls Try.prog 21 #[.string s] w fun e w' => e = .returned (.bool b) ∧ w = w' := h ▸ right_any s w hs
theorem refRight_is (b : Bool) (s : ByteArray) (w : World) (hs : s.size ≤ maxLen) (h : rightB s = b) :
    Calls Try.prog 52 #[.string s] w fun e w' => e = .returned (.bool b) ∧ w = w' := h ▸ refRight_any s w hs
theorem letters_is (d : Nat → Nat) (hd : ∀ i, d i < 256) (w : World) :
    Calls Try.prog 10 #[.agg (digA d 32)] w fun e w' => e = .returned (.string (letS d)) ∧ Below w.heap.size w w' := letters_any d hd w
set_option maxRecDepth 100000 in
set_option maxHeartbeats 400000 in
theorem name_yes (d : Nat → Nat) (hd : ∀ i, d i < 256) (s : ByteArray) (w : World) (hs : s.size ≤ maxLen) (h : rightB s = true) :
    Calls Try.prog 11 #[.agg (digA d 32), .string s] w fun e w' => e = .returned (.tuple #[.string (nameS d s), .int .i64 0]) ∧ Below w.heap.size w w' := by
  have HD := Lib.hid hd
  have HR := Lib.hid h
  have h64 := (right_len h).1
  have hl := letS_size d
  clear hd h
  go_enter Try.func11, Try.ntmps11
  go_upto_region 1 with (fail)
  obtain ⟨w1, hw1, hg, hb, hsz⟩ := row_new w (.cells (digA d 32) 29)
  rw [← hw1]
  clear hw1
  go_wp2_with (first | (go_at_call 21; refine (right_is true _ _ hs HR.out).mono ?_; rintro e w' ⟨rfl, rfl⟩) | (refine wpList_load_row rfl 29 _ rfl w.heap.size rfl 29 _ (0, 0) _ hg Try.underlying29 rfl (by rw [digA_size]; exact info32) ?_) | (go_at_call 10; refine (letters_is d HD.out _).mono ?_; rintro e w2 ⟨rfl, hb2⟩))
  go_ret2
  exact ⟨rfl, hb.trans (hb2.mono (by omega))⟩
theorem name_no (d : Nat → Nat) (s : ByteArray) (w : World) (hs : s.size ≤ maxLen) (h : rightB s = false) :
    Calls Try.prog 11 #[.agg (digA d 32), .string s] w fun e w' => e = .returned (.tuple #[.string ⟨#[]⟩, .int .i64 2]) ∧ Below w.heap.size w w' := by
  have HR := Lib.hid h
  clear h
  go_enter Try.func11, Try.ntmps11
  go_wp2_with (first | (go_at_call 21; refine (right_is false _ _ hs HR.out).mono ?_; rintro e w' ⟨rfl, rfl⟩))
  go_ret2
  exact ⟨rfl, (Below.refl _ _).alloc (Nat.le_refl _) _⟩
end Go.Proofs.Ytadlimfpcfdgcaa.Nam
