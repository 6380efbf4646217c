/- numbers: strings.Cut at one byte. -/
import Derived.Test.YtbmmoclaijoofaaGreatDoorNumN
set_option linter.unusedVariables false
set_option linter.unusedSimpArgs false
namespace Go.Proofs.YtbmmoclaijoofaaGreatDoor
open Go.RowKit Go.BigFrame

namespace Ver
abbrev BL := List UInt8
def brk (c : UInt8) : BL → BL × BL × Bool
  | [] => ([], [], false)
  | x :: r => if x = c then ([], r, true) else (x :: (brk c r).1, (brk c r).2.1, (brk c r).2.2)
theorem brk_no (c : UInt8) : ∀ l : BL, (brk c l).2.2 = false → (brk c l).1 = l ∧ (brk c l).2.1 = [] ∧ c ∉ l
  | [], _ => ⟨rfl, rfl, by simp⟩
  | x :: r, h => by
    unfold brk at h ⊢
    by_cases hx : x = c
    · rw [if_pos hx] at h; cases h
    · rw [if_neg hx] at h ⊢
      obtain ⟨h1, h2, h3⟩ := brk_no c r h
      exact ⟨by simp [h1], h2, by simp [h3, Ne.symm hx]⟩
theorem brk_yes (c : UInt8) : ∀ l : BL, (brk c l).2.2 = true → l = (brk c l).1 ++ c :: (brk c l).2.1 ∧ c ∉ (brk c l).1
  | [], h => by cases h
  | x :: r, h => by
    unfold brk at h ⊢
    by_cases hx : x = c
    · rw [if_pos hx]; subst hx; simp
    · rw [if_neg hx] at h ⊢
      obtain ⟨h1, h2⟩ := brk_yes c r h
      exact ⟨by simpa using h1, by simp [h2, Ne.symm hx]⟩
theorem brk_not (c : UInt8) (l : BL) (h : c ∉ l) : brk c l = (l, [], false) := by
  induction l with
  | nil => rfl
  | cons x a ih =>
    have hx : x ≠ c := fun e => h (by simp [e])
    rw [brk, if_neg hx, ih (fun e => h (by simp [e]))]
end Ver
open Ver (brk)
def bA (c : UInt8) (s : ByteArray) : ByteArray := ⟨(brk c s.data.toList).1.toArray⟩
def bR (c : UInt8) (s : ByteArray) : ByteArray := ⟨(brk c s.data.toList).2.1.toArray⟩
def bF (c : UInt8) (s : ByteArray) : Bool := (brk c s.data.toList).2.2
theorem bA_list (c : UInt8) (s : ByteArray) : (bA c s).data.toList = (brk c s.data.toList).1 := by simp [bA]
theorem bR_list (c : UInt8) (s : ByteArray) : (bR c s).data.toList = (brk c s.data.toList).2.1 := by simp [bR]
theorem indexByte_brk (c : UInt8) : ∀ l : List UInt8, Lib.indexByte l c = if (brk c l).2.2 = true then ((brk c l).1.length : Int) else -1
  | [] => rfl
  | x :: r => by
    have ih := indexByte_brk c r
    unfold Lib.indexByte brk
    by_cases hx : x = c
    · subst hx; simp
    · rw [if_neg (by simpa using hx), if_neg hx, ih]
      cases hb : (brk c r).2.2
      · simp [hb]
      · simp only [if_pos, hb]
        rw [if_neg (by simp; try omega)]
        simp
theorem cut_no (c : UInt8) (s : ByteArray) (h : bF c s = false) : bA c s = s ∧ bR c s = ⟨#[]⟩ ∧ Lib.indexByte s.data.toList c = -1 := by
  obtain ⟨h1, h2, _⟩ := Ver.brk_no c _ h
  refine ⟨str_ext (by rw [bA_list, h1]), str_ext (by rw [bR_list, h2]), ?_⟩
  rw [indexByte_brk, if_neg (by rw [show (brk c s.data.toList).2.2 = false from h]; simp)]
theorem cut_yes (c : UInt8) (s : ByteArray) (h : bF c s = true) : ∃ i : Nat, Lib.indexByte s.data.toList c = (i : Int) ∧ i < s.size ∧ bA c s = s.extract 0 i ∧ bR c s = s.extract (i + 1) s.size := by
  obtain ⟨h1, _⟩ := Ver.brk_yes c _ h
  have hl := congrArg List.length h1
  rw [len_data, List.length_append, List.length_cons] at hl
  refine ⟨(brk c s.data.toList).1.length, ?_, by omega, str_ext ?_, str_ext ?_⟩
  · rw [indexByte_brk]; exact if_pos h
  · rw [bA_list, Lib.extract_data]
    generalize (brk c s.data.toList).1 = a at *
    generalize (brk c s.data.toList).2.1 = r at *
    simp [h1]
  · rw [bR_list, Lib.extract_data]
    generalize (brk c s.data.toList).1 = a at *
    generalize (brk c s.data.toList).2.1 = r at *
    rw [h1, List.drop_append, List.drop_of_length_le (by omega), show a.length + 1 - a.length = 1 by omega]
    simp
    rw [List.take_of_length_le (by omega)]
theorem ret_cut {a b a' b' : ByteArray} {c c' : Bool} (h : a = a') (h2 : b = b') (h3 : c = c') : Ending.returned (.tuple #[.string a, .string b, .bool c]) = .returned (.tuple #[.string a', .string b', .bool c']) := by rw [h, h2, h3]
def CutPost (c : UInt8) (s : ByteArray) (w : World) (e : Ending) (w' : World) : Prop := e = .returned (.tuple #[.string (bA c s), .string (bR c s), .bool (bF c s)]) ∧ ∃ nq, w' = w.drewN nq
set_option maxRecDepth 100000 in
set_option maxHeartbeats 400000 in
theorem litecut_any (c : UInt8) (s : ByteArray) (w : World) (hs : s.size ≤ maxLen) :
    Calls Tryz.prog 85 #[.string s, .string ⟨#[c]⟩] w (CutPost c s w) := by
  unfold maxLen at hs
  cases hb : bF c s
  · obtain ⟨h1, h2, h3⟩ := cut_no c s hb
    have H1 := Lib.hid h1
    have H2 := Lib.hid h2
    have H3 := Lib.hid h3
    have HB := Lib.hid hb
    clear h1 h2 h3 hb
    go_enter Tryz.func85, Tryz.ntmps85
    go_wp2_with (go_at_call 96; refine (Tryz.stringslite_Index_one _ _ _).mono ?_; rw [H3.out]; rintro e w' ⟨rfl, rfl⟩)
    go_ret3
    exact ⟨ret_cut H1.out.symm H2.out.symm HB.out.symm, 0, rfl⟩
  · obtain ⟨i, h3, hi, h1, h2⟩ := cut_yes c s hb
    have H1 := Lib.hid h1
    have H2 := Lib.hid h2
    have H3 := Lib.hid h3
    have HB := Lib.hid hb
    clear h1 h2 h3 hb
    have hw : IntKind.i64.wrap ((i : Int) + 1) = (i : Int) + 1 := IntWalk.i64_in _ (by omega)
    go_enter Tryz.func85, Tryz.ntmps85
    go_wp2_with (go_at_call 96; refine (Tryz.stringslite_Index_one _ _ _).mono ?_; rw [H3.out]; rintro e w' ⟨rfl, rfl⟩)
    go_quiet (fail)
    go_wp2
    go_ret3
    exact ⟨ret_cut H1.out.symm H2.out.symm HB.out.symm, _, rfl⟩
set_option maxRecDepth 100000 in
set_option maxHeartbeats 400000 in
theorem cut_any (c : UInt8) (s : ByteArray) (w : World) (hs : s.size ≤ maxLen) :
    Calls Tryz.prog 74 #[.string s, .string ⟨#[c]⟩] w (CutPost c s w) := by
  go_enter Tryz.func74, Tryz.ntmps74
  go_wp2_with (go_at_call 85; refine (litecut_any _ _ _ hs).mono ?_; rintro e w' ⟨rfl, nq, rfl⟩)
  go_ret3
  exact ⟨rfl, _, rfl⟩
theorem cut_is (b : Bool) (c : UInt8) (s : ByteArray) (w : World) (hs : s.size ≤ maxLen) (h : bF c s = b) :
    Calls Tryz.prog 74 #[.string s, .string ⟨#[c]⟩] w fun e w' => e = .returned (.tuple #[.string (bA c s), .string (bR c s), .bool b]) ∧ ∃ nq, w' = w.drewN nq := h ▸ cut_any c s w hs
end Go.Proofs.YtbmmoclaijoofaaGreatDoor
