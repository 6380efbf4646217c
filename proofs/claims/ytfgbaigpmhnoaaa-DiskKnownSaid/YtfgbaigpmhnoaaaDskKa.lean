/- disk: calls of a disk that is none. -/
import Derived.Test.YtfgbaigpmhnoaaaDskSy
set_option linter.unusedVariables false
set_option linter.unusedSimpArgs false
namespace Go.Proofs.Ytfgbaigpmhnoaaa
open Go.RowKit Go.BigFrame Go.Maps
open Dsk (Fl St Ok get put drop used)

def NilR (w : World) (v : Value) (e : Ending) (w' : World) : Prop := e = .returned v ∧ Below w.heap.size w w'
theorem nil_steps (w : World) : Calls Try.prog 27 #[.pointer none] w (NilR w (.int .i64 0)) := by
  have HQ := Lib.hid (show NilR w (.int .i64 0) (.returned (.int .i64 0)) w from ⟨rfl, Below.refl _ _⟩)
  generalize NilR w (.int .i64 0) = post at *
  go_enter Try.func27, Try.ntmps27
  go_wp2
  exact HQ.out
theorem nil_used (w : World) : Calls Try.prog 24 #[.pointer none] w (NilR w (.int .i64 0)) := by
  have HQ := Lib.hid (show NilR w (.int .i64 0) (.returned (.int .i64 0)) w from ⟨rfl, Below.refl _ _⟩)
  generalize NilR w (.int .i64 0) = post at *
  go_enter Try.func24, Try.ntmps24
  go_wp2
  exact HQ.out
theorem nil_names (w : World) : Calls Try.prog 23 #[.pointer none] w (NilR w (.slice none 0 0)) := by
  have HQ := Lib.hid (show NilR w (.slice none 0 0) (.returned (.slice none 0 0)) w from ⟨rfl, Below.refl _ _⟩)
  generalize NilR w (.slice none 0 0) = post at *
  go_enter Try.func23, Try.ntmps23
  go_wp2
  exact HQ.out
theorem nil_copy (w : World) : Calls Try.prog 12 #[.pointer none] w (NilR w (.pointer none)) := by
  have HQ := Lib.hid (show NilR w (.pointer none) (.returned (.pointer none)) w from ⟨rfl, Below.refl _ _⟩)
  generalize NilR w (.pointer none) = post at *
  go_enter Try.func12, Try.ntmps12
  go_wp2
  exact HQ.out
theorem nil_off (w : World) : Calls Try.prog 16 #[.pointer none] w (NilR w (.bool true)) := by
  have HQ := Lib.hid (show NilR w (.bool true) (.returned (.bool true)) w from ⟨rfl, Below.refl _ _⟩)
  generalize NilR w (.bool true) = post at *
  go_enter Try.func16, Try.ntmps16
  go_wp2
  exact HQ.out
theorem nil_crash (w : World) : Calls Try.prog 19 #[.pointer none] w (NilR w (.tuple #[])) := by
  have HQ := Lib.hid (show NilR w (.tuple #[]) (.returned (.tuple #[])) w from ⟨rfl, Below.refl _ _⟩)
  generalize NilR w (.tuple #[]) = post at *
  go_enter Try.func19, Try.ntmps19
  go_wp2
  go_end0
  exact HQ.out
theorem nil_on (w : World) (v : Value) : Calls Try.prog 20 #[.pointer none, v] w (NilR w (.tuple #[])) := by
  have HQ := Lib.hid (show NilR w (.tuple #[]) (.returned (.tuple #[])) w from ⟨rfl, Below.refl _ _⟩)
  generalize NilR w (.tuple #[]) = post at *
  go_enter Try.func20, Try.ntmps20
  go_wp2
  exact bodyPost_ret (v := .tuple #[]) (by simp [results, Try.results20, go_sem]) rfl HQ.out
theorem nil_fail (w : World) (n : Int) : Calls Try.prog 15 #[.pointer none, .int .i64 n] w (NilR w (.tuple #[])) := by
  have HQ := Lib.hid (show NilR w (.tuple #[]) (.returned (.tuple #[])) (w.alloc (.cells #[.int .i64 n] 3)) from ⟨rfl, (Below.refl _ _).alloc (Nat.le_refl _) _⟩)
  generalize NilR w (.tuple #[]) = post at *
  go_enter Try.func15, Try.ntmps15
  go_wp2
  exact bodyPost_ret (v := .tuple #[]) (by simp [results, Try.results15, go_sem]) rfl HQ.out
theorem nil_refuse (w : World) (v : Value) : Calls Try.prog 38 #[.pointer none, v] w (SameR w (.int .i64 1)) := by
  have HQ := Lib.hid (show SameR w (.int .i64 1) (.returned (.int .i64 1)) w from ⟨rfl, rfl⟩)
  generalize SameR w (.int .i64 1) = post at *
  go_enter Try.func38, Try.ntmps38
  go_wp2
  exact HQ.out
theorem nil_find (w : World) (v : Value) : Calls Try.prog 42 #[.pointer none, v] w (SameR w (.tuple #[.pointer none, .int .i64 1])) := by
  have HQ := Lib.hid (show SameR w (.tuple #[.pointer none, .int .i64 1]) (.returned (.tuple #[.pointer none, .int .i64 1])) w from ⟨rfl, rfl⟩)
  generalize SameR w (.tuple #[.pointer none, .int .i64 1]) = post at *
  have HR := Lib.hid (nil_refuse w v)
  go_enter Try.func42, Try.ntmps42
  go_wp2_with fail
  refine HR.out.mono ?_
  rintro e w' ⟨rfl, rfl⟩
  go_wp2
  exact HQ.out
theorem nil_append (w : World) (s : ByteArray) (A : Option Addr) (n c : Nat) : Calls Try.prog 17 #[.pointer none, .string s, .slice A n c] w (NilR w (.int .i64 1)) := by
  have HQ := Lib.hid (fun (w' : World) (hb : Below w.heap.size w w') => show NilR w (.int .i64 1) (.returned (.int .i64 1)) w' from ⟨rfl, hb⟩)
  generalize NilR w (.int .i64 1) = post at *
  have HR := Lib.hid (fun (w' : World) (v : Value) => nil_refuse w' v)
  go_enter Try.func17, Try.ntmps17
  go_wp2_with fail
  refine (HR.out _ _).mono ?_
  rintro e w' ⟨rfl, rfl⟩
  go_wp2
  refine HQ.out _ ?_
  repeat (first | with_reducible exact Below.refl _ _ | with_reducible refine Below.alloc ?_ (by simp <;> omega) _)
theorem nil_sync (w : World) (s : ByteArray) : Calls Try.prog 18 #[.pointer none, .string s] w (NilR w (.int .i64 1)) := by
  have HQ := Lib.hid (fun (w' : World) (hb : Below w.heap.size w w') => show NilR w (.int .i64 1) (.returned (.int .i64 1)) w' from ⟨rfl, hb⟩)
  generalize NilR w (.int .i64 1) = post at *
  have HR := Lib.hid (fun (w' : World) (v : Value) => nil_find w' v)
  go_enter Try.func18, Try.ntmps18
  go_wp2_with fail
  refine (HR.out _ _).mono ?_
  rintro e w' ⟨rfl, rfl⟩
  go_wp2
  refine HQ.out _ ?_
  repeat (first | with_reducible exact Below.refl _ _ | with_reducible refine Below.alloc ?_ (by simp <;> omega) _)
theorem nil_cut (w : World) (s : ByteArray) (n : Int) : Calls Try.prog 25 #[.pointer none, .string s, .int .i64 n] w (NilR w (.int .i64 1)) := by
  have HQ := Lib.hid (fun (w' : World) (hb : Below w.heap.size w w') => show NilR w (.int .i64 1) (.returned (.int .i64 1)) w' from ⟨rfl, hb⟩)
  generalize NilR w (.int .i64 1) = post at *
  have HR := Lib.hid (fun (w' : World) (v : Value) => nil_find w' v)
  go_enter Try.func25, Try.ntmps25
  go_wp2_with fail
  refine (HR.out _ _).mono ?_
  rintro e w' ⟨rfl, rfl⟩
  go_wp2
  refine HQ.out _ ?_
  repeat (first | with_reducible exact Below.refl _ _ | with_reducible refine Below.alloc ?_ (by simp <;> omega) _)
theorem nil_rename (w : World) (s t : ByteArray) : Calls Try.prog 22 #[.pointer none, .string s, .string t] w (NilR w (.int .i64 1)) := by
  have HQ := Lib.hid (fun (w' : World) (hb : Below w.heap.size w w') => show NilR w (.int .i64 1) (.returned (.int .i64 1)) w' from ⟨rfl, hb⟩)
  generalize NilR w (.int .i64 1) = post at *
  have HR := Lib.hid (fun (w' : World) (v : Value) => nil_find w' v)
  go_enter Try.func22, Try.ntmps22
  go_wp2_with fail
  refine (HR.out _ _).mono ?_
  rintro e w' ⟨rfl, rfl⟩
  go_wp2
  refine HQ.out _ ?_
  repeat (first | with_reducible exact Below.refl _ _ | with_reducible refine Below.alloc ?_ (by simp <;> omega) _)
theorem nil_remove (w : World) (s : ByteArray) : Calls Try.prog 26 #[.pointer none, .string s] w (NilR w (.int .i64 1)) := by
  have HQ := Lib.hid (fun (w' : World) (hb : Below w.heap.size w w') => show NilR w (.int .i64 1) (.returned (.int .i64 1)) w' from ⟨rfl, hb⟩)
  generalize NilR w (.int .i64 1) = post at *
  have HR := Lib.hid (fun (w' : World) (v : Value) => nil_find w' v)
  go_enter Try.func26, Try.ntmps26
  go_wp2_with fail
  refine (HR.out _ _).mono ?_
  rintro e w' ⟨rfl, rfl⟩
  go_wp2
  refine HQ.out _ ?_
  repeat (first | with_reducible exact Below.refl _ _ | with_reducible refine Below.alloc ?_ (by simp <;> omega) _)
theorem nil_read (w : World) (s : ByteArray) : Calls Try.prog 21 #[.pointer none, .string s] w (NilR w (.tuple #[.slice none 0 0, .int .i64 1])) := by
  have HQ := Lib.hid (fun (w' : World) (hb : Below w.heap.size w w') => show NilR w (.tuple #[.slice none 0 0, .int .i64 1]) (.returned (.tuple #[.slice none 0 0, .int .i64 1])) w' from ⟨rfl, hb⟩)
  generalize NilR w (.tuple #[.slice none 0 0, .int .i64 1]) = post at *
  have HR := Lib.hid (fun (w' : World) (v : Value) => nil_find w' v)
  go_enter Try.func21, Try.ntmps21
  go_wp2_with fail
  refine (HR.out _ _).mono ?_
  rintro e w' ⟨rfl, rfl⟩
  go_wp2
  refine HQ.out _ ?_
  repeat (first | with_reducible exact Below.refl _ _ | with_reducible refine Below.alloc ?_ (by simp <;> omega) _)
end Go.Proofs.Ytfgbaigpmhnoaaa
