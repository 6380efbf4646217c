/- Contract of the law's works. -/
import Derived.Test.YtadlimfpcfdgcaaNamK
set_option linter.unusedVariables false
set_option linter.unusedSimpArgs false
namespace Go.Proofs.Ytadlimfpcfdgcaa.Nam
open Go.RowKit

theorem zeros32 : #[Value.int IntKind.u8 0, Value.int IntKind.u8 0, Value.int IntKind.u8 0, Value.int IntKind.u8 0, Value.int IntKind.u8 0, Value.int IntKind.u8 0, Value.int IntKind.u8 0, Value.int IntKind.u8 0, Value.int IntKind.u8 0, Value.int IntKind.u8 0, Value.int IntKind.u8 0, Value.int IntKind.u8 0, Value.int IntKind.u8 0, Value.int IntKind.u8 0, Value.int IntKind.u8 0, Value.int IntKind.u8 0, Value.int IntKind.u8 0, Value.int IntKind.u8 0, Value.int IntKind.u8 0, Value.int IntKind.u8 0, Value.int IntKind.u8 0, Value.int IntKind.u8 0, Value.int IntKind.u8 0, Value.int IntKind.u8 0, Value.int IntKind.u8 0, Value.int IntKind.u8 0, Value.int IntKind.u8 0, Value.int IntKind.u8 0, Value.int IntKind.u8 0, Value.int IntKind.u8 0, Value.int IntKind.u8 0, Value.int IntKind.u8 0] = digA (fun _ => 0) 32 := by rfl
def zD : Nat → Nat := fun _ => 0
def eD : Nat → Nat := fun i => if i = 0 then 248 else 0
theorem zD_lt : ∀ i, zD i < 256 := fun i => by simp [zD]
theorem eD_lt : ∀ i, eD i < 256 := fun i => by unfold eD; split <;> omega
theorem eD_set : (digA zD 32).setIfInBounds 0 (.int .u8 248) = digA eD 32 := by rfl

theorem data_app (a b : ByteArray) : (a ++ b).data.toList = a.data.toList ++ b.data.toList := by rw [ByteArray.data_append, Array.toList_append]
theorem data_ext (a : ByteArray) (i j : Nat) : (a.extract i j).data.toList = (a.data.toList.drop i).take (j - i) := by
  rw [ByteArray.data_extract, Array.toList_extract, List.extract_eq_take_drop]
theorem letS_len (d : Nat → Nat) : (letS d).data.toList.length = 32 := letters_len _ _
theorem headS_nameS (d : Nat → Nat) (s : ByteArray) : headS (nameS d s) = letS d := by
  apply str_ext
  unfold headS nameS
  rw [data_ext, data_app, data_app, List.drop_zero, Nat.sub_zero, List.append_assoc, List.take_append_of_le_length (by rw [letS_len]; exact Nat.le_refl _), List.take_of_length_le (by rw [letS_len]; exact Nat.le_refl _)]
theorem nameS_size (d : Nat → Nat) (s : ByteArray) : (nameS d s).size = 33 + s.size := by
  have h1 := letS_size d
  unfold nameS
  rw [ByteArray.size_append, ByteArray.size_append, h1]
  rfl
theorem tailS_nameS (d : Nat → Nat) (s : ByteArray) : tailS (nameS d s) = s := by
  have hz := nameS_size d s
  apply str_ext
  unfold tailS
  rw [hz, data_ext]
  unfold nameS
  rw [data_app, data_app]
  rw [List.drop_append_of_le_length (by rw [List.length_append, letS_len]; exact Nat.le_refl _), List.drop_of_length_le (by rw [List.length_append, letS_len]; exact Nat.le_refl _), List.nil_append, List.take_of_length_le]
  rw [show s.data.toList.length = s.size from rfl]; omega
theorem dash_nameS (d : Nat → Nat) (s : ByteArray) : dashB (nameS d s) = true := by
  have : (nameS d s).data.toList[32]? = some 45 := by
    unfold nameS
    rw [data_app, data_app, List.append_assoc, List.getElem?_append_right (by rw [letS_len]; exact Nat.le_refl _), letS_len]
    rfl
  simp [dashB, this]
theorem okP_nameS (d : Nat → Nat) (s : ByteArray) (h : rightB s = true) : okP (nameS d s) = true := by
  simp [okP, headS_nameS, tailS_nameS, dash_nameS, okL_letS, h, nameS_size]
theorem fitB_nameS (d x : Nat → Nat) (s : ByteArray) (h : rightB s = true) : fitB (nameS d s) x = sameB (outD (letS d)) x := by
  rw [fitB, okP_nameS d s h, headS_nameS, Bool.true_and]

def gcc : ByteArray := ⟨#[103, 99, 99, 45, 49, 46, 50]⟩
def eee : ByteArray := ⟨#[101, 101, 101, 101, 101, 101, 101, 101, 101, 101, 101, 101, 101, 101, 101, 101, 101, 101, 101, 101, 101, 101, 101, 101, 101, 101, 101, 101, 101, 101, 101, 101, 45, 97]⟩
theorem gcc_right : rightB gcc = true := by decide +kernel
theorem eee_no : okP eee = false := by decide +kernel
theorem dot_no : rightB ⟨#[46, 97]⟩ = false := by decide +kernel
theorem blank_no : rightB ⟨#[97, 32, 98]⟩ = false := by decide +kernel
theorem fit_gcc : fitB (nameS zD gcc) zD = true := by decide +kernel
theorem letZ : (letS zD).toList = [48, 48, 48, 48, 48, 48, 48, 48, 48, 48, 48, 48, 48, 48, 48, 48, 48, 48, 48, 48, 48, 48, 48, 48, 48, 48, 48, 48, 48, 48, 48, 48] := by decide +kernel

theorem nameS_max (d : Nat → Nat) (s : ByteArray) (h : rightB s = true) : (nameS d s).size ≤ maxLen := by
  have := right_len h
  rw [nameS_size]
  unfold maxLen
  omega
theorem parse_name (d : Nat → Nat) (s : ByteArray) (w : World) (h : rightB s = true) :
    Calls Try.prog 35 #[.string (nameS d s)] w fun e w' => e = .returned (.tuple #[.string (letS d), .string s, .int .i64 0]) ∧ Below w.heap.size w w' := by
  have := parse_yes (nameS d s) w (nameS_max d s h) (okP_nameS d s h)
  rw [headS_nameS, tailS_nameS] at this
  exact this
theorem wb1 : ((letS zD).toList == [48, 48, 48, 48, 48, 48, 48, 48, 48, 48, 48, 48, 48, 48, 48, 48, 48, 48, 48, 48, 48, 48, 48, 48, 48, 48, 48, 48, 48, 48, 48, 48]) = true := by decide +kernel
theorem wb2 : ((letS eD).toList == (ByteArray.mk #[122] ++ (letS zD).extract 1 (letS zD).size).toList) = true := by decide +kernel
theorem wb3 : ((nameS zD gcc).toList == (letS zD ++ ByteArray.mk #[45, 103, 99, 99, 45, 49, 46, 50]).toList) = true := by decide +kernel
theorem wb4 : (gcc.toList == [103, 99, 99, 45, 49, 46, 50]) = true := by decide +kernel

end Go.Proofs.Ytadlimfpcfdgcaa.Nam
