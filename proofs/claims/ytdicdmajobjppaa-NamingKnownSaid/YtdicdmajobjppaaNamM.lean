/- Contract of the law's works. -/
import Derived.Test.YtdicdmajobjppaaNamK
namespace Go.Proofs.Ytdicdmajobjppaa
open Go.RowKit

theorem zeros32 : #[Value.int IntKind.u8 0, Value.int IntKind.u8 0, Value.int IntKind.u8 0, Value.int IntKind.u8 0, Value.int IntKind.u8 0, Value.int IntKind.u8 0, Value.int IntKind.u8 0, Value.int IntKind.u8 0, Value.int IntKind.u8 0, Value.int IntKind.u8 0, Value.int IntKind.u8 0, Value.int IntKind.u8 0, Value.int IntKind.u8 0, Value.int IntKind.u8 0, Value.int IntKind.u8 0, Value.int IntKind.u8 0, Value.int IntKind.u8 0, Value.int IntKind.u8 0, Value.int IntKind.u8 0, Value.int IntKind.u8 0, Value.int IntKind.u8 0, Value.int IntKind.u8 0, Value.int IntKind.u8 0, Value.int IntKind.u8 0, Value.int IntKind.u8 0, Value.int IntKind.u8 0, Value.int IntKind.u8 0, Value.int IntKind.u8 0, Value.int IntKind.u8 0, Value.int IntKind.u8 0, Value.int IntKind.u8 0, Value.int IntKind.u8 0] = digA (fun _ => 0) 32 := by rfl
def zD : Nat → Nat := fun _ => 0
def eD : Nat → Nat := fun i => if i = 0 then 248 else 0
theorem zD_lt : ∀ i, zD i < 256 := fun i => by simp [zD]
theorem eD_lt : ∀ i, eD i < 256 := fun i => by unfold eD; split <;> omega
theorem eD_set : (digA zD 32).setIfInBounds 0 (.int .u8 248) = digA eD 32 := by rfl

theorem data_app (a b : ByteArray) : (a ++ b).data.toList = a.data.toList ++ b.data.toList := by rw [ByteArray.data_append, Array.toList_append]
theorem data_ext (a : ByteArray) (i j : Nat) : (a.extract i j).data.toList = (a.data.toList.drop i).take (j - i) := by
  rw [ByteArray.data_extract, Array.toList_extract, List.extract_eq_take_drop]
theorem letS_len (d : Nat → Nat) : (letS d).data.toList.length = 32 := letters_len _ _
theorem headS_nameS (d : Nat → Nat) (s : ByteArray) : headS (nameS d s) = letS d := by
  apply str_ext
  unfold headS nameS
  rw [data_ext, data_app, data_app, List.drop_zero, Nat.sub_zero, List.append_assoc, List.take_append_of_le_length (by rw [letS_len]; exact Nat.le_refl _), List.take_of_length_le (by rw [letS_len]; exact Nat.le_refl _)]
theorem nameS_size (d : Nat → Nat) (s : ByteArray) : (nameS d s).size = 33 + s.size := by
  have h1 := letS_size d
  unfold nameS
  rw [ByteArray.size_append, ByteArray.size_append, h1]
  rfl
theorem tailS_nameS (d : Nat → Nat) (s : ByteArray) : tailS (nameS d s) = s := by
  have hz := nameS_size d s
  apply str_ext
  unfold tailS
  rw [hz, data_ext]
  unfold nameS
  rw [data_app, data_app]
  rw [List.drop_append_of_le_length (by rw [List.length_append, letS_len]; exact Nat.le_refl _), List.drop_of_length_le (by rw [List.length_append, letS_len]; exact Nat.le_refl _), List.nil_append, List.take_of_length_le]
  rw [show s.data.toList.length = s.size from rfl]; omega
theorem dash_nameS (d : Nat → Nat) (s : ByteArray) : dashB (nameS d s) = true := by
  have : (nameS d s).data.toList[32]? = some 45 := by
    unfold nameS
    rw [data_app, data_app, List.append_assoc, List.getElem?_append_right (by rw [letS_len]; exact Nat.le_refl _), letS_len]
    rfl
  simp [dashB, this]
theorem okP_nameS (d : Nat → Nat) (s : ByteArray) (h : rightB s = true) : okP (nameS d s) = true := by
  simp [okP, headS_nameS, tailS_nameS, dash_nameS, okL_letS, h, nameS_size]
theorem fitB_nameS (d x : Nat → Nat) (s : ByteArray) (h : rightB s = true) : fitB (nameS d s) x = sameB (outD (letS d)) x := by
  rw [fitB, okP_nameS d s h, headS_nameS, Bool.true_and]

def gcc : ByteArray := ⟨#[103, 99, 99, 45, 49, 46, 50]⟩
def eee : ByteArray := ⟨#[101, 101, 101, 101, 101, 101, 101, 101, 101, 101, 101, 101, 101, 101, 101, 101, 101, 101, 101, 101, 101, 101, 101, 101, 101, 101, 101, 101, 101, 101, 101, 101, 45, 97]⟩
theorem gcc_right : rightB gcc = true := by decide +kernel
theorem eee_no : okP eee = false := by decide +kernel
theorem dot_no : rightB ⟨#[46, 97]⟩ = false := by decide +kernel
theorem blank_no : rightB ⟨#[97, 32, 98]⟩ = false := by decide +kernel
theorem fit_gcc : fitB (nameS zD gcc) zD = true := by decide +kernel
theorem letZ : (letS zD).toList = [48, 48, 48, 48, 48, 48, 48, 48, 48, 48, 48, 48, 48, 48, 48, 48, 48, 48, 48, 48, 48, 48, 48, 48, 48, 48, 48, 48, 48, 48, 48, 48] := by decide +kernel

theorem nameS_max (d : Nat → Nat) (s : ByteArray) (h : rightB s = true) : (nameS d s).size ≤ maxLen := by
  have := right_len h
  rw [nameS_size]
  unfold maxLen
  omega
theorem parse_name (d : Nat → Nat) (s : ByteArray) (w : World) (h : rightB s = true) :
    Calls Try.prog 18 #[.string (nameS d s)] w fun e w' => e = .returned (.tuple #[.string (letS d), .string s, .int .i64 0]) ∧ Below w.heap.size w w' := by
  have := parse_yes (nameS d s) w (nameS_max d s h) (okP_nameS d s h)
  rw [headS_nameS, tailS_nameS] at this
  exact this
theorem fits_name (d x : Nat → Nat) (s : ByteArray) (w : World) (h : rightB s = true) :
    Calls Try.prog 20 #[.string (nameS d s), .agg (digA x 32)] w fun e w' => e = .returned (.bool (sameB (outD (letS d)) x)) ∧ Below w.heap.size w w' := by
  have := fits_yes (nameS d s) x w (nameS_max d s h) (okP_nameS d s h)
  rw [fitB_nameS d x s h] at this
  exact this

theorem wb1 : ((letS zD).toList == [48, 48, 48, 48, 48, 48, 48, 48, 48, 48, 48, 48, 48, 48, 48, 48, 48, 48, 48, 48, 48, 48, 48, 48, 48, 48, 48, 48, 48, 48, 48, 48]) = true := by decide +kernel
theorem wb2 : ((letS eD).toList == (ByteArray.mk #[122] ++ (letS zD).extract 1 (letS zD).size).toList) = true := by decide +kernel
theorem wb3 : ((nameS zD gcc).toList == (letS zD ++ ByteArray.mk #[45, 103, 99, 99, 45, 49, 46, 50]).toList) = true := by decide +kernel
theorem wb4 : (gcc.toList == [103, 99, 99, 45, 49, 46, 50]) = true := by decide +kernel

set_option maxHeartbeats 1000000 in
theorem works_any (w : World) : Calls Try.prog 11 #[] w fun e w' => e = .returned (.bool true) ∧ Below w.heap.size w w' := by
  go_enter Try.func11, Try.ntmps11
  go_upto_region 2 with (fail)
  rw [zeros32]
  obtain ⟨w1, hw1, hg1, hb1, hsz1⟩ := row_new w (.cells (digA zD 32) 23)
  rw [show (digA (fun _ => 0) 32) = digA zD 32 from rfl, ← hw1]
  clear hw1
  go_wp2_with (refine wpList_load_row rfl 23 _ rfl w.heap.size rfl 23 _ (0, 0) _ hg1 Try.underlying23 rfl (by rw [digA_size]; exact info32) ?_)
  refine (letters_is zD zD_lt _).mono ?_
  rintro e w2 ⟨rfl, hb2⟩
  have hg2 : w2.heap[w.heap.size]? = some (.cells (digA zD 32) 23 (0, 0)) := (hb2.block _ (by omega)).trans hg1
  have hc2 : w2.cell? ⟨w.heap.size, 0, none⟩ = some (.int .u8 0) := by rw [cell_of_row _ _ _ _ _ _ hg2]; rfl
  have hf2 : w2.frozen? ⟨w.heap.size, 0, none⟩ = false := frozen_of_row _ _ _ _ _ hg2
  have hg3 := heap_setCell_same w2 w.heap.size 0 _ _ (.int .u8 248) hg2
  rw [eD_set] at hg3
  have hb3 := ((hb1.trans (hb2.mono (by omega))).setCell (p := ⟨w.heap.size, 0, none⟩) (Nat.le_refl _) (.int .u8 248))
  have hz3 : w.heap.size < (w2.setCell ⟨w.heap.size, 0, none⟩ (.int .u8 248)).heap.size := by have := hb2.size; simp; omega
  go_wp2_with (refine wpList_load_row rfl 23 _ rfl w.heap.size rfl 23 _ (0, 0) _ hg3 Try.underlying23 rfl (by rw [digA_size]; exact info32) ?_)
  refine (letters_is eD eD_lt _).mono ?_
  rintro e w4 ⟨rfl, hb4⟩
  have hB4 : Below w.heap.size w w4 := hb3.trans (hb4.mono (by omega))
  clear hg1 hb1 hb2 hg2 hc2 hf2 hg3 hb3 hz3 hb4 hsz1
  go_wp2_with fail
  rw [zeros32]
  refine (name_yes zD zD_lt gcc _ (by decide) gcc_right).mono ?_
  rintro e w5 ⟨rfl, hb5⟩
  have hB5 : Below w.heap.size w w5 := hB4.trans (hb5.mono hB4.size)
  clear hb5
  go_wp2_with fail
  refine (parse_name zD gcc _ gcc_right).mono ?_
  rintro e w6 ⟨rfl, hb6⟩
  have hB6 : Below w.heap.size w w6 := hB5.trans (hb6.mono hB5.size)
  clear hb6
  go_wp2_with fail
  refine (parse_no eee _ (by decide) eee_no).mono ?_
  rintro e w7 ⟨rfl, hb7⟩
  have hB7 : Below w.heap.size w w7 := hB6.trans (hb7.mono hB6.size)
  clear hb7 hB4 hB5 hB6
  have b1 := wb1
  have b2 := wb2
  have b3 := wb3
  have b4 := wb4
  have hz1 : 1 ≤ (letS zD).size := by rw [letS_size]; omega
  have hz2 : (letS zD).size ≤ 32 := by rw [letS_size]; omega
  go_wp2_with fail
  refine (right_is false _ _ (by decide) dot_no).mono ?_
  rintro e w' ⟨rfl, rfl⟩
  go_wp2_with fail
  refine (right_is false _ _ (by decide) blank_no).mono ?_
  rintro e w' ⟨rfl, rfl⟩
  go_wp2_with fail
  rw [zeros32]
  have hsame : sameB (outD (letS zD)) zD = true := by rw [← fitB_nameS zD zD gcc gcc_right]; exact fit_gcc
  refine (fits_name zD zD gcc _ gcc_right).mono ?_
  rw [hsame]
  rintro e w8 ⟨rfl, hb8⟩
  go_wp2_with fail
  go_ret
  exact ⟨rfl, hB7.trans (hb8.mono hB7.size)⟩
end Go.Proofs.Ytdicdmajobjppaa
