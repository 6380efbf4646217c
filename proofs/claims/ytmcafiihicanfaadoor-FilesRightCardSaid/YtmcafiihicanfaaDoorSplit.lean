/- strings.Split at one byte, whatever the library's variables hold. -/
import Derived.Test.YtmcafiihicanfaaDoorShelf
import Derived.Test.YtmcafiihicanfaaDoorVerP
import Derived.Test.YtmcafiihicanfaaDoorKeep
import Derived.WalkKit
import Derived.Lib.Hide
set_option linter.unusedVariables false
set_option linter.unusedSimpArgs false
namespace Go.Proofs.YtmcafiihicanfaaDoor
open Go.RowKit Go.BigFrame
open Ver (parts brk BL)

theorem indexByte_brk' (c : UInt8) : ∀ l : List UInt8, Lib.indexByte l c = if (brk c l).2.2 = true then ((brk c l).1.length : Int) else -1
  | [] => rfl
  | x :: r => by
    have ih := indexByte_brk' c r
    unfold Lib.indexByte brk
    by_cases hx : x = c
    · subst hx; simp
    · rw [if_neg (by simpa using hx), if_neg hx, ih]
      cases hb : (brk c r).2.2
      · simp [hb]
      · simp only [if_pos, hb]
        rw [if_neg (by simp; try omega)]
        simp

theorem splitK_parts (c : UInt8) : ∀ (k : Nat) (l : BL), l.count c = k → Lib.splitK [c] 0 k l = parts c l
  | 0, l, h => by
    rw [Ver.parts_not c l (List.count_eq_zero.1 h)]; rfl
  | k + 1, l, h => by
    have hb : (brk c l).2.2 = true := by
      cases hb : (brk c l).2.2
      · have := (Ver.brk_no c l hb).2.2
        rw [List.count_eq_zero.2 this] at h; omega
      · rfl
    obtain ⟨he, hn⟩ := Ver.brk_yes c l hb
    have hi := Ver.index_one c l
    rw [if_pos hb] at hi
    rw [Ver.parts_brk_yes c l hb]
    generalize (brk c l).1 = a at *
    generalize (brk c l).2.1 = r at *
    subst he
    have hc : r.count c = k := by
      rw [List.count_append, List.count_eq_zero.2 hn, List.count_cons_self] at h; omega
    unfold Lib.splitK
    rw [hi, if_neg (by simp), ← splitK_parts c k r hc]
    simp
def piecesB (c : UInt8) (s : ByteArray) : List ByteArray := Lib.splitB ⟨#[c]⟩ 0 (Lib.countB s ⟨#[c]⟩) s
theorem pieces_data (c : UInt8) (s : ByteArray) : (piecesB c s).map (·.data.toList) = parts c s.data.toList := by
  unfold piecesB
  rw [Lib.splitB_data]
  refine splitK_parts c _ _ ?_
  show _ = Lib.count s.data.toList [c]
  rw [Lib.count_one]
theorem pieces_len (c : UInt8) (s : ByteArray) : (piecesB c s).length = Lib.countB s ⟨#[c]⟩ + 1 := Lib.splitB_all ⟨#[c]⟩ (Nat.le_refl 1) 0 _ s rfl
theorem pieces_le (c : UInt8) (s : ByteArray) : (piecesB c s).length ≤ s.size + 1 := by
  rw [pieces_len]; have := Lib.countB_le ⟨#[c]⟩ (Nat.le_refl 1) s.size s (Nat.le_refl _); omega
theorem indexB_one (c : UInt8) (x : ByteArray) : Lib.indexB x ⟨#[c]⟩ = Lib.indexByte x.data.toList c := (Ver.index_one c _).trans (indexByte_brk' c _).symm
theorem countB_one (c : UInt8) (s : ByteArray) : Lib.countB s ⟨#[c]⟩ = Lib.countByte s.data.toList c := Lib.count_one c _
set_option maxRecDepth 100000 in
set_option maxHeartbeats 800000 in
theorem split_any (c : UInt8) (s : ByteArray) (w : World) (hs : s.size < 4294967281) :
    Calls Tryd.prog 53 #[.string s, .string ⟨#[c]⟩] w fun e w' => e = .returned (.slice (some ⟨w.heap.size, 0, none⟩) (piecesB c s).length (piecesB c s).length) ∧ w' = w.alloc (.cells ((piecesB c s).map Value.string).toArray 9) := by
  have hle := Lib.countB_le ⟨#[c]⟩ (Nat.le_refl 1) s.size s (Nat.le_refl _)
  have hc := Any.strings_genSplit_core Tryd.lays221 (by kernel_rfl) s ⟨#[c]⟩ 0 (-1) (Lib.countB s ⟨#[c]⟩ + 1) w hs (Nat.le_refl 1) (Nat.zero_le _)
    (fun x cs _ => (Tryd.strings_Index_one x c _).mono fun e w' ⟨he, hw⟩ => ⟨by rw [he, indexB_one], hw⟩)
    ((Tryd.strings_Count_one s c w).mono fun e w' ⟨he, hw⟩ => ⟨by rw [he, countB_one], hw⟩)
    (by decide) (by decide) (by rw [if_pos (by decide)]; omega)
  · rw [Nat.add_sub_cancel, show Lib.splitB ⟨#[c]⟩ 0 (Lib.countB s ⟨#[c]⟩) s = piecesB c s from rfl] at hc
    have e2 : Lib.cellsOf (piecesB c s) (Lib.countB s ⟨#[c]⟩ + 1) = ((piecesB c s).map Value.string).toArray := by rw [← pieces_len]; exact Lib.cellsOf_full _
    rw [e2, ← pieces_len] at hc
    have HC := Lib.hid hc
    clear hc e2 hle
    go_enter Tryd.func53, Tryd.ntmps53
    go_wp2_with (go_at_call 60; refine HC.out.mono ?_; rintro e w' ⟨rfl, rfl⟩)
    go_ret
    exact ⟨rfl, rfl⟩
end Go.Proofs.YtmcafiihicanfaaDoor
