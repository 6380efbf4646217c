/- Contracts of ranges.sign, bound. -/
import Derived.Test.YtjckcdemkpmheaaDoorRngA
namespace Go.Proofs.YtjckcdemkpmheaaDoor
open Go.RowKit Go.BigFrame
open Ver (cmpV BL)

def sgnB (o : Nat) : ByteArray := ⟨(Rng.sgnL o).toArray⟩
theorem op_cases (o : Nat) (h : o ≤ 7) : o = 0 ∨ o = 1 ∨ o = 2 ∨ o = 3 ∨ o = 4 ∨ o = 5 ∨ o = 6 ∨ o = 7 := by omega
def sgnTab : Value := .agg #[.string ⟨#[42]⟩, .string ⟨#[61]⟩, .string ⟨#[33, 61]⟩, .string ⟨#[60]⟩, .string ⟨#[60, 61]⟩, .string ⟨#[62]⟩, .string ⟨#[62, 61]⟩, .string ⟨#[126]⟩]
theorem index_sgn (o : Nat) (h : o ≤ 7) (w : World) : Sem.run Tryd.prog (Instr.index 80 sgnTab (.int .u8 (o : Int))) w = .ok (.string (sgnB o)) w := by
  rcases op_cases o h with rfl | rfl | rfl | rfl | rfl | rfl | rfl | rfl <;> first | kernel_rfl | rfl
set_option maxRecDepth 100000 in
set_option maxHeartbeats 400000 in
theorem sign_any (o : Nat) (h : o ≤ 7) (w : World) : Calls Tryd.prog 29 #[.int .u8 (o : Int)] w fun e w' => e = .returned (.string (sgnB o)) ∧ w' = w := by
  have hi := index_sgn o h
  unfold sgnTab at hi
  go_enter Tryd.func29, Tryd.ntmps29
  go_wp2
  go_ret
  exact ⟨rfl, rfl⟩
def rawB (s : ByteArray) : Bd := bdOf (Rng.rawL s.data.toList)
set_option maxRecDepth 100000 in
set_option maxHeartbeats 800000 in
theorem bound_star (w : World) : Calls Tryd.prog 24 #[.string ⟨#[42]⟩] w fun e w' => e = .returned (.agg #[.int .u8 0, .string ⟨#[]⟩]) ∧ Below w.heap.size w w' := by
  go_enter Tryd.func24, Tryd.ntmps24
  go_wp2
  refine bodyPost_ret (v := .agg #[.int .u8 0, .string ⟨#[]⟩]) (by simp [results, Tryd.results24, go_sem]) rfl ⟨rfl, ?_⟩
  exact (Below.refl _ _).alloc (Nat.le_refl _) _
def tab7 : List Nat := [2, 4, 6, 1, 3, 5, 7]
def tabV : Value := .agg #[.int .u8 2, .int .u8 4, .int .u8 6, .int .u8 1, .int .u8 3, .int .u8 5, .int .u8 7]
set_option maxRecDepth 100000 in
set_option maxHeartbeats 400000 in
theorem index_tab (k : Nat) (h : k < 7) (w : World) : Sem.run Tryd.prog (Instr.index 70 tabV (.int .i64 (k : Int))) w = .ok (.int .u8 ((tab7.getD k 0 : Nat) : Int)) w := by
  have : k = 0 ∨ k = 1 ∨ k = 2 ∨ k = 3 ∨ k = 4 ∨ k = 5 ∨ k = 6 := by omega
  rcases this with rfl | rfl | rfl | rfl | rfl | rfl | rfl <;> first | kernel_rfl | rfl
theorem tab_le (k : Nat) : tab7.getD k 0 ≤ 7 := by
  by_cases h : k < 7
  · have : k = 0 ∨ k = 1 ∨ k = 2 ∨ k = 3 ∨ k = 4 ∨ k = 5 ∨ k = 6 := by omega
    rcases this with rfl | rfl | rfl | rfl | rfl | rfl | rfl <;> decide
  · have : tab7[k]? = none := List.getElem?_eq_none (by simp [tab7]; omega)
    simp [List.getD, this]
theorem tab_drop (k : Nat) (h : k < 7) : tab7.drop k = tab7.getD k 0 :: tab7.drop (k + 1) := by
  rw [List.drop_eq_getElem_cons (by simp [tab7]; omega)]
  congr 1
  simp [List.getD, show k < tab7.length from h]
theorem sgnB_list (o : Nat) : (sgnB o).data.toList = Rng.sgnL o := by simp [sgnB]
theorem cutP_any (b : Bool) (o : Nat) (s : ByteArray) (w : World) (h : Lib.hasPrefix s.data.toList (Rng.sgnL o) = b) : Calls Tryd.prog 39 #[.string s, .string (sgnB o)] w fun e w' => e = .returned (.tuple #[.string ⟨(Lib.trimPrefix s.data.toList (Rng.sgnL o)).toArray⟩, .bool b]) ∧ w' = w := by
  have := Tryd.strings_CutPrefix s (sgnB o) w
  rw [sgnB_list, h] at this
  exact this
set_option maxRecDepth 100000 in
set_option maxHeartbeats 2000000 in
theorem bound_other (s : ByteArray) (hs : s ≠ ⟨#[42]⟩) (w : World) : Calls Tryd.prog 24 #[.string s] w fun e w' => e = .returned (.agg #[.int .u8 ((rawB s).1 : Int), .string (rawB s).2]) ∧ Below w.heap.size w w' := by
  have hne : (s.toList == [42]) = false := by
    have h := (str_ne_iff s ⟨#[42]⟩).trans (decide_eq_false hs)
    rw [Lib.toList_data ⟨#[42]⟩] at h; exact h
  have HR := Lib.hid (show rawB s = bdOf (Rng.firstOf tab7 s.data.toList) by
    unfold rawB Rng.rawL
    rw [if_neg fun h => hs (str_ext h)]; rfl)
  have HT := Lib.hid index_tab
  clear hs
  go_enter Tryd.func24, Tryd.ntmps24
  go_wp2
  obtain ⟨W0, hW0, hg0, _, hz0, hb0⟩ := row_at w w (.cells #[.int .u8 0, .string ⟨#[]⟩] 45) (Below.refl _ _)
  rw [← hW0]
  have HZ0 := Lib.hid hz0
  clear hW0 hz0
  go_loopw [11] (fun i wr => ∃ (k : Nat), k ≤ 7 ∧ i = .int .i64 (k : Int) ∧ Hid (wr = W0) ∧ Hid (Rng.firstOf tab7 s.data.toList = Rng.firstOf (tab7.drop k) s.data.toList)) (fun i _ => 7 - (intOf i).toNat)
  case atStart => exact ⟨0, by omega, rfl, Lib.hid rfl, Lib.hid rfl⟩
  case round =>
    obtain ⟨k, hk, rfl, HW, HF⟩ := hrel
    obtain ⟨hc0, hc1, hf0, hf1⟩ := cell_two hg0
    by_cases hlt : k < 7
    · have ht := HT.out k hlt
      unfold tabV at ht
      have ho := tab_le k
      have HD := Lib.hid (tab_drop k hlt)
      generalize tab7.getD k 0 = o at *
      cases hp : Lib.hasPrefix s.data.toList (Rng.sgnL o)
      · have HP := Lib.hid hp
        have HN := Lib.hid (show Rng.firstOf tab7 s.data.toList = Rng.firstOf (tab7.drop (k + 1)) s.data.toList by
          rw [HF.out, HD.out]
          show (if _ then _ else _) = _
          rw [if_neg (by rw [HP.out]; simp)])
        clear hp
        rw [HW.out]
        go_wp2_with (first | (go_at_call 29; refine (sign_any _ ho _).mono ?_; rintro e w' ⟨rfl, rfl⟩) | (go_at_call 39; refine (cutP_any false _ _ _ HP.out).mono ?_; rintro e w' ⟨rfl, rfl⟩))
        go_roundw
        case rel => exact ⟨k + 1, by omega, by go_num, Lib.hid (by first | trivial | rfl), HN⟩
        case measure => simp [intOf]; omega
      · have HP := Lib.hid hp
        have HN := Lib.hid (show rawB s = bdOf (o, Lib.trimPrefix s.data.toList (Rng.sgnL o)) by
          rw [HR.out, HF.out, HD.out]
          show bdOf (if _ then _ else _) = _
          rw [if_pos HP.out])
        clear hp
        rw [HW.out]
        go_wp2_with (first | (go_at_call 29; refine (sign_any _ ho _).mono ?_; rintro e w' ⟨rfl, rfl⟩) | (go_at_call 39; refine (cutP_any true _ _ _ HP.out).mono ?_; rintro e w' ⟨rfl, rfl⟩))
        refine bodyPost_ret (v := .agg #[.int .u8 (o : Int), .string ⟨(Lib.trimPrefix s.data.toList (Rng.sgnL o)).toArray⟩]) (by simp [results, Tryd.results24, go_sem, hc0, hc1, hf0, hf1]) rfl ⟨?_, ?_⟩
        · rw [HN.out]; rfl
        · exact (hb0.setCell (Nat.le_refl _) _).setCell (Nat.le_refl _) _
    · have HN := Lib.hid (show rawB s = (8, ⟨#[]⟩) by
        rw [HR.out, HF.out, show k = 7 by omega]; rfl)
      rw [HW.out]
      go_wp2
      refine bodyPost_ret (v := .agg #[.int .u8 8, .string ⟨#[]⟩]) (by simp [results, Tryd.results24, go_sem, hc0, hc1, hf0, hf1]) rfl ⟨?_, ?_⟩
      · rw [HN.out]; rfl
      · exact (hb0.setCell (Nat.le_refl _) _).setCell (Nat.le_refl _) _
theorem bound_any (s : ByteArray) (w : World) : Calls Tryd.prog 24 #[.string s] w fun e w' => e = .returned (.agg #[.int .u8 ((rawB s).1 : Int), .string (rawB s).2]) ∧ Below w.heap.size w w' := by
  by_cases hs : s = ⟨#[42]⟩
  · subst hs; exact bound_star w
  · exact bound_other s hs w
end Go.Proofs.YtjckcdemkpmheaaDoor
