/- Contracts of the functions over a text alone: tags and numbers, of version and of its reference. -/
import Derived.Test.YtcnedecmmplmoaaGreatDoorProg
import Derived.Test.YtcnedecmmplmoaaGreatDoorCm01
import Derived.LoopTactic
set_option linter.unusedVariables false
set_option linter.unusedSimpArgs false
namespace Go.Proofs.YtcnedecmmplmoaaGreatDoor
open Go.RowKit Go.BigFrame
open Ver (digB tagB numV okNum okTag)

theorem take_snoc (s : ByteArray) (k : Nat) (h : k < s.size) : s.data.toList.take (k + 1) = s.data.toList.take k ++ [s[k]] := by
  rw [List.take_succ_eq_append_getElem (by simpa using h)]; rfl
theorem all_step (p : UInt8 → Bool) (s : ByteArray) (k : Nat) (h : k < s.size) (ha : (s.data.toList.take k).all p = true) (hp : p s[k] = true) : (s.data.toList.take (k + 1)).all p = true := by
  rw [take_snoc s k h, List.all_append, ha, List.all_cons, hp]; rfl
theorem all_no (p : UInt8 → Bool) (s : ByteArray) (k : Nat) (h : k < s.size) (hp : p s[k] = false) : s.data.toList.all p = false := by
  rw [List.all_eq_false]
  exact ⟨s[k], List.getElem_mem (l := s.data.toList) (by simpa using h), by simp [hp]⟩
theorem take_all (s : ByteArray) : s.data.toList.take s.size = s.data.toList := List.take_of_length_le (by simp)
theorem len_data (s : ByteArray) : s.data.toList.length = s.size := by simp
theorem tagB_yes (c : UInt8) (h : (97 ≤ (c.toNat : Int) ∧ (c.toNat : Int) ≤ 122) ∨ (48 ≤ (c.toNat : Int) ∧ (c.toNat : Int) ≤ 57)) : tagB c = true := by unfold tagB; simp; omega
theorem tagB_no (c : UInt8) (h : ¬ ((97 ≤ (c.toNat : Int) ∧ (c.toNat : Int) ≤ 122) ∨ (48 ≤ (c.toNat : Int) ∧ (c.toNat : Int) ≤ 57))) : tagB c = false := by unfold tagB; simp; omega
theorem digB_yes (c : UInt8) (h : 48 ≤ (c.toNat : Int) ∧ (c.toNat : Int) ≤ 57) : digB c = true := by unfold digB; simp; omega
theorem digB_no (c : UInt8) (h : ¬ (48 ≤ (c.toNat : Int) ∧ (c.toNat : Int) ≤ 57)) : digB c = false := by unfold digB; simp; omega
def fullTag (s : ByteArray) : Bool := decide (1 ≤ s.size) && okTag s.data.toList
theorem fullTag_long (s : ByteArray) (h : 16 < s.size) : fullTag s = false := by simp [fullTag, okTag]; omega
theorem fullTag_nil (s : ByteArray) (h : s.size = 0) : fullTag s = false := by simp [fullTag, h]
theorem fullTag_no (s : ByteArray) (h : s.data.toList.all tagB = false) : fullTag s = false := by simp only [fullTag, okTag, h]; simp
theorem fullTag_yes (s : ByteArray) (h0 : 1 ≤ s.size) (h1 : s.size ≤ 16) (h : s.data.toList.all tagB = true) : fullTag s = true := by
  simp only [fullTag, okTag, h, len_data]; simp; omega
theorem okTag_no (s : ByteArray) (h : s.data.toList.all tagB = false) : okTag s.data.toList = false := by simp only [okTag, h]; simp
theorem okTag_yes (s : ByteArray) (h : s.data.toList.all tagB = true) : okTag s.data.toList = decide ((s.size : Int) ≤ 16) := by
  simp only [okTag, h, len_data]; simp; omega
theorem nil_list (s : ByteArray) (h : s.size = 0) : s.toList = [] := by
  have := Lib.toList_data s
  rw [this]
  exact List.eq_nil_of_length_eq_zero (by rw [len_data]; exact h)
theorem cons_list' (s : ByteArray) (h : 1 ≤ s.size) : ¬ s.toList = [] := fun e => by
  rw [Lib.toList_data s] at e
  have := congrArg List.length e
  rw [len_data, List.length_nil] at this
  omega
theorem cons_list (s : ByteArray) (h : 1 ≤ s.size) : s.toList.isEmpty = false := by
  cases e : s.toList with
  | nil => exact absurd e (cons_list' s h)
  | cons => rfl

set_option maxRecDepth 100000 in
set_option maxHeartbeats 400000 in
theorem rightTag_any (s : ByteArray) (w : World) (hs : s.size ≤ maxLen) :
    Calls Tryz.prog 92 #[.string s] w fun e w' => e = .returned (.bool (fullTag s)) ∧ w = w' := by
  unfold maxLen at hs
  by_cases h0 : s.size = 0
  · have HF := Lib.hid (fullTag_nil s h0)
    have hn := nil_list s h0
    clear h0
    go_enter Tryz.func92, Tryz.ntmps92
    go_wp2
    go_ret
    exact ⟨ret_bool HF.out.symm, rfl⟩
  · have hn := cons_list s (by omega)
    by_cases h16 : 16 < s.size
    · have HF := Lib.hid (fullTag_long s h16)
      go_enter Tryz.func92, Tryz.ntmps92
      go_wp2
      go_ret
      exact ⟨ret_bool HF.out.symm, rfl⟩
    · have h16' : s.size ≤ 16 := by omega
      have h1' : 1 ≤ s.size := by omega
      clear h16 h0
      go_enter Tryz.func92, Tryz.ntmps92
      go_wp2
      go_loop [14] (fun i => ∃ k : Nat, k ≤ s.size ∧ i = .int .i64 k ∧ Hid ((s.data.toList.take k).all tagB = true)) (fun i => s.size - (intOf i).toNat)
      case atStart => exact ⟨0, by omega, rfl, Lib.hid rfl⟩
      case round =>
        obtain ⟨k, hk, rfl, HA⟩ := hrel
        by_cases hlt : k < s.size
        · go_wp2
          all_goals first
            | (go_round
               case rel => exact ⟨k + 1, by omega, by go_num, Lib.hid (all_step _ s k hlt HA.out (tagB_yes _ (by omega)))⟩
               case measure => simp [intOf]; omega)
            | (go_ret
               exact ⟨ret_bool (fullTag_no s (all_no _ s k hlt (tagB_no _ (by omega)))).symm, rfl⟩)
        · have HF := Lib.hid (fullTag_yes s (by omega) (by omega) (by rw [← take_all s, show s.size = k by omega]; exact HA.out))
          go_wp2
          go_ret
          exact ⟨ret_bool HF.out.symm, rfl⟩
set_option maxRecDepth 100000 in
set_option maxHeartbeats 400000 in
theorem refTag_any (s : ByteArray) (w : World) (hs : s.size ≤ maxLen) :
    Calls Tryz.prog 98 #[.string s] w fun e w' => e = .returned (.bool (okTag s.data.toList)) ∧ w = w' := by
  unfold maxLen at hs
  go_enter Tryz.func98, Tryz.ntmps98
  go_wp2
  go_loop [3] (fun i => ∃ k : Nat, k ≤ s.size ∧ i = .int .i64 k ∧ Hid ((s.data.toList.take k).all tagB = true)) (fun i => s.size - (intOf i).toNat)
  case atStart => exact ⟨0, by omega, rfl, Lib.hid rfl⟩
  case round =>
    obtain ⟨k, hk, rfl, HA⟩ := hrel
    by_cases hlt : k < s.size
    · go_wp2
      all_goals first
        | (go_round
           case rel => exact ⟨k + 1, by omega, by go_num, Lib.hid (all_step _ s k hlt HA.out (tagB_yes _ (by omega)))⟩
           case measure => simp [intOf]; omega)
        | (go_ret
           exact ⟨ret_bool (okTag_no s (all_no _ s k hlt (tagB_no _ (by omega)))).symm, rfl⟩)
    · have HF := Lib.hid (okTag_yes s (by rw [← take_all s, show s.size = k by omega]; exact HA.out))
      go_wp2
      go_ret
      exact ⟨ret_bool HF.out.symm, rfl⟩

/-- Numbers. -/
theorem okNum_nil (s : ByteArray) (h : s.size = 0) : okNum s.data.toList = false := by simp [okNum, h]
theorem okNum_long (s : ByteArray) (h : 9 < s.size) : okNum s.data.toList = false := by
  have : ¬ (1 ≤ s.data.toList.length ∧ s.data.toList.length ≤ 9) := by rw [len_data]; omega
  unfold okNum
  rw [decide_eq_false this]; simp
theorem okNum_all (s : ByteArray) (h : s.data.toList.all digB = false) : okNum s.data.toList = false := by simp only [okNum, h]; simp
theorem head_at (s : ByteArray) (h : 0 < s.size) : s.data.toList.head? = some s[0] := by
  rw [List.head?_eq_getElem?, List.getElem?_eq_getElem (by rw [len_data]; exact h)]; rfl
theorem okNum_zero (s : ByteArray) (h : 1 < s.size) (h0 : 0 < s.size) (hz : (s[0].toNat : Int) = 48) : okNum s.data.toList = false := by
  have e : s[0] = 48 := UInt8.toNat_inj.1 (by simpa using (by omega : s[0].toNat = 48))
  simp only [okNum, head_at s h0, e, len_data, h]; simp
theorem okNum_yes (s : ByteArray) (h1 : 1 ≤ s.size) (h9 : s.size ≤ 9) (h0 : 0 < s.size) (hz : (s[0].toNat : Int) ≠ 48 ∨ s.size ≤ 1) (ha : s.data.toList.all digB = true) : okNum s.data.toList = true := by
  have e : (decide (s.data.toList.head? = some 48) && decide (1 < s.data.toList.length)) = false := by
    rw [head_at s h0, len_data]
    rcases hz with hz | hz
    · have : s[0] ≠ 48 := fun e => hz (by rw [e]; rfl)
      simp [this]
    · simp; omega
  unfold okNum
  rw [e, ha, len_data, decide_eq_true ⟨h1, h9⟩]; rfl
theorem numV_take (s : ByteArray) (k : Nat) (h : k < s.size) : numV (s.data.toList.take (k + 1)) = 10 * numV (s.data.toList.take k) + (s[k].toNat - 48) := by
  rw [take_snoc s k h, Ver.numV_snoc]
theorem numV_bd (s : ByteArray) (k : Nat) (h : (s.data.toList.take k).all digB = true) (h9 : k ≤ 9) : numV (s.data.toList.take k) < 1000000000 :=
  Ver.numV_le _ h (by rw [List.length_take]; omega)
theorem digit_val (c : UInt8) (h1 : 48 ≤ (c.toNat : Int)) : ((c.toNat - 48 : Nat) : Int) = (c.toNat : Int) - 48 := by omega
end Go.Proofs.YtcnedecmmplmoaaGreatDoor

/- Contracts of number, of version and of its reference. -/
namespace Go.Proofs.YtcnedecmmplmoaaGreatDoor
open Go.RowKit Go.BigFrame
open Ver (digB tagB numV okNum okTag)

def numR (s : ByteArray) : Int := if okNum s.data.toList = true then (numV s.data.toList : Int) else 0
theorem numR_no (s : ByteArray) (h : okNum s.data.toList = false) : numR s = 0 := by unfold numR; rw [if_neg (by rw [h]; simp)]
theorem numR_yes (s : ByteArray) (h : okNum s.data.toList = true) : numR s = (numV s.data.toList : Int) := by unfold numR; rw [if_pos h]
theorem ret_pair {a b : Int} {c d : Bool} (h : a = b) (h2 : c = d) : Ending.returned (.tuple #[.int .i64 a, .bool c]) = .returned (.tuple #[.int .i64 b, .bool d]) := by rw [h, h2]
theorem next_num (s : ByteArray) (k : Nat) (h : k < s.size) (hc : 48 ≤ (s[k].toNat : Int)) : (numV (s.data.toList.take (k + 1)) : Int) = 10 * (numV (s.data.toList.take k) : Int) + ((s[k].toNat : Int) - 48) := by
  rw [numV_take s k h]; omega

set_option maxRecDepth 100000 in
set_option maxHeartbeats 800000 in
theorem number_any (s : ByteArray) (w : World) (hs : s.size ≤ maxLen) :
    Calls Tryz.prog 93 #[.string s] w fun e w' => e = .returned (.tuple #[.int .i64 (numR s), .bool (okNum s.data.toList)]) ∧ w = w' := by
  unfold maxLen at hs
  by_cases h0 : s.size = 0
  · have HF := Lib.hid (okNum_nil s h0)
    have hn := nil_list s h0
    clear h0
    go_enter Tryz.func93, Tryz.ntmps93
    go_wp2
    go_ret2
    exact ⟨ret_pair (numR_no s HF.out).symm HF.out.symm, rfl⟩
  · have hn := cons_list s (by omega)
    have h1 : 1 ≤ s.size := by omega
    have hp : 0 < s.size := by omega
    clear h0
    by_cases h9 : 9 < s.size
    · have HF := Lib.hid (okNum_long s h9)
      go_enter Tryz.func93, Tryz.ntmps93
      go_wp2
      go_ret2
      exact ⟨ret_pair (numR_no s HF.out).symm HF.out.symm, rfl⟩
    · have h9' : s.size ≤ 9 := by omega
      clear h9
      by_cases hz : (s[0].toNat : Int) = 48 ∧ 1 < s.size
      · have HF := Lib.hid (okNum_zero s hz.2 hp hz.1)
        have hb : ((s[0].toNat : Int) == 48) = true := by rw [hz.1]; rfl
        have hl := hz.2
        clear hz
        go_enter Tryz.func93, Tryz.ntmps93
        go_wp2
        go_ret2
        exact ⟨ret_pair (numR_no s HF.out).symm HF.out.symm, rfl⟩
      · have HZ : Hid ((s[0].toNat : Int) ≠ 48 ∨ s.size ≤ 1) := Lib.hid (by omega)
        have HB : (((s[0].toNat : Int) == 48) = false ∨ (((s[0].toNat : Int) == 48) = true ∧ s.size ≤ 1)) := by
          by_cases e : (s[0].toNat : Int) = 48
          · exact .inr ⟨by rw [e]; rfl, by omega⟩
          · exact .inl (by simpa using e)
        clear hz
        rcases HB with hb | ⟨hb, hl⟩
        all_goals
          go_enter Tryz.func93, Tryz.ntmps93
          go_wp2
          go_loop [4, 25] (fun n i => ∃ k : Nat, k ≤ s.size ∧ i = .int .i64 k ∧ n = .int .i64 (numV (s.data.toList.take k) : Int) ∧ Hid ((s.data.toList.take k).all digB = true)) (fun _ i => s.size - (intOf i).toNat)
          case atStart => exact ⟨0, by omega, rfl, rfl, Lib.hid rfl⟩
          case round =>
            obtain ⟨k, hk, rfl, rfl, HA⟩ := hrel
            have hbd := numV_bd s k HA.out (by omega)
            by_cases hlt : k < s.size
            · have HN := Lib.hid (next_num s k hlt)
              go_wp2
              all_goals first
                | (go_round
                   case rel => exact ⟨k + 1, by omega, by go_num, val_int (HN.out (by omega)).symm, Lib.hid (all_step _ s k hlt HA.out (digB_yes _ (by omega)))⟩
                   case measure => simp [intOf]; omega)
                | (go_ret2
                   have HF := okNum_all s (all_no _ s k hlt (digB_no _ (by omega)))
                   exact ⟨ret_pair (numR_no s HF).symm HF.symm, rfl⟩)
            · have hk' : s.size = k := by omega
              have HT := Lib.hid (show s.data.toList.take k = s.data.toList by rw [← hk', take_all])
              have HF := Lib.hid (okNum_yes s h1 h9' hp HZ.out (by rw [← HT.out]; exact HA.out))
              clear hk'
              go_wp2
              go_ret2
              exact ⟨ret_pair (by rw [numR_yes s HF.out, HT.out]) HF.out.symm, rfl⟩
end Go.Proofs.YtcnedecmmplmoaaGreatDoor
