/- Contracts of number, of version and of its reference. -/
import Derived.Test.YtjckcdemkpmheaaDoorVerA
namespace Go.Proofs.YtjckcdemkpmheaaDoor
open Go.RowKit Go.BigFrame
open Ver (digB tagB numV okNum okTag)

def numR (s : ByteArray) : Int := if okNum s.data.toList = true then (numV s.data.toList : Int) else 0
theorem numR_no (s : ByteArray) (h : okNum s.data.toList = false) : numR s = 0 := by unfold numR; rw [if_neg (by rw [h]; simp)]
theorem numR_yes (s : ByteArray) (h : okNum s.data.toList = true) : numR s = (numV s.data.toList : Int) := by unfold numR; rw [if_pos h]
theorem ret_pair {a b : Int} {c d : Bool} (h : a = b) (h2 : c = d) : Ending.returned (.tuple #[.int .i64 a, .bool c]) = .returned (.tuple #[.int .i64 b, .bool d]) := by rw [h, h2]
theorem next_num (s : ByteArray) (k : Nat) (h : k < s.size) (hc : 48 ≤ (s[k].toNat : Int)) : (numV (s.data.toList.take (k + 1)) : Int) = 10 * (numV (s.data.toList.take k) : Int) + ((s[k].toNat : Int) - 48) := by
  rw [numV_take s k h]; omega

set_option maxRecDepth 100000 in
set_option maxHeartbeats 800000 in
theorem number_any (s : ByteArray) (w : World) (hs : s.size ≤ maxLen) :
    Calls Tryd.prog 55 #[.string s] w fun e w' => e = .returned (.tuple #[.int .i64 (numR s), .bool (okNum s.data.toList)]) ∧ w = w' := by
  unfold maxLen at hs
  by_cases h0 : s.size = 0
  · have HF := Lib.hid (okNum_nil s h0)
    have hn := nil_list s h0
    clear h0
    go_enter Tryd.func55, Tryd.ntmps55
    go_wp2
    go_ret2
    exact ⟨ret_pair (numR_no s HF.out).symm HF.out.symm, rfl⟩
  · have hn := cons_list s (by omega)
    have h1 : 1 ≤ s.size := by omega
    have hp : 0 < s.size := by omega
    clear h0
    by_cases h9 : 9 < s.size
    · have HF := Lib.hid (okNum_long s h9)
      go_enter Tryd.func55, Tryd.ntmps55
      go_wp2
      go_ret2
      exact ⟨ret_pair (numR_no s HF.out).symm HF.out.symm, rfl⟩
    · have h9' : s.size ≤ 9 := by omega
      clear h9
      by_cases hz : (s[0].toNat : Int) = 48 ∧ 1 < s.size
      · have HF := Lib.hid (okNum_zero s hz.2 hp hz.1)
        have hb : ((s[0].toNat : Int) == 48) = true := by rw [hz.1]; rfl
        have hl := hz.2
        clear hz
        go_enter Tryd.func55, Tryd.ntmps55
        go_wp2
        go_ret2
        exact ⟨ret_pair (numR_no s HF.out).symm HF.out.symm, rfl⟩
      · have HZ : Hid ((s[0].toNat : Int) ≠ 48 ∨ s.size ≤ 1) := Lib.hid (by omega)
        have HB : (((s[0].toNat : Int) == 48) = false ∨ (((s[0].toNat : Int) == 48) = true ∧ s.size ≤ 1)) := by
          by_cases e : (s[0].toNat : Int) = 48
          · exact .inr ⟨by rw [e]; rfl, by omega⟩
          · exact .inl (by simpa using e)
        clear hz
        rcases HB with hb | ⟨hb, hl⟩
        all_goals
          go_enter Tryd.func55, Tryd.ntmps55
          go_wp2
          go_loop [4, 25] (fun n i => ∃ k : Nat, k ≤ s.size ∧ i = .int .i64 k ∧ n = .int .i64 (numV (s.data.toList.take k) : Int) ∧ Hid ((s.data.toList.take k).all digB = true)) (fun _ i => s.size - (intOf i).toNat)
          case atStart => exact ⟨0, by omega, rfl, rfl, Lib.hid rfl⟩
          case round =>
            obtain ⟨k, hk, rfl, rfl, HA⟩ := hrel
            have hbd := numV_bd s k HA.out (by omega)
            by_cases hlt : k < s.size
            · have HN := Lib.hid (next_num s k hlt)
              go_wp2
              all_goals first
                | (go_round
                   case rel => exact ⟨k + 1, by omega, by go_num, val_int (HN.out (by omega)).symm, Lib.hid (all_step _ s k hlt HA.out (digB_yes _ (by omega)))⟩
                   case measure => simp [intOf]; omega)
                | (go_ret2
                   have HF := okNum_all s (all_no _ s k hlt (digB_no _ (by omega)))
                   exact ⟨ret_pair (numR_no s HF).symm HF.symm, rfl⟩)
            · have hk' : s.size = k := by omega
              have HT := Lib.hid (show s.data.toList.take k = s.data.toList by rw [← hk', take_all])
              have HF := Lib.hid (okNum_yes s h1 h9' hp HZ.out (by rw [← HT.out]; exact HA.out))
              clear hk'
              go_wp2
              go_ret2
              exact ⟨ret_pair (by rw [numR_yes s HF.out, HT.out]) HF.out.symm, rfl⟩
end Go.Proofs.YtjckcdemkpmheaaDoor
