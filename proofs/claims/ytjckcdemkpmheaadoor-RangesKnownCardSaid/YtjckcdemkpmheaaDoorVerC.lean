/- Contract of the reference's number. -/
import Derived.Test.YtjckcdemkpmheaaDoorVerB
namespace Go.Proofs.YtjckcdemkpmheaaDoor
open Go.RowKit Go.BigFrame
open Ver (digB tagB numV okNum okTag)

theorem str_zero (s : ByteArray) (h : s.size = 1) (h0 : 0 < s.size) (hz : (s[0].toNat : Int) = 48) : (s.toList == [48]) = true := by
  have e : s[0] = 48 := UInt8.toNat_inj.1 (by simpa using (by omega : s[0].toNat = 48))
  rw [Lib.toList_data s]
  have hl : s.data.toList.length = 1 := by rw [len_data]; exact h
  obtain ⟨c, hc⟩ := List.length_eq_one_iff.1 hl
  have hh := head_at s h0
  rw [hc, e] at hh
  rw [hc]
  cases hh
  rfl
theorem str_not_zero (s : ByteArray) (h : s.size ≠ 1 ∨ ∃ h0 : 0 < s.size, (s[0].toNat : Int) ≠ 48) : (s.toList == [48]) = false := by
  rw [Lib.toList_data s]
  rw [beq_eq_false_iff_ne]
  intro e
  rcases h with h | ⟨h0, hz⟩
  · have := congrArg List.length e
    rw [len_data] at this
    exact h this
  · have hh := head_at s h0
    rw [e] at hh
    apply hz
    rw [← Option.some.inj hh]; rfl

/-- What the reference's number answers. -/
def RefNum (s : ByteArray) (w : World) (e : Ending) (w' : World) : Prop :=
  (∃ n : Int, e = .returned (.tuple #[.int .i64 n, .bool (okNum s.data.toList)]) ∧ (okNum s.data.toList = true → n = (numV s.data.toList : Int))) ∧ ∃ nq, w' = w.drewN nq
theorem RefNum.mk {s : ByteArray} {w : World} {e : Ending} {w' : World} (n : Int) (b : Bool) (nq : Nat) (he : e = .returned (.tuple #[.int .i64 n, .bool b])) (hb : okNum s.data.toList = b) (hn : b = true → n = (numV s.data.toList : Int)) (hw : w' = w.drewN nq) : RefNum s w e w' :=
  ⟨⟨n, by rw [he, hb], fun h => hn (hb ▸ h)⟩, nq, hw⟩
set_option maxRecDepth 100000 in
set_option maxHeartbeats 800000 in
theorem refNumber_any (s : ByteArray) (w : World) (hs : s.size ≤ maxLen) :
    Calls Tryd.prog 50 #[.string s] w (RefNum s w) := by
  unfold maxLen at hs
  go_enter Tryd.func50, Tryd.ntmps50
  go_wp2
  go_loop [4, 5] (fun n i => ∃ k : Nat, k ≤ s.size ∧ k ≤ 9 ∧ i = .int .i64 k ∧ n = .int .i64 (numV (s.data.toList.take k) : Int) ∧ Hid ((s.data.toList.take k).all digB = true)) (fun _ i => s.size - (intOf i).toNat)
  case atStart => exact ⟨0, by omega, by omega, rfl, rfl, Lib.hid rfl⟩
  case round =>
    obtain ⟨k, hk, hk9, rfl, rfl, HA⟩ := hrel
    have hbd := numV_bd s k HA.out (by omega)
    by_cases hlt : k < s.size
    · have HN := Lib.hid (next_num s k hlt)
      by_cases hd : (s[k].toNat : Int) < 48 ∨ 57 < (s[k].toNat : Int)
      · have HF := Lib.hid (okNum_all s (all_no _ s k hlt (digB_no _ (by omega))))
        go_wp2
        all_goals
          go_ret2
          exact RefNum.mk _ _ 0 rfl HF.out (fun h => by cases h) rfl
      · have hd1 : 48 ≤ (s[k].toNat : Int) := by omega
        have hd2 : (s[k].toNat : Int) ≤ 57 := by omega
        clear hd
        by_cases h8 : k ≤ 8
        · go_wp2
          go_round
          case rel => exact ⟨k + 1, by omega, by omega, by go_num, val_int (by rw [HN.out (by omega)]; omega), Lib.hid (all_step _ s k hlt HA.out (digB_yes _ (by omega)))⟩
          case measure => simp [intOf]; omega
        · have HF := Lib.hid (okNum_long s (by omega))
          go_wp2
          go_ret2
          exact RefNum.mk _ _ 0 rfl HF.out (fun h => by cases h) rfl
    · have hk' : s.size = k := by omega
      have HT := Lib.hid (show s.data.toList.take k = s.data.toList by rw [← hk', take_all])
      by_cases h0 : k = 0
      · subst h0
        have HF := Lib.hid (okNum_nil s hk')
        have hz := str_not_zero s (.inl (by omega))
        have hz' : decide (0 < (s.size : Int)) = false := by rw [hk']; rfl
        clear hk'
        go_wp2
        go_quiet (fail)
        go_wp2
        go_ret2
        exact RefNum.mk _ _ _ rfl HF.out (fun h => by cases h) rfl
      · have hp : 0 < s.size := by omega
        have hp' : decide (0 < (s.size : Int)) = true := by simp; omega
        have HH : (∃ h0 : 0 < s.size, (s[0].toNat : Int) ≠ 48) ∨ ((s[0].toNat : Int) = 48 ∧ s.size = 1) ∨ ((s[0].toNat : Int) = 48 ∧ 1 < s.size) := by
          by_cases e : (s[0].toNat : Int) = 48
          · rcases Nat.lt_or_ge 1 s.size with h | h
            · exact .inr (.inr ⟨e, h⟩)
            · exact .inr (.inl ⟨e, by omega⟩)
          · exact .inl ⟨hp, e⟩
        rcases HH with ⟨_, h⟩ | ⟨h, h2⟩ | ⟨h, h2⟩
        · have HF := Lib.hid (okNum_yes s (by omega) (by omega) hp (.inl h) (by rw [← HT.out]; exact HA.out))
          have hz := str_not_zero s (.inr ⟨hp, h⟩)
          have hb : ((s[0].toNat : Int) != 48) = true := by rw [bne_iff_ne]; exact h
          clear h hk'
          go_wp2
          go_quiet (fail)
          go_wp2
          go_ret2
          exact RefNum.mk _ _ _ rfl HF.out (fun _ => by rw [HT.out]) rfl
        · have HF := Lib.hid (okNum_yes s (by omega) (by omega) hp (.inr (by omega)) (by rw [← HT.out]; exact HA.out))
          have hz := str_zero s h2 hp h
          clear h hk' h2
          go_wp2
          go_quiet (fail)
          go_wp2
          go_ret2
          exact RefNum.mk _ _ _ rfl HF.out (fun _ => by rw [HT.out]) rfl
        · have HF := Lib.hid (okNum_zero s h2 hp h)
          have hz := str_not_zero s (.inl (by omega))
          have hb : ((s[0].toNat : Int) != 48) = false := by rw [h]; rfl
          clear h hk' h2
          go_wp2
          go_quiet (fail)
          go_wp2
          go_ret2
          exact RefNum.mk _ _ _ rfl HF.out (fun h => by cases h) rfl
end Go.Proofs.YtjckcdemkpmheaaDoor
