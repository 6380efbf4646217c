/- files: a name: strings.ContainsAny of a slash or a zero byte, of any bytes. -/
import Derived.Test.YtmcafiihicanfaaDoorFilP
import Derived.Test.YtmcafiihicanfaaDoorShelf
import Derived.Test.YtmcafiihicanfaaDoorKeep
import Derived.Laws.RangeAny
import Derived.Laws.Runes
import Derived.Scope
import Derived.WalkKit
set_option linter.unusedVariables false
set_option linter.unusedSimpArgs false
namespace Go.Proofs.YtmcafiihicanfaaDoor
open Go Go.RowKit Go.BigFrame
open Fil (Es Nd Sp)

def chB : ByteArray := ⟨#[47, 0]⟩
set_option maxRecDepth 1000000 in
set_option maxRecDepth 100000 in
set_option maxHeartbeats 4000000 in
/-- A rune that is no ASCII: neither a slash nor a zero byte. -/
theorem slash_rune (r : Int) (h0 : 128 ≤ r) (h1 : r ≤ 2147483647) (w : World) :
    Calls Tryd.prog 55 #[.string chB, .int .i32 r] w fun e W => e = .returned (.int .i64 (-1)) ∧ Below w.heap.size w W := by
  have hd1 : decide ((0 : Int) ≤ r) = true := decide_eq_true (by omega)
  have hd2 : decide (r < 128) = false := decide_eq_false (by omega)
  have hz : (chB.size : Int) = 2 := rfl
  go_enter Tryd.func55, Tryd.ntmps55
  rcases Decidable.em (r = 65533) with h3 | h3
  · subst h3
    unfold chB
    go_wp2
    go_loopg [5, 6] 2 (fun g _ _ wx => ∃ i : Nat, i + g = 2 ∧ wx = w.iter ⟨#[47, 0]⟩ i)
    case atStart => exact ⟨0, by omega, rfl⟩
    case round =>
      obtain ⟨i, hig, rfl⟩ := hrel
      cases gk with
      | zero =>
        obtain rfl : i = 2 := by omega
        have hnx := run_next_end (P := Tryd.prog) w ⟨#[47, 0]⟩ 2
        go_wp2
        go_ret
        exact ⟨rfl, (Below.refl _ w).alloc (Nat.le_refl _) _⟩
      | succ g =>
        rcases (by omega : i = 0 ∨ i = 1) with rfl | rfl
        · have hnx : ∀ ty, (Instr.next (.pointer (some ⟨w.heap.size, 0, none⟩)) true ty).run Tryd.prog (w.iter ⟨#[47, 0]⟩ 0) = .ok (.tuple #[.bool true, .int .i64 0, .int .i32 47]) (w.iter ⟨#[47, 0]⟩ 1) := fun ty => run_next_ascii (P := Tryd.prog) w ⟨#[47, 0]⟩ 0 ty (by decide) (by decide)
          go_wp2
          go_roundg g
          case measure => omega
          case rel => exact ⟨1, by omega, rfl⟩
        · have hnx : ∀ ty, (Instr.next (.pointer (some ⟨w.heap.size, 0, none⟩)) true ty).run Tryd.prog (w.iter ⟨#[47, 0]⟩ 1) = .ok (.tuple #[.bool true, .int .i64 1, .int .i32 0]) (w.iter ⟨#[47, 0]⟩ 2) := fun ty => run_next_ascii (P := Tryd.prog) w ⟨#[47, 0]⟩ 1 ty (by decide) (by decide)
          go_wp2
          go_roundg g
          case measure => omega
          case rel => exact ⟨2, by omega, rfl⟩
  · have h3' : (r == 65533) = false := beq_eq_false_iff_ne.2 h3
    rcases Bool.eq_false_or_eq_true (Lib.validRune r) with hv | hv
    rotate_left
    · go_wp2_with (refine (Tryd.utf8_ValidRune r _).mono ?_; rintro e w' ⟨rfl, rfl⟩; rw [hv])
      go_ret
      exact ⟨rfl, Below.refl _ _⟩
    · have hv2 : Utf8.valid r = true := by
        unfold Lib.validRune at hv
        have := of_decide_eq_true hv
        unfold Utf8.valid
        simp only [Bool.or_eq_true, Bool.and_eq_true, decide_eq_true_eq]
        omega
      obtain ⟨hz1, hz2, hlast⟩ := encode_facts r hv2 h0
      have hcv : ∀ w, (convert 21 9 (.int .i32 r)).run Tryd.prog w = .ok (.string (Utf8.encode r)) w := fun w => run_convert_int_string (P := Tryd.prog) w _ _ .i32 r rfl rfl
      generalize Utf8.encode r = rs at *
      rcases (by omega : rs.size = 2 ∨ 3 ≤ rs.size) with hz | hz
      · obtain ⟨c, hc⟩ : ∃ c : UInt8, c = rs[1]'(by omega) := ⟨_, rfl⟩
        have hcl : 128 ≤ c.toNat := by
          rw [hc]
          have := hlast (by omega)
          simpa [hz] using this
        have hix : rs[1]'(by omega) = c := hc.symm
        have HL := Lib.hid hlast
        clear hlast hc hz1 hz2
        have hne : (((chB[1]'(by decide)).toNat : Int) != (c.toNat : Int)) = true := bne_iff_ne.2 (by have : (chB[1]'(by decide)).toNat = 0 := rfl; omega)
        have HCALL := Lib.hid (fun (s : ByteArray) (hs : s.data.toList = []) (w : World) => (Tryd.strings_IndexByte s (c.toNat : Int) w).mono (R' := fun e w' => e = .returned (.int .i64 (-1)) ∧ w' = w) (by rintro e w' ⟨rfl, rfl⟩; rw [hs]; exact ⟨rfl, rfl⟩))
        go_wp2_with (refine (Tryd.utf8_ValidRune r _).mono ?_; rintro e w' ⟨rfl, rfl⟩; rw [hv])
        refine wp_scope_straight ?_
        go_wp2
        go_loopg [9, 10, 11, 12] 1 (fun g u9 u10 _ _ wx => g = 1 ∧ u9 = .int .i64 1 ∧ u10 = .int .i64 0 ∧ wx = w')
        case atStart => exact ⟨rfl, rfl, rfl, rfl⟩
        case round =>
          obtain ⟨rfl, rfl, rfl, rfl⟩ := hrel
          have hmo : Tryd.prog.follows .mixedOrders = true := by kernel_rfl
          go_wp2
          refine wp_scope_straight ?_
          go_wp2
          go_quiet (fail)
          go_wp2
          go_quiet ((go_at_call 61; refine (HCALL.out (chB.extract 2 chB.size) rfl _).mono ?_; rintro e w' ⟨rfl, rfl⟩; exact ⟨rfl, _, rfl⟩))
          go_wp2
          simp only [Exit.noGoto, Exit.inBlock, Exit.then]
          go_ret
          exact ⟨rfl, ⟨rfl, rfl, rfl, Nat.le_refl _, fun _ _ => rfl⟩⟩
      · obtain ⟨k, hk, hk2⟩ : ∃ k : Nat, (rs.size : Int) - 1 = (k : Int) ∧ 2 ≤ k := ⟨rs.size - 1, by omega, by omega⟩
        have hw1 : IntKind.i64.wrap ((rs.size : Int) - 1) = (k : Int) := by rw [hk]; exact IntWalk.i64_in _ (by omega)
        clear hk hlast
        have hlt : decide ((k : Int) < 2) = false := decide_eq_false (by omega)
        go_wp2_with (refine (Tryd.utf8_ValidRune r _).mono ?_; rintro e w' ⟨rfl, rfl⟩; rw [hv])
        refine wp_scope_straight ?_
        go_wp2
        go_loopg [9, 10, 11, 12] 1 (fun g u9 _ _ _ wx => g = 1 ∧ u9 = .int .i64 k ∧ wx = w')
        case atStart => exact ⟨rfl, rfl, rfl⟩
        case round =>
          obtain ⟨rfl, rfl, rfl⟩ := hrel
          go_wp2
          unfold Exit.noGoto Exit.inBlock
          dsimp only
          go_ret
          exact ⟨rfl, Below.refl _ _⟩
/-- What a rune takes: no byte of a rune that is no ASCII is a slash or zero. -/
theorem decode_high_all (s : ByteArray) (i : Nat) (h : i < s.size) (ha : 128 ≤ (s[i]'h).toNat) : ∀ j, i ≤ j → j < i + (Utf8.decode s i).2 → ∀ b, s.data.toList[j]? = some b → 128 ≤ b.toNat := by
  have hg : ∀ k (hk : i + k < s.size), (s.get! (i + k)) = s[i + k]'hk := fun k hk => by
    have := get_at s (i + k) hk
    rw [Nat.add_zero] at this
    exact this
  have hl : ∀ j b, s.data.toList[j]? = some b → ∃ hj : j < s.size, s[j]'hj = b := fun j b hb => by
    have hj : j < s.size := by
      have := (List.getElem?_eq_some_iff.1 hb).1
      rw [Lib.size_eq]; exact this
    refine ⟨hj, ?_⟩
    have := Lib.data_getElem? s j hj
    rw [hb] at this
    exact (Option.some.inj this).symm
  intro j hij hjw b hb
  obtain ⟨hj, rfl⟩ := hl j b hb
  rcases Nat.eq_or_lt_of_le hij with rfl | hlt
  · exact ha
  obtain ⟨k, rfl⟩ : ∃ k, j = i + k := ⟨j - i, by omega⟩
  have h0 : s.get! (i + 0) = s[i]'h := get_at s i h
  have hgk := hg k hj
  rw [← hgk]
  have hn : ¬ (s.get! (i + 0)).toNat < 128 := by rw [h0]; omega
  revert hjw
  simp only [Utf8.decode, hn, if_false]
  have hk1 : 1 ≤ k := by omega
  intro hjw
  have hwd : ∀ (m : Nat), (decide (i + m < s.size) && (s.get! (i + m)).toNat / 64 == 2) = true → 128 ≤ (s.get! (i + m)).toNat := fun m hm => by
    simp only [Bool.and_eq_true, beq_iff_eq] at hm
    omega
  split at hjw
  · rename_i hc
    simp only [Bool.and_eq_true] at hc
    have e1 := hwd 1 (by simp only [Bool.and_eq_true]; exact hc.2)
    split at hjw <;> simp only [] at hjw
    · obtain rfl : k = 1 := by omega
      exact e1
    · omega
  · split at hjw
    · rename_i hc
      simp only [Bool.and_eq_true] at hc
      have e1 := hwd 1 (by simp only [Bool.and_eq_true]; exact hc.1.2)
      have e2 := hwd 2 (by simp only [Bool.and_eq_true]; exact hc.2)
      split at hjw <;> simp only [] at hjw
      · rcases (by omega : k = 1 ∨ k = 2) with rfl | rfl
        · exact e1
        · exact e2
      · omega
    · split at hjw
      · rename_i hc
        simp only [Bool.and_eq_true] at hc
        have e1 := hwd 1 (by simp only [Bool.and_eq_true]; exact hc.1.1.2)
        have e2 := hwd 2 (by simp only [Bool.and_eq_true]; exact hc.1.2)
        have e3 := hwd 3 (by simp only [Bool.and_eq_true]; exact hc.2)
        split at hjw <;> simp only [] at hjw
        · rcases (by omega : k = 1 ∨ k = 2 ∨ k = 3) with rfl | rfl | rfl
          · exact e1
          · exact e2
          · exact e3
        · omega
      · simp only [] at hjw
        omega
end Go.Proofs.YtmcafiihicanfaaDoor
