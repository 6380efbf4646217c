/- Contracts of the reference's value, and plain facts on letters' values. -/
import Derived.Test.YtadlimfpcfdgcaaNamE
import Derived.Test.YtadlimfpcfdgcaaShelf
import Derived.Lib.IndexLaws
set_option linter.unusedVariables false
set_option linter.unusedSimpArgs false
namespace Go.Proofs.Ytadlimfpcfdgcaa.Nam
open Go.RowKit

theorem indexByte_of_at {l : List UInt8} {c : UInt8} {k : Nat} (hn : ∀ j, j < k → l[j]? ≠ some c) (hk : l[k]? = some c) : Lib.indexByte l c = (k : Int) := by
  rcases Int.eq_ofNat_of_zero_le (show 0 ≤ Lib.indexByte l c + 1 by have := Lib.indexByte_ge l c; omega) with ⟨n, hn'⟩
  cases n with
  | zero => exact absurd hk (Lib.indexByte_none (by omega) k)
  | succ n =>
    have ho : Lib.indexByte l c = (n : Int) := by omega
    obtain ⟨h1, h2⟩ := Lib.indexByte_some ho
    have : n = k := by
      rcases Nat.lt_trichotomy n k with h | h | h
      · exact absurd h1 (hn n h)
      · exact h
      · exact absurd hk (h2 k h)
    rw [ho, this]
theorem indexByte_of_none {l : List UInt8} {c : UInt8} (hn : ∀ j, j < l.length → l[j]? ≠ some c) : Lib.indexByte l c = -1 := by
  rcases Int.eq_ofNat_of_zero_le (show 0 ≤ Lib.indexByte l c + 1 by have := Lib.indexByte_ge l c; omega) with ⟨n, hn'⟩
  cases n with
  | zero => omega
  | succ n =>
    obtain ⟨h1, _⟩ := Lib.indexByte_some (show Lib.indexByte l c = (n : Int) by omega)
    have hl : n < l.length := by
      rcases Nat.lt_or_ge n l.length with h | h
      · exact h
      · rw [List.getElem?_eq_none h] at h1; cases h1
    exact absurd h1 (hn n hl)

/-- A letter's value; -1: it is none. -/
def valI (c : UInt8) : Int := Lib.indexByte abc c
theorem valI_lt (c : UInt8) : -1 ≤ valI c ∧ valI c < 32 := by
  refine ⟨Lib.indexByte_ge _ _, ?_⟩
  rcases Int.eq_ofNat_of_zero_le (show 0 ≤ Lib.indexByte abc c + 1 by have := Lib.indexByte_ge abc c; omega) with ⟨n, hn'⟩
  cases n with
  | zero => unfold valI; omega
  | succ n =>
    obtain ⟨h1, _⟩ := Lib.indexByte_some (show Lib.indexByte abc c = (n : Int) by omega)
    have hl : n < 32 := by
      rcases Nat.lt_or_ge n 32 with h | h
      · exact h
      · rw [List.getElem?_eq_none (show abc.length ≤ n from h)] at h1; cases h1
    unfold valI
    omega
theorem abc_eq (k : Nat) (hk : k < 32) : abc[k]? = some (abc.getD k 0) := by
  have : k < abc.length := hk
  simp [List.getD, List.getElem?_eq_getElem this]
theorem abc_ne (k : Nat) (hk : k < 32) (c : UInt8) (h : ¬ (abc.getD k 0).toNat = c.toNat) : abc[k]? ≠ some c := by
  rw [abc_eq k hk]
  intro e
  exact h (by rw [Option.some.inj e])

set_option maxRecDepth 100000 in
set_option maxHeartbeats 400000 in
theorem value_any (c : UInt8) (w : World) :
    Calls Try.prog 33 #[.int .u8 (c.toNat : Int)] w fun e w' => e = .returned (.int .i64 (valI c)) ∧ w = w' := by
  go_enter Try.func33, Try.ntmps33
  go_wp2
  go_loop [3] (fun i => ∃ k : Nat, k ≤ 32 ∧ i = .int .i64 k ∧ Hid (∀ j, j < k → abc[j]? ≠ some c)) (fun i => 32 - (intOf i).toNat)
  case atStart => exact ⟨0, by omega, rfl, Lib.hid (fun j h => absurd h (Nat.not_lt_zero j))⟩
  case round =>
    obtain ⟨k, hk, rfl, HN⟩ := hrel
    by_cases hlt : k < 32
    · have hsz : k < (ByteArray.mk #[48, 49, 50, 51, 52, 53, 54, 55, 56, 57, 97, 98, 99, 100, 102, 103, 104, 105, 106, 107, 108, 109, 110, 112, 113, 114, 115, 118, 119, 120, 121, 122]).size := hlt
      have hi := abc_idx k hsz
      by_cases he : (abc.getD k 0).toNat = c.toNat
      · have hb : ((((ByteArray.mk #[48, 49, 50, 51, 52, 53, 54, 55, 56, 57, 97, 98, 99, 100, 102, 103, 104, 105, 106, 107, 108, 109, 110, 112, 113, 114, 115, 118, 119, 120, 121, 122])[k]).toNat : Int) == (c.toNat : Int)) = true := by rw [hi, he]; simp
        have HE := Lib.hid (show Lib.indexByte abc c = (k : Int) from indexByte_of_at HN.out (by rw [abc_eq k hlt, UInt8.toNat_inj.1 he]))
        clear he hi
        go_wp2
        go_ret
        exact ⟨ret_int HE.out.symm, rfl⟩
      · have hb : ((((ByteArray.mk #[48, 49, 50, 51, 52, 53, 54, 55, 56, 57, 97, 98, 99, 100, 102, 103, 104, 105, 106, 107, 108, 109, 110, 112, 113, 114, 115, 118, 119, 120, 121, 122])[k]).toNat : Int) == (c.toNat : Int)) = false := by rw [hi, beq_eq_false_iff_ne]; omega
        have HE := Lib.hid (abc_ne k hlt c he)
        clear he hi
        go_wp2
        go_round
        case rel =>
          refine ⟨k + 1, by omega, by go_num, Lib.hid fun j hj => ?_⟩
          rcases Nat.lt_or_ge j k with h | h
          · exact HN.out j h
          · rw [show j = k by omega]; exact HE.out
        case measure => simp [intOf]; omega
    · obtain rfl : k = 32 := by omega
      have HE := Lib.hid (show Lib.indexByte abc c = -1 from indexByte_of_none HN.out)
      go_wp2
      go_ret
      exact ⟨ret_int HE.out.symm, rfl⟩
end Go.Proofs.Ytadlimfpcfdgcaa.Nam
