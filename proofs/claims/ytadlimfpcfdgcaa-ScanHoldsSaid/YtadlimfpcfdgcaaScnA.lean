/- scan: is a byte one of the letters? -/
import Derived.Test.YtadlimfpcfdgcaaProg
import Derived.Test.YtadlimfpcfdgcaaScnP
import Derived.LoopTactic
import Derived.WalkKit
import Derived.WalkSpells
import Derived.WalkLawsBesides
import Derived.Lib.Hide
import Derived.IntWalk
set_option linter.unusedVariables false
set_option linter.unusedSimpArgs false
namespace Go.Proofs.Ytadlimfpcfdgcaa
open Go.RowKit Go.BigFrame

def letB (c : UInt8) : Bool := decide ((48 ≤ c.toNat ∧ c.toNat ≤ 57) ∨ (97 ≤ c.toNat ∧ c.toNat ≤ 122 ∧ c.toNat ≠ 101 ∧ c.toNat ≠ 111 ∧ c.toNat ≠ 116 ∧ c.toNat ≠ 117))
theorem letter_any (c : UInt8) (w : World) : Calls Try.prog 32 #[.int .u8 (c.toNat : Int)] w fun e w' => e = .returned (.bool (letB c)) ∧ w = w' := by
  obtain ⟨n, hn, h256⟩ : ∃ n : Nat, n = c.toNat ∧ n < 256 := ⟨_, rfl, c.toNat_lt⟩
  obtain ⟨b, hb⟩ : ∃ b, b = letB c := ⟨_, rfl⟩
  have HB : Hid (b = true ↔ ((48 ≤ n ∧ n ≤ 57) ∨ (97 ≤ n ∧ n ≤ 122 ∧ n ≠ 101 ∧ n ≠ 111 ∧ n ≠ 116 ∧ n ≠ 117))) := Lib.hid (by rw [hb, hn]; unfold letB; exact decide_eq_true_iff)
  rw [← hn, ← hb]
  clear hn hb
  go_enter Try.func32, Try.ntmps32
  go_wp2
  all_goals
    go_ret
    refine ⟨?_, rfl⟩
    have hbb := HB.out
    cases b <;> simp at hbb ⊢ <;> omega
end Go.Proofs.Ytadlimfpcfdgcaa
