/- Slices of bytes, and numbers, out of what a cell reads as. -/
import Derived.Test.YtfgbaigpmhnoaaaBaseB
import Derived.Deep.Strs
import Derived.DataReads
set_option linter.unusedVariables false
set_option linter.unusedSimpArgs false
namespace Go.Proofs.Ytfgbaigpmhnoaaa
open Go.ChangeShapes Go.WideShapes Go.ChangeAt Go.RowKit

theorem trod_bytes {H : Type} {enc : TypeId × Value → H} {P : Program} {w : World} {base : Nat} {sp : Nat → Bool} {held : Bool} {fuel : Nat} {T e : TypeId} {v : Value} {x : DataW H × List MemPlace}
    (hT : P.underlying T = some (.slice e)) (he : P.underlying e = some (.int .u8)) (h1 : P.cellsOf e = 1)
    (hf : DataW.trod enc P w base sp held fuel T [v] = some x) : ∃ (d : Nat → Nat) (n cap : Nat) (A : Option Addr), (∀ i, d i < 256) ∧ n ≤ cap ∧ cap ≤ maxLen ∧ Holds w w.heap.size A n d ∧ (A = none → cap = 0) ∧ v = .slice A n cap := by
  rcases Go.Deep.open_slice1 hT h1 hf with ⟨hcs, _⟩ | ⟨a, n, cap, m, k, V, D, Pl, hcs, _, hl, hm, hmm, _, hel⟩
  · refine ⟨fun _ => 0, 0, 0, none, fun _ => Nat.zero_lt_succ _, Nat.le_refl _, by decide, fun h => absurd h (by omega), fun _ => rfl, by simpa using hcs⟩
  · have hv : v = .slice (some a) n cap := by simpa using hcs
    subst hv
    have hnm : n ≤ m := by rw [hmm]; split <;> omega
    have hc : ∀ i, i < n → ∃ b : Nat, b < 256 ∧ w.cell? (a.add i) = some (.int .u8 (b : Int)) := by
      intro i hi
      obtain ⟨h2, h3⟩ := hel i (by omega)
      obtain ⟨b, eb, _, wb⟩ := DataW.trod_int he h3
      have hb := bounds_u8 wb
      refine ⟨b.toNat, by omega, ?_⟩
      simp at eb
      rw [h2, eb]
      congr 2
      omega
    refine ⟨fun i => if h : i < n then Classical.choose (hc i h) else 0, n, cap, some a, fun i => ?_, hl, hm, fun hn => ⟨a, rfl, ?_, fun j hj => ?_⟩, (fun h => by cases h), rfl⟩
    · dsimp only
      split
      · rename_i h; exact (Classical.choose_spec (hc i h)).1
      · omega
    · obtain ⟨b, _, hb⟩ := hc 0 hn
      have := block_lt_of_cell hb
      rwa [add_block] at this
    · have := (Classical.choose_spec (hc j hj)).2
      rw [this]
      simp [hj]
theorem trod_num {H : Type} {enc : TypeId × Value → H} {P : Program} {w : World} {base : Nat} {sp : Nat → Bool} {held : Bool} {fuel : Nat} {T : TypeId} {k : IntKind} {v : Value} {x : DataW H × List MemPlace}
    (hT : P.underlying T = some (.int k)) (hf : DataW.trod enc P w base sp held fuel T [v] = some x) : ∃ n : Int, v = .int k n ∧ (Lit.int k n).wf = true := by
  obtain ⟨n, e, _, hw⟩ := DataW.trod_int hT hf
  exact ⟨n, by simpa using e, hw⟩
theorem u64_of (a : Int) (h : (Lit.int .u64 a).wf = true) : ∃ c : Nat, c < 18446744073709551616 ∧ a = (c : Int) := by
  have hb : 0 ≤ a ∧ a ≤ 18446744073709551615 := by simpa [Lit.wf, IntKind.min, IntKind.max, IntKind.signed, IntKind.bits] using h
  exact ⟨a.toNat, by omega, by omega⟩
theorem u8_of (a : Int) (h : (Lit.int .u8 a).wf = true) : ∃ c : Nat, c < 256 ∧ a = (c : Int) := by
  have hb := bounds_u8 h
  exact ⟨a.toNat, by omega, by omega⟩
end Go.Proofs.Ytfgbaigpmhnoaaa
