/- Bytes, words that came in, opened. -/
import Derived.Test.YtnenjljcopbdeaaDoorShaO
import Derived.Deep.Slices
namespace Go.Proofs.YtnenjljcopbdeaaDoor
open Go.ChangeShapes Go.WideShapes Go.ChangeAt Go.RowKit

theorem open_byteslice {H : Type} {enc : TypeId × Value → H} {P : Program} {w : World} {base : Nat} {sp : Nat → Bool} {held : Bool} {r : Reach} {b0 : Nat} {T e : TypeId} {v : Value} {x : DataW H} {ps : List MemPlace}
    (hT : P.underlying T = some (.slice e)) (he : P.underlying e = some (.int .u8)) (h1 : P.cellsOf e = 1) (_lt : ∀ x ∈ ps, x.block < w.heap.size)
    (hval : Value.okWide P w r b0 T v) (hd : DataW.Trod enc P w base sp held T v x ps) : ∃ (d : Nat → Nat) (n cap : Nat) (A : Option Addr), (∀ i, d i < 256) ∧ n ≤ cap ∧ cap ≤ maxLen ∧ Holds w w.heap.size A n d ∧ (A = none → cap = 0) ∧ v = .slice A n cap := by
  obtain ⟨A, n, cap, rfl⟩ := okWide_slice hT hval
  obtain ⟨fuel, hf⟩ := hd
  rcases Go.Deep.open_slice1 hT h1 hf with ⟨hcs, _⟩ | ⟨a, len, cap', m, k, V, D, Pl, hcs, _, hl, hm, hmm, _, hel⟩
  · simp [Value.cells] at hcs
    obtain ⟨rfl, rfl, rfl⟩ := hcs
    exact ⟨fun _ => 0, 0, 0, none, fun _ => Nat.zero_lt_succ _, Nat.le_refl _, by decide, fun h => absurd h (by omega), fun _ => rfl, rfl⟩
  · simp [Value.cells] at hcs
    obtain ⟨rfl, rfl, rfl⟩ := hcs
    have hnm : n ≤ m := by rw [hmm]; split <;> omega
    have hc : ∀ i, i < n → ∃ b : Nat, b < 256 ∧ w.cell? (a.add i) = some (.int .u8 (b : Int)) := by
      intro i hi
      obtain ⟨h2, h3⟩ := hel i (by omega)
      obtain ⟨b, eb, _, wb⟩ := DataW.trod_int he h3
      have hb := bounds_u8 wb
      refine ⟨b.toNat, by omega, ?_⟩
      simp at eb
      rw [h2, eb]
      congr 2
      omega
    refine ⟨fun i => if h : i < n then Classical.choose (hc i h) else 0, n, cap, some a, fun i => ?_, hl, hm, fun hn => ⟨a, rfl, ?_, fun j hj => ?_⟩, (fun h => by cases h), rfl⟩
    · dsimp only
      split
      · rename_i h; exact (Classical.choose_spec (hc i h)).1
      · omega
    · obtain ⟨b, _, hb⟩ := hc 0 hn
      have := block_lt_of_cell hb
      rwa [add_block] at this
    · have := (Classical.choose_spec (hc j hj)).2
      rw [this]
      simp [hj]

theorem open_words {H : Type} {enc : TypeId × Value → H} {P : Program} {w : World} {base : Nat} {sp : Nat → Bool} {held : Bool} {r : Reach} {b0 : Nat} {T e : TypeId} {n : Nat} {v : Value} {x : DataW H} {ps : List MemPlace}
    (hT : P.underlying T = some (.array n e)) (he : P.underlying e = some (.int .u32)) (h1 : P.cellsOf e = 1) (hn : P.cellsOf T = n)
    (hval : Value.okWide P w r b0 T v) (hd : DataW.Trod enc P w base sp held T v x ps) : ∃ d : Nat → UInt32, v = .agg (wrow d n) := by
  have hv : ∃ cs : Array Value, v = .agg cs ∧ cs.size = n := by
    simp only [Value.okWide, hT] at hval
    obtain ⟨cs, e1, e2, _⟩ := hval
    exact ⟨cs, e1, by rw [e2, hn]⟩
  obtain ⟨cs, rfl, hsz⟩ := hv
  obtain ⟨fuel, hf⟩ := hd
  obtain ⟨xs, m, _, _, _, hxl, hall⟩ := DataW.trod_array hT hf
  have hc : ∀ i, i < n → ∃ a : UInt32, cs[i]? = some (.int .u32 (a.toNat : Int)) := by
    intro i hi
    have hg := hall i hi
    rw [h1, Nat.mul_one] at hg
    have hx : xs[i]? = some xs[i] := List.getElem?_eq_getElem (by omega)
    rw [hx] at hg
    obtain ⟨a, ea, _, wa⟩ := DataW.trod_int he hg
    have hb := bounds_u32 wa
    refine ⟨UInt32.ofNat a.toNat, ?_⟩
    have h0 := congrArg (fun l : List Value => l[0]?) ea
    simp [Value.cells] at h0
    rw [h0, UInt32.toNat_ofNat', Nat.mod_eq_of_lt (by omega)]
    congr 2
    omega
  refine ⟨fun i => if h : i < n then Classical.choose (hc i h) else 0, ?_⟩
  congr 1
  apply Array.ext
  · rw [wrow_size, hsz]
  · intro i h2 h3
    have hi : i < n := by omega
    apply Option.some.inj
    rw [← Array.getElem?_eq_getElem, ← Array.getElem?_eq_getElem, wrow_get _ _ _ hi]
    refine (Classical.choose_spec (hc i hi)).trans ?_
    simp [hi]
end Go.Proofs.YtnenjljcopbdeaaDoor
