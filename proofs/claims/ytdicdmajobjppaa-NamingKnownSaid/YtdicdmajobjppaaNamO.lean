/- An array of bytes that came in, opened. -/
import Derived.Test.YtdicdmajobjppaaNamM
import Derived.ProofKit
import Derived.OpenShut
namespace Go.Proofs.Ytdicdmajobjppaa
open Go.ChangeShapes Go.WideShapes Go.ChangeAt Go.RowKit

theorem cells32 : Try.prog.cellsOf 23 = 32 := by kernel_rfl

theorem open_digest {H : Type} {enc : TypeId × Value → H} {P : Program} {w : World} {base : Nat} {sp : Nat → Bool} {held : Bool} {r : Reach} {b0 : Nat} {T e : TypeId} {n : Nat} {v : Value} {x : DataW H} {ps : List MemPlace}
    (hT : P.underlying T = some (.array n e)) (he : P.underlying e = some (.int .u8)) (h1 : P.cellsOf e = 1) (hn : P.cellsOf T = n)
    (hval : Value.okWide P w r b0 T v) (hd : DataW.Trod enc P w base sp held T v x ps) : ∃ d : Nat → Nat, (∀ i, d i < 256) ∧ v = .agg (digA d n) := by
  have hv : ∃ cs : Array Value, v = .agg cs ∧ cs.size = n := by
    simp only [Value.okWide, hT] at hval
    obtain ⟨cs, e1, e2, _⟩ := hval
    exact ⟨cs, e1, by rw [e2, hn]⟩
  obtain ⟨cs, rfl, hsz⟩ := hv
  obtain ⟨fuel, hf⟩ := hd
  obtain ⟨xs, m, _, _, _, hxl, hall⟩ := DataW.trod_array hT hf
  have hc : ∀ i, i < n → ∃ a : Nat, a < 256 ∧ cs[i]? = some (.int .u8 (a : Int)) := by
    intro i hi
    have hg := hall i hi
    rw [h1, Nat.mul_one] at hg
    have hx : xs[i]? = some xs[i] := List.getElem?_eq_getElem (by omega)
    rw [hx] at hg
    obtain ⟨a, ea, _, wa⟩ := DataW.trod_int he hg
    have hb := bounds_u8 wa
    refine ⟨a.toNat, by omega, ?_⟩
    have h0 := congrArg (fun l : List Value => l[0]?) ea
    simp [Value.cells] at h0
    rw [h0]
    congr 2
    omega
  refine ⟨fun i => if h : i < n then Classical.choose (hc i h) else 0, fun i => ?_, ?_⟩
  · dsimp only
    split
    · rename_i h; exact (Classical.choose_spec (hc i h)).1
    · omega
  · congr 1
    apply Array.ext
    · rw [digA_size, hsz]
    · intro i h2 h3
      have hi : i < n := by omega
      apply Option.some.inj
      rw [← Array.getElem?_eq_getElem, ← Array.getElem?_eq_getElem, digA_get _ _ _ hi]
      refine (Classical.choose_spec (hc i hi)).2.trans ?_
      simp [hi]
end Go.Proofs.Ytdicdmajobjppaa
