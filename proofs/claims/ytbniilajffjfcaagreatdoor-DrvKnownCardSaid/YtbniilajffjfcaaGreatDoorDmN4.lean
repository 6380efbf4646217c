/- An array of bytes that came in, opened. -/
import Derived.Test.YtbniilajffjfcaaGreatDoorDmN3
import Derived.ProofKit
import Derived.OpenShut
import Derived.Deep.RegionHeld3
set_option linter.unusedVariables false
set_option linter.unusedSimpArgs false
namespace Go.Proofs.YtbniilajffjfcaaGreatDoor.Nam
open Go.ChangeShapes Go.WideShapes Go.ChangeAt Go.RowKit

theorem cells32 : Tryz.prog.cellsOf 24 = 32 := by kernel_rfl

theorem open_digest {H : Type} {enc : TypeId × Value → H} {P : Program} {w : World} {base : Nat} {sp : Nat → Bool} {held : Bool} {r : Reach} {b0 : Nat} {T e : TypeId} {n : Nat} {v : Value} {x : DataW H} {ps : List MemPlace}
    (hT : P.underlying T = some (.array n e)) (he : P.underlying e = some (.int .u8)) (h1 : P.cellsOf e = 1) (hn : P.cellsOf T = n)
    (hval : Value.okWide P w r b0 T v) (hd : DataW.Trod enc P w base sp held T v x ps) : ∃ d : Nat → Nat, (∀ i, d i < 256) ∧ v = .agg (digA d n) := by
  have hv : ∃ cs : Array Value, v = .agg cs ∧ cs.size = n := by
    simp only [Value.okWide, hT] at hval
    obtain ⟨cs, e1, e2, _⟩ := hval
    exact ⟨cs, e1, by rw [e2, hn]⟩
  obtain ⟨cs, rfl, hsz⟩ := hv
  obtain ⟨fuel, hf⟩ := hd
  obtain ⟨xs, m, _, _, _, hxl, hall⟩ := DataW.trod_array hT hf
  have hc : ∀ i, i < n → ∃ a : Nat, a < 256 ∧ cs[i]? = some (.int .u8 (a : Int)) := by
    intro i hi
    have hg := hall i hi
    rw [h1, Nat.mul_one] at hg
    have hx : xs[i]? = some xs[i] := List.getElem?_eq_getElem (by omega)
    rw [hx] at hg
    obtain ⟨a, ea, _, wa⟩ := DataW.trod_int he hg
    have hb := bounds_u8 wa
    refine ⟨a.toNat, by omega, ?_⟩
    have h0 := congrArg (fun l : List Value => l[0]?) ea
    simp [Value.cells] at h0
    rw [h0]
    congr 2
    omega
  refine ⟨fun i => if h : i < n then Classical.choose (hc i h) else 0, fun i => ?_, ?_⟩
  · dsimp only
    split
    · rename_i h; exact (Classical.choose_spec (hc i h)).1
    · omega
  · congr 1
    apply Array.ext
    · rw [digA_size, hsz]
    · intro i h2 h3
      have hi : i < n := by omega
      apply Option.some.inj
      rw [← Array.getElem?_eq_getElem, ← Array.getElem?_eq_getElem, digA_get _ _ _ hi]
      refine (Classical.choose_spec (hc i hi)).2.trans ?_
      simp [hi]
end Go.Proofs.YtbniilajffjfcaaGreatDoor.Nam

/- The walks of the laws NamingBytes, NamingName, NamingLetters. -/
namespace Go.Proofs.YtbniilajffjfcaaGreatDoor.Nam
open Go.RowKit

theorem below_step {B : Nat} {W a b : World} (h : Below B W a) (k : Below a.heap.size a b) (hB : B ≤ a.heap.size) : Below B W b := h.trans (k.mono hB)
theorem sameB_refl (f : Nat → Nat) : sameB f f = true := by simp [sameB]

theorem rows_put (W w1 : World) (Z : Obj) (X : Array Value) (T : TypeId) (hb : Below W.heap.size W w1) (hZ : ∃ old, Z = .cells old T (0, 0)) :
    ∃ w2, w2 = (w1.alloc Z).setRow w1.heap.size X ∧ w2.heap[w1.heap.size]? = some (.cells X T (0, 0)) ∧ w2.heap.size = w1.heap.size + 1 ∧ Below W.heap.size W w2 ∧ Below w1.heap.size w1 w2 := by
  obtain ⟨old, rfl⟩ := hZ
  exact ⟨_, rfl, setRow_heap _ _ _ _ _ _ (heap_alloc_new _ _), by simp, below_store hb _ _ hb.size, below_store (Below.refl _ _) _ _ (Nat.le_refl _)⟩

end Go.Proofs.YtbniilajffjfcaaGreatDoor.Nam

/- The walk of the law NamingLetters. -/
namespace Go.Proofs.YtbniilajffjfcaaGreatDoor.Nam
open Go.RowKit

theorem range_below {g : Nat} {a b : World} {cs : List Value} (k : Below a.heap.size a b) (hg : g < a.heap.size) (h : a.rangeAt g 0 cs) : b.rangeAt g 0 cs := fun j v hv => by
  rw [k.cell (p := ⟨g, 0 + j, none⟩) hg]
  exact h j v hv
theorem range_digA (w : World) (g : Nat) (d : Nat → Nat) (n : Nat) (t : TypeId) (fr : Nat × Nat) (hg : w.heap[g]? = some (.cells (digA d n) t fr)) : w.rangeAt g 0 (cells d n) :=
  range_of_row _ _ _ _ _ _ hg (cells_pre _ _ _ (Nat.le_refl _))

theorem info32c (d : Nat → Nat) : (Tryz.prog.info? 24).map (·.size) = some (cells d 32).length := by rw [cells_len]; exact info32

end Go.Proofs.YtbniilajffjfcaaGreatDoor.Nam

/- The walk of the law NamingName. -/
namespace Go.Proofs.YtbniilajffjfcaaGreatDoor.Nam
open Go.RowKit

end Go.Proofs.YtbniilajffjfcaaGreatDoor.Nam

/- The walk of the law NamingParse. -/
namespace Go.Proofs.YtbniilajffjfcaaGreatDoor.Nam
open Go.RowKit Go.BigFrame

def parH (s : ByteArray) : ByteArray := if okP s then headS s else ⟨#[]⟩
def parT (s : ByteArray) : ByteArray := if okP s then tailS s else ⟨#[]⟩
def parE (s : ByteArray) : Int := if okP s then 0 else 90
theorem parse_is (s : ByteArray) (w : World) (hs : s.size ≤ maxLen) :
    Calls Tryz.prog 24 #[.string s] w fun e w' => e = .returned (.tuple #[.string (parH s), .string (parT s), .int .i64 (parE s)]) ∧ Below w.heap.size w w' := by
  cases h : okP s
  · have := parse_no s w hs h
    simpa [parH, parT, parE, h] using this
  · have := parse_yes s w hs h
    simpa [parH, parT, parE, h] using this
theorem refParse_is (s : ByteArray) (w : World) (hs : s.size ≤ maxLen) :
    Calls Tryz.prog 41 #[.string s] w fun e w' => e = .returned (.tuple #[.string (parH s), .string (parT s), .int .i64 (parE s)]) ∧ Below w.heap.size w w' := by
  cases h : okP s
  · have := refParse_no s w hs h
    simpa [parH, parT, parE, h] using this
  · have := refParse_yes s w hs h
    simpa [parH, parT, parE, h] using this
theorem fitB_no (s : ByteArray) (d : Nat → Nat) (h : okP s = false) : fitB s d = false := by simp [fitB, h]
end Go.Proofs.YtbniilajffjfcaaGreatDoor.Nam
