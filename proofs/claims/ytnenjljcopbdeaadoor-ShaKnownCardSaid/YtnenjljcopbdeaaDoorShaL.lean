/- The package's tables out of what the row says of them. -/
import Derived.Test.YtnenjljcopbdeaaDoorShaM
import Derived.ProofKit
import Derived.LaidMore
import Derived.OpenShut
import Derived.Stop.Joined
namespace Go.Proofs.YtnenjljcopbdeaaDoor
open Go.ChangeShapes Go.WideShapes Go.ChangeAt Go.WideMaps Go.WideElems Go.RowKit

def laidL : List (String × DataW Unit) := [("tithebarn/sha.numbers", Rows.laid_tithebarn_sha_numbers), ("tithebarn/sha.first", Rows.laid_tithebarn_sha_first)]
theorem gNums : Tryd.prog.globalNamed "tithebarn/sha.numbers" = some 0 := by kernel_rfl
theorem gFirst : Tryd.prog.globalNamed "tithebarn/sha.first" = some 1 := by kernel_rfl
theorem tNums : (Tryd.prog.globals[0]?).map (·.type) = some 47 := by kernel_rfl
theorem tFirst : (Tryd.prog.globals[1]?).map (·.type) = some 28 := by kernel_rfl
def litsOf (l : List Nat) : List (DataW Unit) := l.map fun (k : Nat) => .lit (.int .u32 (k : Int))
theorem nums_data : (Rows.laid_tithebarn_sha_numbers : DataW Unit) = .agg (litsOf kNat) := rfl
theorem first_data : (Rows.laid_tithebarn_sha_first : DataW Unit) = .agg (litsOf hNat) := rfl

theorem all_lt (l : List Nat) (b : Nat) (h : l.all (fun x => decide (x < b)) = true) (hb : 0 < b) (t : Nat) : l.getD t 0 < b := by
  rw [List.getD_eq_getElem?_getD]
  cases h' : l[t]? with
  | none => simpa using hb
  | some v =>
    obtain ⟨ht, rfl⟩ := List.getElem?_eq_some_iff.1 h'
    rw [List.all_eq_true] at h
    simpa using h _ (List.getElem_mem ht)
theorem kNat_lt (t : Nat) : kNat.getD t 0 < 2 ^ 32 := all_lt _ _ (by decide +kernel) (by decide) t
theorem hNat_lt (t : Nat) : hNat.getD t 0 < 2 ^ 32 := all_lt _ _ (by decide +kernel) (by decide) t
theorem tab_cells {W : World} {g : Nat} {T : TypeId} {n : Nat} {l : List Nat} {cs : List Value} {p : List MemPlace} {held : Bool} {sp : Nat → Bool} {m : Nat}
    (hT : Tryd.prog.underlying T = some (.array n 27)) (hv : ∀ i, W.cell? ⟨g, i, none⟩ = cs[i]?)
    (hd : DataW.trod (fun _ => ()) Tryd.prog W 0 sp held m T cs = some (.agg (litsOf l), p)) : ∀ i, i < n → W.cell? ⟨g, i, none⟩ = some (.int .u32 (l.getD i 0 : Int)) := by
  intro i hi
  obtain ⟨xs, m1, _, hx1, hlen, hn3, hel⟩ := DataW.trod_array hT hd
  have h0 := hel i hi
  rw [cellsU32, Nat.mul_one, List.getElem?_eq_getElem (by omega)] at h0
  obtain ⟨k, e1, e2, _⟩ := DataW.trod_int Tryd.underlying27 h0
  have hx : litsOf l = xs.map (·.1) := by
    have := congrArg Prod.fst hx1
    simpa using this
  have hk : (litsOf l)[i]? = some (.lit (.int .u32 k)) := by
    rw [hx, List.getElem?_map, List.getElem?_eq_getElem (by omega), e2]
    rfl
  have hkk : k = (l.getD i 0 : Int) := by
    rw [litsOf, List.getElem?_map] at hk
    rw [List.getD_eq_getElem?_getD]
    cases hli : l[i]? with
    | none => rw [hli] at hk; cases hk
    | some v =>
      rw [hli] at hk
      simp at hk
      simp [← hk]
  have hc := congrArg (fun x : List Value => x[0]?) e1
  simp at hc
  rw [hv i, hc, hkk]

theorem of_laid {W : World} (h : laidMetH Tryd.prog laidL W) : Tabs W := by
  rw [MakeChecks.laidMetH_plain _ _ _ (by kernel_rfl)] at h
  obtain ⟨ps, ⟨g0, t0, cs0, f0, p0, q0, hg0, ht0, hv0, hd0, ⟨g1, t1, cs1, f1, p1, q1, hg1, ht1, hv1, hd1, _, _⟩, _⟩, _, _⟩ := h
  obtain rfl := Option.some.inj (gNums.symm.trans hg0)
  obtain rfl := Option.some.inj (gFirst.symm.trans hg1)
  obtain rfl := Option.some.inj (tNums.symm.trans ht0)
  obtain rfl := Option.some.inj (tFirst.symm.trans ht1)
  rw [nums_data] at hd0
  rw [first_data] at hd1
  have k0 := tab_cells (g := 0) Tryd.underlying47 (fun i => (World.var?_cell hg0 hv0 i).trans (by simp)) hd0
  have k1 := tab_cells (g := 1) Tryd.underlying28 (fun i => (World.var?_cell hg1 hv1 i).trans (by simp)) hd1
  refine ⟨?_, fun t ht => ?_, fun t ht => ?_⟩
  · have := block_lt_of_cell (k1 0 (by decide))
    exact this
  · rw [k0 t ht, kW, UInt32.toNat_ofNat', Nat.mod_eq_of_lt (kNat_lt t)]
  · rw [k1 t ht, hW, UInt32.toNat_ofNat', Nat.mod_eq_of_lt (hNat_lt t)]
end Go.Proofs.YtnenjljcopbdeaaDoor
