/- The digest of abc, and the contract of works. -/
import Derived.Test.YtnenjljcopbdeaaDoorShaH
import Derived.Lib.SlBytesConst
namespace Go.Proofs.YtnenjljcopbdeaaDoor
open Go.RowKit

def abcD (i : Nat) : Nat := [97, 98, 99].getD i 0
set_option maxRecDepth 100000 in
theorem abc_list : txt (hexB (sumB abcD 3)) 64 = [98, 97, 55, 56, 49, 54, 98, 102, 56, 102, 48, 49, 99, 102, 101, 97, 52, 49, 52, 49, 52, 48, 100, 101, 53, 100, 97, 101, 50, 50, 50, 51, 98, 48, 48, 51, 54, 49, 97, 51, 57, 54, 49, 55, 55, 97, 57, 99, 98, 52, 49, 48, 102, 102, 54, 49, 102, 50, 48, 48, 49, 53, 97, 100] := by decide +kernel
theorem abc_hex : hexS (sumB abcD 3) = ⟨#[98, 97, 55, 56, 49, 54, 98, 102, 56, 102, 48, 49, 99, 102, 101, 97, 52, 49, 52, 49, 52, 48, 100, 101, 53, 100, 97, 101, 50, 50, 50, 51, 98, 48, 48, 51, 54, 49, 97, 51, 57, 54, 49, 55, 55, 97, 57, 99, 98, 52, 49, 48, 102, 102, 54, 49, 102, 50, 48, 48, 49, 53, 97, 100]⟩ := by rw [hexS, abc_list]; rfl
theorem abcD_lt (i : Nat) : abcD i < 256 := by
  match i with
  | 0 => decide
  | 1 => decide
  | 2 => decide
  | i + 3 => simp [abcD]
theorem dig_lt (c : Nat → UInt32) (i : Nat) : dig c i < 256 := Nat.mod_lt _ (by decide)

set_option maxRecDepth 100000 in
set_option maxHeartbeats 400000 in
theorem works_any (w : World) (ht : Tabs w) :
    Calls Tryd.prog 12 #[] w fun e w' => e = .returned (.bool true) ∧ Below w.heap.size w w' := by
  have HT := Lib.hid ht
  clear ht
  have kc := fun (w : World) (C : Array Value) (n c : Nat) => Lib.run_convert_bytes_const (P := Tryd.prog) w 23 5 C n c Tryd.underlying23 Tryd.underlying5
  go_enter Tryd.func12, Tryd.ntmps12
  go_wp2_with fail
  refine (sum_any abcD abcD_lt (some ⟨w.heap.size, 0, none⟩) 3 3 (Nat.le_refl _) (by decide) _ (HT.out.below ?b1) ?b2 (fun h => by cases h)).mono ?_
  case b1 => exact (Below.refl _ _).alloc (Nat.le_refl _) _
  case b2 =>
    intro _
    refine ⟨_, rfl, by simp, fun j hj => ?_⟩
    have hadd : (⟨w.heap.size, 0, none⟩ : Addr).add j = ⟨w.heap.size, j, none⟩ := by unfold Addr.add; split <;> simp_all
    rw [hadd, cell_of_row _ _ _ _ _ _ (heap_alloc_new w _)]
    exact digA_get abcD 3 j hj
  rintro e w2 ⟨rfl, hb2⟩
  go_wp2_with fail
  refine (hex_any (sumB abcD 3) (dig_lt _) _).mono ?_
  rintro e w3 ⟨rfl, hb3⟩
  rw [abc_hex]
  go_wp2
  go_ret
  exact ⟨rfl, below_step (below_step ((Below.refl _ _).alloc (Nat.le_refl _) _) hb2 (by simp)) hb3 (by have := hb2.size; simp at this; omega)⟩
end Go.Proofs.YtnenjljcopbdeaaDoor
