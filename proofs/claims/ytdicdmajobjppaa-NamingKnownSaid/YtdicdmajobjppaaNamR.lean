/- The walks of the laws NamingBytes, NamingName, NamingLetters. -/
import Derived.Test.YtdicdmajobjppaaNamO
namespace Go.Proofs.Ytdicdmajobjppaa
open Go.RowKit

theorem below_step {B : Nat} {W a b : World} (h : Below B W a) (k : Below a.heap.size a b) (hB : B ≤ a.heap.size) : Below B W b := h.trans (k.mono hB)
theorem sameB_refl (f : Nat → Nat) : sameB f f = true := by simp [sameB]

theorem rows_put (W w1 : World) (Z : Obj) (X : Array Value) (T : TypeId) (hb : Below W.heap.size W w1) (hZ : ∃ old, Z = .cells old T (0, 0)) :
    ∃ w2, w2 = (w1.alloc Z).setRow w1.heap.size X ∧ w2.heap[w1.heap.size]? = some (.cells X T (0, 0)) ∧ w2.heap.size = w1.heap.size + 1 ∧ Below W.heap.size W w2 ∧ Below w1.heap.size w1 w2 := by
  obtain ⟨old, rfl⟩ := hZ
  exact ⟨_, rfl, setRow_heap _ _ _ _ _ _ (heap_alloc_new _ _), by simp, below_store hb _ _ hb.size, below_store (Below.refl _ _) _ _ (Nat.le_refl _)⟩

set_option maxHeartbeats 400000 in
theorem namingBytes_walk (s : ByteArray) (w : World) (hs : s.size ≤ maxLen) :
    Calls Try.prog 4 #[.string s] w fun e w' => e = .returned (.bool true) ∧ Below w.heap.size w w' := by
  have HS := Lib.hid hs
  unfold maxLen at hs
  by_cases h5 : 500 < s.size
  · go_enter Try.func4, Try.ntmps4
    go_wp2_with fail
    refine (works_any _).mono ?_
    rintro e w1 ⟨rfl, hb1⟩
    go_wp2_with fail
    go_ret
    exact ⟨rfl, hb1⟩
  · go_enter Try.func4, Try.ntmps4
    go_wp2_with fail
    refine (bytes_any s _ HS.out).mono ?_
    rintro e w1 ⟨rfl, hb1⟩
    go_wp2_with (refine wpList_store_row rfl 27 _ _ rfl _ (digA (outD s) 20) rfl rfl 27 _ (heap_alloc_new _ _) (info20' _) (z20_size _) (digA_ok _ _) ?_)
    obtain ⟨w2, hw2, hX, hz2, hb2, _⟩ := rows_put w w1 (.cells #[Value.int IntKind.u8 0, Value.int IntKind.u8 0, Value.int IntKind.u8 0, Value.int IntKind.u8 0, Value.int IntKind.u8 0, Value.int IntKind.u8 0, Value.int IntKind.u8 0, Value.int IntKind.u8 0, Value.int IntKind.u8 0, Value.int IntKind.u8 0, Value.int IntKind.u8 0, Value.int IntKind.u8 0, Value.int IntKind.u8 0, Value.int IntKind.u8 0, Value.int IntKind.u8 0, Value.int IntKind.u8 0, Value.int IntKind.u8 0, Value.int IntKind.u8 0, Value.int IntKind.u8 0, Value.int IntKind.u8 0] 27) (digA (outD s) 20) 27 hb1 ⟨_, rfl⟩
    rw [← hw2]
    clear hw2
    refine (refBytes_any s _ HS.out).mono ?_
    rintro e w3 ⟨rfl, hb3⟩
    have hB3 := below_step hb2 hb3 hb2.size
    have hX3 := (hb3.block w1.heap.size (by omega)).trans hX
    have hlt : w1.heap.size < w3.heap.size := by have := hb3.size; omega
    clear hb3 hb2 hX hb1
    go_upto_region 5 with (refine wpList_store_row rfl 27 _ _ rfl _ (digA (outD s) 20) rfl rfl 27 _ (heap_alloc_new _ _) (info20' _) (z20_size _) (digA_ok _ _) ?_)
    obtain ⟨w4, hw4, hY, hz4, hB4, hb34⟩ := rows_put w w3 (.cells #[Value.int IntKind.u8 0, Value.int IntKind.u8 0, Value.int IntKind.u8 0, Value.int IntKind.u8 0, Value.int IntKind.u8 0, Value.int IntKind.u8 0, Value.int IntKind.u8 0, Value.int IntKind.u8 0, Value.int IntKind.u8 0, Value.int IntKind.u8 0, Value.int IntKind.u8 0, Value.int IntKind.u8 0, Value.int IntKind.u8 0, Value.int IntKind.u8 0, Value.int IntKind.u8 0, Value.int IntKind.u8 0, Value.int IntKind.u8 0, Value.int IntKind.u8 0, Value.int IntKind.u8 0, Value.int IntKind.u8 0] 27) (digA (outD s) 20) 27 hB3 ⟨_, rfl⟩
    have hX4 := (hb34.block w1.heap.size hlt).trans hX3
    rw [← hw4]
    clear hw4 hX3 hb34 hB3
    have heq := fun wx => (run_equal_digA wx (outD s) (outD s)).trans (by rw [sameB_refl])
    go_wp2_with (first | (refine wpList_load_row rfl 27 _ rfl w1.heap.size rfl 27 _ (0, 0) _ hX4 Try.underlying27 rfl (info20' _) ?_) | (refine wpList_load_row rfl 27 _ rfl w3.heap.size rfl 27 _ (0, 0) _ hY Try.underlying27 rfl (info20' _) ?_))
    refine (works_any _).mono ?_
    rintro e w5 ⟨rfl, hb5⟩
    go_wp2_with fail
    go_ret
    exact ⟨rfl, below_step hB4 hb5 hB4.size⟩
end Go.Proofs.Ytdicdmajobjppaa
