/- Contracts of the reference's bit, Of20 and Letters. -/
import Derived.Test.YtadlimfpcfdgcaaNamA
import Derived.Test.YtadlimfpcfdgcaaNamP
import Derived.IntWalk
set_option linter.unusedVariables false
set_option linter.unusedSimpArgs false
namespace Go.Proofs.Ytadlimfpcfdgcaa.Nam
open Go.RowKit

theorem i64_id (n : Int) (h0 : -9223372036854775808 ≤ n) (h1 : n ≤ 9223372036854775807) : wrap64 n = n := by unfold wrap64; omega

/-- A slice over a block of 20 bytes. -/
def Has20 (w : World) (b : Nat) (d : Nat → Nat) : Prop := ∀ i, i < 20 → w.cell? ⟨b, i, none⟩ = some (.int .u8 (d i : Int))

def strOf (l : List UInt8) : ByteArray := ⟨l.toArray⟩
theorem strOf_size (l : List UInt8) : (strOf l).size = l.length := by simp [strOf, ByteArray.size]
theorem str_ext {a b : ByteArray} (h : a.data.toList = b.data.toList) : a = b := by
  cases a; cases b; simp at h; rw [h]
theorem abc_at (l : List UInt8) (v : Nat) (h : v < 32) : (strOf l ++ ByteArray.extract ⟨#[48, 49, 50, 51, 52, 53, 54, 55, 56, 57, 97, 98, 99, 100, 102, 103, 104, 105, 106, 107, 108, 109, 110, 112, 113, 114, 115, 118, 119, 120, 121, 122]⟩ v (v + 1)) = strOf (l ++ [abc.getD v 0]) := by
  have e : ∀ v : Fin 32, (ByteArray.extract ⟨#[48, 49, 50, 51, 52, 53, 54, 55, 56, 57, 97, 98, 99, 100, 102, 103, 104, 105, 106, 107, 108, 109, 110, 112, 113, 114, 115, 118, 119, 120, 121, 122]⟩ v.val (v.val + 1)).data.toList = [abc.getD v.val 0] := by decide +kernel
  apply str_ext
  rw [ByteArray.data_append, Array.toList_append, e ⟨v, h⟩]
  simp [strOf]

end Go.Proofs.Ytadlimfpcfdgcaa.Nam
