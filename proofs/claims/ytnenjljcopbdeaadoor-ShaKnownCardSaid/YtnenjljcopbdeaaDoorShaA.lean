/- Contracts of right, of the reference's turned, and of the words of a block. -/
import Derived.Test.YtnenjljcopbdeaaDoorShaP
import Derived.Test.YtnenjljcopbdeaaDoorRows
import Derived.WalkKit
import Derived.WalkSpells
import Derived.WalkLawsBesides
import Derived.BigQuiet
import Derived.Deep.QuietTactic
import Derived.IntWalk
namespace Go.Proofs.YtnenjljcopbdeaaDoor
open Go.RowKit

theorem turn_no (n : Nat) (h0 : 0 < n) (h : n < 32) : bits BinOp.and IntKind.u64 (IntKind.u64.wrap (-(n : Int))) 31 = ((32 - n : Nat) : Int) := by
  have e : ∀ n : Fin 32, 0 < n.val → bits BinOp.and IntKind.u64 (IntKind.u64.wrap (-(n.val : Int))) 31 = ((32 - n.val : Nat) : Int) := by decide +kernel
  exact e ⟨n, h⟩ h0

theorem shl_mod (x : UInt32) (k : Nat) : (x.toNat : Int) * 2 ^ k % 4294967296 = ((shl x k).toNat : Int) := by
  rw [← u_shl, IntKind.wrap_u32']
theorem rot_left (x : UInt32) (n : Nat) (h : n < 32) : bits BinOp.or IntKind.u32 ((x.toNat : Int) * 2 ^ (32 - n) % 4294967296) ((x.toNat : Int) / 2 ^ (32 - (32 - n))) = ((rotr x n).toNat : Int) := by
  rw [shl_mod, u_shr, u_or, or_comm, show 32 - (32 - n) = n from by omega]; rfl
theorem rot_right (x : UInt32) (n : Nat) : bits BinOp.or IntKind.u32 ((x.toNat : Int) / 2 ^ n) ((x.toNat : Int) * 2 ^ (32 - n) % 4294967296) = ((rotr x n).toNat : Int) := by
  rw [shl_mod, u_shr, u_or]; rfl

set_option maxHeartbeats 400000 in
theorem rotate_any (x : UInt32) (n : Nat) (w : World) (h0 : 0 < n) (h : n < 32) :
    Calls Tryd.prog 31 #[.int .u32 (x.toNat : Int), .int .i64 (-(n : Int))] w fun e w' => e = .returned (.int .u32 ((rotr x n).toNat : Int)) ∧ w = w' := by
  have HN := turn_no n h0 h
  go_enter Tryd.func31, Tryd.ntmps31
  go_wp2
  go_ret
  exact ⟨ret_int (rot_left x n h), rfl⟩
set_option maxHeartbeats 400000 in
theorem right_any (x : UInt32) (n : Nat) (w : World) (h0 : 0 < n) (h : n < 32) :
    Calls Tryd.prog 24 #[.int .u32 (x.toNat : Int), .int .i64 (n : Int)] w fun e w' => e = .returned (.int .u32 ((rotr x n).toNat : Int)) ∧ w = w' := by
  go_enter Tryd.func24, Tryd.ntmps24
  go_wp2_with (go_at_call 31; refine (rotate_any x n _ h0 h).mono ?_; rintro e w' ⟨rfl, rfl⟩)
  go_ret
  exact ⟨rfl, rfl⟩
theorem right_at (n : Nat) (x : UInt32) (m : Int) (w : World) (hm : m = (n : Int)) (h0 : 0 < n) (h : n < 32) :
    Calls Tryd.prog 24 #[.int .u32 (x.toNat : Int), .int .i64 m] w fun e w' => e = .returned (.int .u32 ((rotr x n).toNat : Int)) ∧ w' = w :=
  hm ▸ (right_any x n w h0 h).mono fun _ _ ⟨a, b⟩ => ⟨a, b.symm⟩
set_option maxHeartbeats 400000 in
theorem turned_any (x : UInt32) (n : Nat) (w : World) (h0 : 0 < n) (h : n < 32) :
    Calls Tryd.prog 27 #[.int .u32 (x.toNat : Int), .int .i64 (n : Int)] w fun e w' => e = .returned (.int .u32 ((rotr x n).toNat : Int)) ∧ ∃ nq, w' = w.drewN nq := by
  go_enter Tryd.func27, Tryd.ntmps27
  go_wp2
  go_quiet (fail)
  go_wp2
  go_ret
  exact ⟨ret_int (rot_right x n), nq, rfl⟩
theorem turned_at (n : Nat) (x : UInt32) (m : Int) (w : World) (hm : m = (n : Int)) (h0 : 0 < n) (h : n < 32) :
    Calls Tryd.prog 27 #[.int .u32 (x.toNat : Int), .int .i64 m] w fun e w' => e = .returned (.int .u32 ((rotr x n).toNat : Int)) ∧ ∃ nq, w' = w.drewN nq :=
  hm ▸ turned_any x n w h0 h
end Go.Proofs.YtnenjljcopbdeaaDoor
