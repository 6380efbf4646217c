/- Facts of the assertions of types; the contracts of number. -/
import Derived.Test.YtohojfgceaajfaaBaseB
import Derived.Test.YtohojfgceaajfaaFacts
namespace Go.Proofs.Ytohojfgceaajfaa
open Go.RowKit

theorem ta_u8_u8 (w : World) (x : Value) : (Instr.typeAssert (.iface 5 x) 20 5 true).run Try.prog w = .ok (.tuple #[x, .bool true]) w := by kernel_rfl
theorem tb_u8 (w : World) (x : Value) : (Instr.typeAssert (.iface 5 x) 20 5 false).run Try.prog w = .ok x w := by kernel_rfl
theorem ta_u8_u16 (w : World) (x : Value) : (Instr.typeAssert (.iface 5 x) 20 54 true).run Try.prog w = .ok (.tuple #[.int .u16 0, .bool false]) w := by kernel_rfl
theorem ta_u8_u32 (w : World) (x : Value) : (Instr.typeAssert (.iface 5 x) 20 56 true).run Try.prog w = .ok (.tuple #[.int .u32 0, .bool false]) w := by kernel_rfl
theorem ta_u8_u64 (w : World) (x : Value) : (Instr.typeAssert (.iface 5 x) 20 28 true).run Try.prog w = .ok (.tuple #[.int .u64 0, .bool false]) w := by kernel_rfl
theorem ta_u8_sl (w : World) (x : Value) : (Instr.typeAssert (.iface 5 x) 20 25 true).run Try.prog w = .ok (.tuple #[.slice none 0 0, .bool false]) w := by kernel_rfl
theorem ta_u16_u8 (w : World) (x : Value) : (Instr.typeAssert (.iface 54 x) 20 5 true).run Try.prog w = .ok (.tuple #[.int .u8 0, .bool false]) w := by kernel_rfl
theorem ta_u16_u16 (w : World) (x : Value) : (Instr.typeAssert (.iface 54 x) 20 54 true).run Try.prog w = .ok (.tuple #[x, .bool true]) w := by kernel_rfl
theorem tb_u16 (w : World) (x : Value) : (Instr.typeAssert (.iface 54 x) 20 54 false).run Try.prog w = .ok x w := by kernel_rfl
theorem ta_u16_u32 (w : World) (x : Value) : (Instr.typeAssert (.iface 54 x) 20 56 true).run Try.prog w = .ok (.tuple #[.int .u32 0, .bool false]) w := by kernel_rfl
theorem ta_u16_u64 (w : World) (x : Value) : (Instr.typeAssert (.iface 54 x) 20 28 true).run Try.prog w = .ok (.tuple #[.int .u64 0, .bool false]) w := by kernel_rfl
theorem ta_u16_sl (w : World) (x : Value) : (Instr.typeAssert (.iface 54 x) 20 25 true).run Try.prog w = .ok (.tuple #[.slice none 0 0, .bool false]) w := by kernel_rfl
theorem ta_u32_u8 (w : World) (x : Value) : (Instr.typeAssert (.iface 56 x) 20 5 true).run Try.prog w = .ok (.tuple #[.int .u8 0, .bool false]) w := by kernel_rfl
theorem ta_u32_u16 (w : World) (x : Value) : (Instr.typeAssert (.iface 56 x) 20 54 true).run Try.prog w = .ok (.tuple #[.int .u16 0, .bool false]) w := by kernel_rfl
theorem ta_u32_u32 (w : World) (x : Value) : (Instr.typeAssert (.iface 56 x) 20 56 true).run Try.prog w = .ok (.tuple #[x, .bool true]) w := by kernel_rfl
theorem tb_u32 (w : World) (x : Value) : (Instr.typeAssert (.iface 56 x) 20 56 false).run Try.prog w = .ok x w := by kernel_rfl
theorem ta_u32_u64 (w : World) (x : Value) : (Instr.typeAssert (.iface 56 x) 20 28 true).run Try.prog w = .ok (.tuple #[.int .u64 0, .bool false]) w := by kernel_rfl
theorem ta_u32_sl (w : World) (x : Value) : (Instr.typeAssert (.iface 56 x) 20 25 true).run Try.prog w = .ok (.tuple #[.slice none 0 0, .bool false]) w := by kernel_rfl
theorem ta_u64_u8 (w : World) (x : Value) : (Instr.typeAssert (.iface 28 x) 20 5 true).run Try.prog w = .ok (.tuple #[.int .u8 0, .bool false]) w := by kernel_rfl
theorem ta_u64_u16 (w : World) (x : Value) : (Instr.typeAssert (.iface 28 x) 20 54 true).run Try.prog w = .ok (.tuple #[.int .u16 0, .bool false]) w := by kernel_rfl
theorem ta_u64_u32 (w : World) (x : Value) : (Instr.typeAssert (.iface 28 x) 20 56 true).run Try.prog w = .ok (.tuple #[.int .u32 0, .bool false]) w := by kernel_rfl
theorem ta_u64_u64 (w : World) (x : Value) : (Instr.typeAssert (.iface 28 x) 20 28 true).run Try.prog w = .ok (.tuple #[x, .bool true]) w := by kernel_rfl
theorem tb_u64 (w : World) (x : Value) : (Instr.typeAssert (.iface 28 x) 20 28 false).run Try.prog w = .ok x w := by kernel_rfl
theorem ta_u64_sl (w : World) (x : Value) : (Instr.typeAssert (.iface 28 x) 20 25 true).run Try.prog w = .ok (.tuple #[.slice none 0 0, .bool false]) w := by kernel_rfl
theorem ta_sl_u8 (w : World) (x : Value) : (Instr.typeAssert (.iface 25 x) 20 5 true).run Try.prog w = .ok (.tuple #[.int .u8 0, .bool false]) w := by kernel_rfl
theorem ta_sl_u16 (w : World) (x : Value) : (Instr.typeAssert (.iface 25 x) 20 54 true).run Try.prog w = .ok (.tuple #[.int .u16 0, .bool false]) w := by kernel_rfl
theorem ta_sl_u32 (w : World) (x : Value) : (Instr.typeAssert (.iface 25 x) 20 56 true).run Try.prog w = .ok (.tuple #[.int .u32 0, .bool false]) w := by kernel_rfl
theorem ta_sl_u64 (w : World) (x : Value) : (Instr.typeAssert (.iface 25 x) 20 28 true).run Try.prog w = .ok (.tuple #[.int .u64 0, .bool false]) w := by kernel_rfl
theorem ta_sl_sl (w : World) (x : Value) : (Instr.typeAssert (.iface 25 x) 20 25 true).run Try.prog w = .ok (.tuple #[x, .bool true]) w := by kernel_rfl
theorem tb_sl (w : World) (x : Value) : (Instr.typeAssert (.iface 25 x) 20 25 false).run Try.prog w = .ok x w := by kernel_rfl
set_option maxHeartbeats 400000 in
theorem number_u8 (n : Nat) (w : World) (hn : n < 256) :
    Calls Try.prog 34 #[.iface 5 (.int .u8 (n : Int))] w fun e w' => e = .returned (.tuple #[.int .u64 (n : Int), .int .i64 1]) ∧ w = w' := by
  have tu8 := ta_u8_u8
  go_enter Try.func34, Try.ntmps34
  go_wp2_with fail
  go_ret2
  exact ⟨rfl, rfl⟩
set_option maxHeartbeats 400000 in
theorem number_u16 (n : Nat) (w : World) (hn : n < 65536) :
    Calls Try.prog 34 #[.iface 54 (.int .u16 (n : Int))] w fun e w' => e = .returned (.tuple #[.int .u64 (n : Int), .int .i64 2]) ∧ w = w' := by
  have tu8 := ta_u16_u8
  have tu16 := ta_u16_u16
  go_enter Try.func34, Try.ntmps34
  go_wp2_with fail
  go_ret2
  exact ⟨rfl, rfl⟩
set_option maxHeartbeats 400000 in
theorem number_u32 (n : Nat) (w : World) (hn : n < 4294967296) :
    Calls Try.prog 34 #[.iface 56 (.int .u32 (n : Int))] w fun e w' => e = .returned (.tuple #[.int .u64 (n : Int), .int .i64 4]) ∧ w = w' := by
  have tu8 := ta_u32_u8
  have tu16 := ta_u32_u16
  have tu32 := ta_u32_u32
  go_enter Try.func34, Try.ntmps34
  go_wp2_with fail
  go_ret2
  exact ⟨rfl, rfl⟩
set_option maxHeartbeats 400000 in
theorem number_u64 (n : Nat) (w : World) (hn : n < 18446744073709551616) :
    Calls Try.prog 34 #[.iface 28 (.int .u64 (n : Int))] w fun e w' => e = .returned (.tuple #[.int .u64 (n : Int), .int .i64 8]) ∧ w = w' := by
  have tu8 := ta_u64_u8
  have tu16 := ta_u64_u16
  have tu32 := ta_u64_u32
  have tu64 := ta_u64_u64
  go_enter Try.func34, Try.ntmps34
  go_wp2_with fail
  go_ret2
  exact ⟨rfl, rfl⟩
end Go.Proofs.Ytohojfgceaajfaa
