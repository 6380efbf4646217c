/- files: the kit's File and Pick. -/
import Derived.Test.YtcleebigfbbdbaaFmU
set_option linter.unusedVariables false
set_option linter.unusedSimpArgs false
namespace Go.Proofs.Ytcleebigfbbdbaa
open Go Go.RowKit Go.BigFrame
open Fil (Es Nd Sp)

set_option maxRecDepth 1000000 in
theorem file_any (s : ByteArray) (hs : s.size ≤ maxLen) (w : World) :
    Calls Try.prog 20 #[.string s] w fun e W => Below w.heap.size w W ∧ ∃ v, e = .returned v ∧ NdV W W.heap.size v ⟨1, s, .nil⟩ := by
  go_enter Try.func20, Try.ntmps20
  have hbw := (Below.refl w.heap.size w).alloc (Nat.le_refl _) (.cells #[.int .u8 1, .string s, .slice none 0 0] 24)
  have hnb := heap_alloc_new w (.cells #[.int .u8 1, .string s, .slice none 0 0] 24)
  have hi : (Try.prog.info? 24).map (·.size) = some 3 := by kernel_rfl
  have HH := Lib.hid (And.intro hbw hnb)
  clear hbw hnb
  go_wp2
  refine bodyPost_ret (results_cell_row rfl _ _ _ _ _ _ _ rfl HH.out.2 Try.underlying24 (by rfl) hi) rfl ⟨HH.out.1, _, rfl, _, rfl, EsAt.nil _ _, hs, (by decide : (1 : Nat) < 256)⟩
set_option maxRecDepth 1000000 in
theorem pick_any (i : Int) (n : Nat) (hi : -9223372036854775808 ≤ i) (hi2 : i ≤ 9223372036854775807) (hn : n ≤ 1000000) (w : World) :
    Calls Try.prog 38 #[.int .i64 i, .int .i64 (n : Int)] w fun e W => W = w ∧ ∃ k : Nat, e = .returned (.int .i64 (k : Int)) ∧ (0 < n → k < n) := by
  go_enter Try.func38, Try.ntmps38
  rcases Nat.eq_zero_or_pos n with rfl | hp
  · go_wp2
    go_ret
    exact ⟨rfl, 0, rfl, fun h => by omega⟩
  · have h1 : decide ((n : Int) ≤ 0) = false := decide_eq_false (by omega)
    have h2 : ((n : Int) == 0) = false := beq_eq_false_iff_ne.2 (by omega)
    have t1 := Int.lt_tmod_of_pos i (show (0 : Int) < (n : Int) by omega)
    have t2 := Int.tmod_lt_of_pos i (show (0 : Int) < (n : Int) by omega)
    have hw : IntKind.i64.wrap (i.tmod (n : Int) + (n : Int)) = i.tmod (n : Int) + (n : Int) := IntWalk.i64_in _ (by omega)
    have t3 := Int.tmod_nonneg (n : Int) (show 0 ≤ i.tmod (n : Int) + (n : Int) by omega)
    have t4 := Int.tmod_lt_of_pos (i.tmod (n : Int) + (n : Int)) (show (0 : Int) < (n : Int) by omega)
    have HT := Lib.hid (And.intro t3 t4)
    clear t1 t2 t3 t4
    go_wp2
    go_ret
    obtain ⟨t3, t4⟩ := HT.out
    refine ⟨rfl, ((i.tmod (n : Int) + (n : Int)).tmod (n : Int)).toNat, ?_, fun _ => by omega⟩
    rw [Int.toNat_of_nonneg t3]
    rfl
end Go.Proofs.Ytcleebigfbbdbaa
