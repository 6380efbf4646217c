/- The contracts of width, of the reference's Bytes, and of works. -/
import Derived.Test.YtohojfgceaajfaaFldF
namespace Go.Proofs.Ytohojfgceaajfaa
open Go.RowKit

def wd (k : Nat) : Nat := if k = 0 then 1 else if k = 1 then 2 else if k = 2 then 4 else 8
theorem wd_le (k : Nat) : 0 < wd k ∧ wd k ≤ 8 := by unfold wd; split; omega; split; omega; split <;> omega

set_option maxHeartbeats 400000 in
theorem width_any (c : Nat) (_hc : c < 256) (h4 : c % 5 ≠ 4) (w : World) :
    Calls Try.prog 14 #[.int .u8 (c : Int)] w fun e w' => e = .returned (.int .i64 (wd (c % 5) : Int)) ∧ Below w.heap.size w w' := by
  have hm : c % 5 = 0 ∨ c % 5 = 1 ∨ c % 5 = 2 ∨ c % 5 = 3 := by omega
  rcases hm with h | h | h | h
  all_goals
    rw [h]
    first | (have e : (c : Int) % 5 = 0 := by omega) | (have e : (c : Int) % 5 = 1 := by omega) | (have e : (c : Int) % 5 = 2 := by omega) | (have e : (c : Int) % 5 = 3 := by omega)
    clear h h4
    go_enter Try.func14, Try.ntmps14
    go_wp2_with fail
    go_ret
    exact ⟨rfl, (Below.refl _ _).alloc (Nat.le_refl _) _⟩

set_option maxHeartbeats 400000 in
theorem refBytes_any (n k : Nat) (hk : k ≤ 8) (hn : n < 18446744073709551616) (w : World) :
    Calls Try.prog 30 #[.int .u64 (n : Int), .int .i64 (k : Int)] w fun e w' => (∃ v, e = .returned v ∧ w'.ownsRow w.heap.size 5 1 v k (cells (numB n k) k)) ∧ Below w.heap.size w w' := by
  obtain ⟨i0, hi, hz0, hz1, hz2⟩ := info_parts infoU8
  have HN := Lib.hid hn
  clear hn
  go_enter Try.func30, Try.ntmps30
  go_wp2_with fail
  go_loopw [5, 6] (fun v i wr => ∃ j : Nat, j ≤ k ∧ i = .int .i64 ((k : Int) - 1 - (j : Int)) ∧ wr.ownsRow w.heap.size 5 1 v j (cells (numB n k) j) ∧ Below w.heap.size w wr) (fun _ i _ => (intOf i + 1).toNat)
  case atStart => exact ⟨0, by omega, by go_num, World.ownsRow_nil _ _ _ _, Below.refl _ _⟩
  case round =>
    obtain ⟨j, hj, rfl, hown, hb⟩ := hrel
    by_cases hlt : j < k
    · obtain ⟨p, hp⟩ : ∃ p, p + j + 1 = k := ⟨k - 1 - j, by omega⟩
      have ep : (k : Int) - 1 - (j : Int) = (p : Int) := by omega
      have hp7 : p ≤ 7 := by omega
      have HP := Lib.hid hp
      rw [ep]
      obtain ⟨b, Bb⟩ : ∃ b : Nat, Hid (b = numB n k j) := ⟨_, Lib.hid rfl⟩
      have hge : decide ((0 : Int) ≤ (p : Int)) = true := decide_eq_true (by omega)
      have e2 : (n : Int) / 2 ^ (8 * p) % 256 = (b : Int) := by
        rw [Bb.out, numB, show k - 1 - j = p by omega, Int.natCast_emod, Int.natCast_ediv, Int.natCast_pow]; rfl
      have HO := Lib.hid (hown.alloc (.cells #[.int .u8 (b : Int)] 5))
      have hB := hb.alloc hb.size (.cells #[.int .u8 (b : Int)] 5)
      have HNZ := Lib.hid (World.news_of_block (heap_alloc_new wr (.cells #[.int .u8 (b : Int)] 5)))
      have hwz := hb.size
      clear hp ep hlt hown hb
      go_wp2_with (at_builtin; refine wpList_app rfl _ _ 25 rfl w.heap.size 5 i0 (.int .u8 0) 1 Try.underlying25 hi hz0 hz1 hz2 rfl _ j _ rfl HO.out ⟨wr.heap.size, 0, none⟩ 1 1 [.int .u8 (b : Int)] rfl rfl HNZ.out (u8_one _) ?b5 ?b6 ?b7 ?_)
      case b5 => unfold maxLen; omega
      case b6 => omega
      case b7 => (first | omega | (simp; omega))
      intro v1 w1 hown1 hgr1 _
      have hB1 := hB.grown hgr1 (by simp; omega) (fun g hg => by have := (HO.out.lt g hg).1; omega)
      rw [Bb.out, ← cells_succ] at hown1
      clear HO hB HNZ hgr1
      go_wp2_with fail
      go_roundw
      case rel =>
        have hp := HP.out
        exact ⟨j + 1, by omega, val_int (by omega), hown1, hB1⟩
      case measure => (simp [intOf] <;> omega)
    · obtain rfl : j = k := by omega
      have hge : decide ((0 : Int) ≤ (j : Int) - 1 - (j : Int)) = false := decide_eq_false (by omega)
      go_wp2_with fail
      go_ret
      exact ⟨⟨_, rfl, hown⟩, hb⟩

/-- A new writer. -/
theorem wr_new (w : World) : Wr (w.alloc (.cells #[.slice none 0 0] 27)) w.heap.size (w.heap.size + 1) (.slice none 0 0) 0 (fun _ => 0) :=
  ⟨heap_alloc_new w _, World.ownsRow_nil _ _ _ _, by simp [Value.ownBlock]⟩
end Go.Proofs.Ytohojfgceaajfaa
