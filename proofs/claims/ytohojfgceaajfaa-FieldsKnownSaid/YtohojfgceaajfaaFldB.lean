/- The contract of put, of a number. -/
import Derived.Test.YtohojfgceaajfaaFldA
namespace Go.Proofs.Ytohojfgceaajfaa
open Go.RowKit

/-- The bytes of a number of k bytes. -/
def numB (n k i : Nat) : Nat := n / 2 ^ (8 * (k - 1 - i)) % 256
theorem numB_lt (n k i : Nat) : numB n k i < 256 := Nat.mod_lt _ (by decide)
/-- A writer in block g that has L bytes d. -/
def Wr (w : World) (g base : Nat) (v : Value) (L : Nat) (d : Nat → Nat) : Prop :=
  w.heap[g]? = some (.cells #[v] 27 (0, 0)) ∧ w.ownsRow base 5 1 v L (cells d L) ∧ v.ownBlock ≠ some g
def Put (w : World) (g base : Nat) (v : Value) (L : Nat) (d : Nat → Nat) (w' : World) : Prop :=
  ∃ v', Wr w' g base v' L d ∧ KeptBut w w' g v.ownBlock ∧ Moved w v v'

set_option maxRecDepth 100000 in
set_option maxHeartbeats 1000000 in
theorem put_num (T : TypeId) (vv : Value) (n k : Nat) (hn : n < 18446744073709551616) (hk0 : 0 < k) (hk : k ≤ 8) (w : World) (g base : Nat) (v : Value) (L : Nat) (d : Nat → Nat) (hW : Wr w g base v L d) (hL : L ≤ 10000) (hbase : base ≤ w.heap.size)
    (hsl : ∀ w, (Instr.typeAssert (.iface T vv) 20 25 true).run Try.prog w = .ok (.tuple #[.slice none 0 0, .bool false]) w)
    (hnum : ∀ w, Calls Try.prog 34 #[.iface T vv] w fun e w' => e = .returned (.tuple #[.int .u64 (n : Int), .int .i64 (k : Int)]) ∧ w = w') :
    Calls Try.prog 31 #[.pointer (some ⟨g, 0, none⟩), .iface T vv] w fun e w' => e = .returned (.tuple #[]) ∧ Put w g base v (L + k) (joinD L d (numB n k)) w' := by
  obtain ⟨i0, hi, hz0, hz1, hz2⟩ := info_parts infoU8
  have HNUM := Lib.hid hnum
  obtain ⟨hg, hown, hne⟩ := hW
  have HN := Lib.hid hn
  clear hnum hn
  go_enter Try.func31, Try.ntmps31
  go_wp2_with fail
  refine (HNUM.out _).mono ?_
  rintro e w' ⟨rfl, rfl⟩
  go_wp2_with fail
  go_loopw [8] (fun i wr => ∃ j : Nat, j ≤ k ∧ i = .int .i64 ((k : Int) - 1 - (j : Int)) ∧ (∃ vj, wr.heap[g]? = some (.cells #[vj] 27 (0, 0)) ∧ wr.ownsRow base 5 1 vj (L + j) (cells (joinD L d (numB n k)) (L + j)) ∧ Hid (vj.ownBlock ≠ some g) ∧ Hid (KeptBut w wr g v.ownBlock) ∧ Hid (Moved w v vj))) (fun i _ => (intOf i + 1).toNat)
  case atStart => exact ⟨0, by omega, by go_num, v, hg, by rw [cells_congr (joinD L d (numB n k)) d (L + 0) (fun i hi => join_low _ _ _ _ (by omega))]; exact hown, Lib.hid hne, Lib.hid (KeptBut.refl _ _ _), Lib.hid (Moved.refl _ _)⟩
  case round =>
    clear hg hown hne
    obtain ⟨j, hj, rfl, vj, hg, hown, hne, hkb, hmv⟩ := hrel
    by_cases hlt : j < k
    · obtain ⟨p, hp⟩ : ∃ p, p + j + 1 = k := ⟨k - 1 - j, by omega⟩
      have ep : (k : Int) - 1 - (j : Int) = (p : Int) := by omega
      have hp7 : p ≤ 7 := by omega
      have HP := Lib.hid hp
      rw [ep]
      have hcell := cell_of_row wr g 0 _ _ _ hg
      have hfr := frozen_of_row wr g 0 _ _ hg
      simp at hcell
      obtain ⟨b, Bb⟩ : ∃ b : Nat, Hid (b = numB n k j) := ⟨_, Lib.hid rfl⟩
      have hge : decide ((0 : Int) ≤ (p : Int)) = true := decide_eq_true (by omega)
      have e1 : IntKind.i64.wrap (8 * (p : Int)) = 8 * (p : Int) := IntWalk.i64_in _ (by omega)
      have e2 : IntKind.u8.wrap ((n : Int) / 2 ^ (8 * p)) = (b : Int) := by
        rw [Bb.out, numB, IntKind.wrap_u8, show k - 1 - j = p by omega, Int.natCast_emod, Int.natCast_ediv, Int.natCast_pow]; rfl
      have e3 : (8 * (p : Int)).toNat = 8 * p := by omega
      have hgz : ((wr.alloc (.cells #[.int .u8 (b : Int)] 5)).drew).heap[g]? = some (.cells #[vj] 27 (0, 0)) := (old_block wr _ _ (block_lt hg)).trans hg
      have hownz := (hown.alloc (.cells #[.int .u8 (b : Int)] 5)).drew
      have hkz := Lib.hid ((hkb.out.alloc (.cells #[.int .u8 (b : Int)] 5)).drew)
      have hnz : ((wr.alloc (.cells #[.int .u8 (b : Int)] 5)).drew).heap[wr.heap.size]? = some (.cells #[.int .u8 (b : Int)] 5) := heap_alloc_new wr _
      have hgl := block_lt hg
      have hwl : w.heap.size ≤ wr.heap.size := hkb.out.size
      have hmz := hmv
      have hcA := cell_of_row _ g 0 _ _ _ hgz
      have hfA := frozen_of_row _ g 0 _ _ hgz
      simp at hcA
      have HCA := Lib.hid hcA
      have HFA := Lib.hid hfA
      have HCELL := Lib.hid hcell
      have HFR := Lib.hid hfr
      have HGZ := Lib.hid hgz
      have HOZ := Lib.hid hownz
      have HNZ := Lib.hid (World.news_of_block hnz)
      clear hp ep hlt hg hown hkb hgz hownz hnz hcA hfA hcell hfr
      go_wp2_with fail
      have hcell := HCELL.out
      have hfr := HFR.out
      have hcA := HCA.out
      have hfA := HFA.out
      go_region_law ((refine step_append_lies _ (by rfl) _ _ _ (by rfl) base 5 i0 _ 1 1 Try.underlying25 hi hz0 hz1 hz2 rfl (by omega) vj (L + j) _ (by rfl) HOZ.out ⟨wr.heap.size, 0, none⟩ 1 1 [.int .u8 (b : Int)] (by rfl) (by rfl) HNZ.out (u8_one _) (by omega) (by unfold maxLen; omega) (by omega) (by simp; omega) (wr.heap.size + 1) (by simp) ?_; intro gg cap w1 hown1 hgrow hat hlt1; have hc1 := (hgrow.cell_far ⟨g, 0, none⟩ (by simp; omega) (fun e => hne.out e.symm)).trans HCA.out; have hf1 := (hgrow.frozen_far ⟨g, 0, none⟩ (by simp; omega) (fun e => hne.out e.symm)).trans HFA.out))
      all_goals
        have hmv1 : Moved ((wr.alloc (.cells #[.int .u8 (b : Int)] 5)).drew) vj (.slice (some ⟨gg, 0, none⟩) (L + j + 1) cap) := by
          rcases hat with h | h
          · exact .inl h.symm
          · exact .inr ⟨gg, rfl, by simp; omega⟩
        have hg1 := kept HGZ.out hgrow (fun e => hne.out e.symm)
        have hk1 := hkz.out.grown hmv.out hgrow
        have hm1 := Lib.hid (hmv.out.trans hmv1 (by simp; omega))
        have hne1 := Lib.hid (hmv1.ne (by simp; omega) hne.out)
        have hg2 := Go.Joins.block_setCell (i := 0) hg1 (.slice (some ⟨gg, 0, none⟩) (L + j + 1) cap)
        have hown2 := ownsRow_setCell_other hown1 (a := ⟨g, 0, none⟩) hne1.out (.slice (some ⟨gg, 0, none⟩) (L + j + 1) cap)
        have hk2 := Lib.hid (hk1.setCell (p := ⟨g, 0, none⟩) rfl (.slice (some ⟨gg, 0, none⟩) (L + j + 1) cap))
        rw [Bb.out, show [Value.int .u8 ((numB n k j : Nat) : Int)] = [Value.int .u8 ((joinD L d (numB n k) (L + j) : Nat) : Int)] by rw [join_at], ← cells_succ] at hown2
        clear HGZ HOZ HNZ hgrow hg1 hkz hown1 hcell hfr hmv hne hk1 hmv1 hc1 hf1 hcA hfA hat
        go_wp2_with fail
        go_roundw
        case rel =>
          have hp := HP.out
          exact ⟨j + 1, by omega, val_int (by omega), _, hg2, hown2, hne1, hk2, hm1⟩
        case measure => (simp [intOf] <;> omega)
    · obtain rfl : j = k := by omega
      have hge : decide ((0 : Int) ≤ (j : Int) - 1 - (j : Int)) = false := decide_eq_false (by omega)
      go_wp2_with fail
      go_end0
      exact ⟨rfl, vj, ⟨hg, hown, hne.out⟩, hkb.out, hmv.out⟩
end Go.Proofs.Ytohojfgceaajfaa
