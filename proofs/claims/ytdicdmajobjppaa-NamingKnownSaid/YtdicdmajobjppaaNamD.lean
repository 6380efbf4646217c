/- Contracts of the reference's Letters. -/
import Derived.Test.YtdicdmajobjppaaNamC
import Derived.OwnWalk
import Derived.WalkSmall
namespace Go.Proofs.Ytdicdmajobjppaa
open Go.RowKit

theorem infoU8 : (Try.prog.info? 5).map (fun i => (i.zero, i.size, i.bytes)) = some (some (.int .u8 0), 1, 1) := by kernel_rfl
theorem cells_succ (d : Nat → Nat) (k : Nat) : cells d (k + 1) = cells d k ++ [Value.int .u8 (d k : Int)] := by simp [cells, List.range_succ]
theorem cells_len (d : Nat → Nat) (k : Nat) : (cells d k).length = k := by simp [cells]
theorem cells_get (d : Nat → Nat) (n i : Nat) (h : i < n) : (cells d n)[i]? = some (.int .u8 (d i : Int)) := by simp [cells, h]

theorem own_has {wr : World} {base : Nat} {E : TypeId} {v : Value} {d : Nat → Nat} (hown : wr.ownsRow base E 1 v 20 (cells d 20)) :
    ∃ g cap, v = .slice (some ⟨g, 0, none⟩) 20 cap ∧ Has20 wr g d ∧ base ≤ g := by
  obtain ⟨hl, ⟨rfl, h0⟩ | ⟨g, cap, cur, rfl, hg, hgg, hn, hcm, hcs, htk⟩⟩ := hown
  · omega
  · refine ⟨g, cap, rfl, fun i hi => ?_, hg⟩
    have h1 : wr.cell? ⟨g, i, none⟩ = cur[i]? := by simp [World.cell?, hgg]
    have := cells_get d 20 i hi
    rw [← htk, List.getElem?_take_of_lt (by omega)] at this
    rw [h1]
    simpa using this

set_option maxHeartbeats 400000 in
theorem refLetters_any (d : Nat → Nat) (hd : ∀ i, d i < 256) (w : World) :
    Calls Try.prog 10 #[.agg (digA d 32)] w fun e w' => e = .returned (.string (strOf (letters (num d 20) 32))) ∧ Below w.heap.size w w' := by
  obtain ⟨i0, hi, hz0, hz1, hz2⟩ := info_parts infoU8
  have HD := Lib.hid hd
  clear hd
  go_enter Try.func10, Try.ntmps10
  go_wp2
  go_loopw [3, 4] (fun v i wr => ∃ k : Nat, k ≤ 20 ∧ i = .int .i64 k ∧ wr.ownsRow (w.heap.size + 1) 5 1 v k (cells d k) ∧ Below (w.heap.size + 1) (w.alloc (.cells (digA d 32) 23)) wr) (fun _ i _ => 20 - (intOf i).toNat)
  case atStart => exact ⟨0, by omega, rfl, World.ownsRow_nil _ _ _ _, Below.refl _ _⟩
  case round =>
    obtain ⟨k, hk, rfl, hown, hb⟩ := hrel
    have hsz := hb.size
    simp only [World.size_alloc] at hsz
    by_cases hlt : k < 20
    · have hcell : wr.cell? ⟨w.heap.size, k, none⟩ = some (.int .u8 (d k : Int)) := by
        rw [hb.cell (p := ⟨w.heap.size, k, none⟩) (by simp), World.cell?_alloc_at _ _ _ _ rfl]
        exact digA_get d 32 k (by omega)
      go_wp2_with (at_builtin; refine wpList_append_own _ rfl _ _ 39 rfl (w.heap.size + 1) 5 i0 (.int .u8 0) 1 1 Try.underlying39 hi hz0 hz1 hz2 rfl (by decide) _ _ _ rfl (hown.alloc _) ⟨wr.heap.size, 0, none⟩ 1 1 [.int .u8 (d k : Int)] rfl rfl ?c1 ?c2 ?c3 ?c4 ?c5 ?_)
      case c1 =>
        intro j u hj
        match j, hj with
        | 0, hj => simp at hj; subst hj; simp [Addr.add]
      case c2 => intro u hu; simp at hu; subst hu; rfl
      case c3 => unfold maxLen; omega
      case c4 => omega
      case c5 => simp; omega
      intro v' w1 hown' hgrow _
      rw [← cells_succ] at hown'
      have hb' := ((hb.alloc (by omega) _).grown hgrow (by simp; omega) (fun g hg => (hown.lt g hg).1))
      clear hown hb hgrow hcell
      go_wp2
      go_roundw
      case rel => exact ⟨k + 1, by omega, by go_num, hown', hb'⟩
      case measure => simp [intOf]; omega
    · obtain rfl : k = 20 := by omega
      obtain ⟨g, cap, hv, hhas, hg⟩ := own_has hown
      clear hown
      rw [hv]
      go_wp2_with fail
      refine (of20_any d HD.out g cap _ hhas).mono ?_
      rintro e w' ⟨rfl, rfl⟩
      go_wp2
      go_ret
      exact ⟨rfl, (((Below.refl _ _).alloc (Nat.le_refl _) _).trans (hb.mono (by omega)))⟩
end Go.Proofs.Ytdicdmajobjppaa
