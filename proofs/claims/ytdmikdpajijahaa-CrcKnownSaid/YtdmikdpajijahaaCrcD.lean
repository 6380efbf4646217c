/- The walk of the law CrcRows. -/
import Derived.Test.YtdmikdpajijahaaCrcC
namespace Go.Proofs.Ytdmikdpajijahaa
open Go.RowKit

theorem crcRows_a (A B : Option Addr) (n m cap cap2 : Nat) (w : World) (h5 : 20000 < n) :
    Calls Try.prog 5 #[.slice A n cap, .slice B m cap2] w fun e w' => e = .returned (.bool true) ∧ Below w.heap.size w w' := by
  go_enter Try.func5, Try.ntmps5
  go_wp2_with fail
  refine (works_any _).mono ?_
  rintro e w4 ⟨rfl, hb4⟩
  go_wp2_with fail
  go_ret
  exact ⟨rfl, hb4⟩
theorem crcRows_b (A B : Option Addr) (n m cap cap2 : Nat) (w : World) (h4 : n ≤ 20000) (h5 : 20000 < m) :
    Calls Try.prog 5 #[.slice A n cap, .slice B m cap2] w fun e w' => e = .returned (.bool true) ∧ Below w.heap.size w w' := by
  go_enter Try.func5, Try.ntmps5
  go_wp2_with fail
  refine (works_any _).mono ?_
  rintro e w4 ⟨rfl, hb4⟩
  go_wp2_with fail
  go_ret
  exact ⟨rfl, hb4⟩

def joinD (n : Nat) (d e : Nat → Nat) (i : Nat) : Nat := if i < n then d i else e (i - n)
theorem join_cells (n m : Nat) (d e : Nat → Nat) : cells d n ++ cells e m = cells (joinD n d e) (n + m) :=
  cells_append _ _ _ _ _ (fun i hi => by rw [joinD, if_pos hi]) fun i _ => by rw [joinD, if_neg (by omega)]; congr 1; omega
theorem join_sum (n m : Nat) (d e : Nat → Nat) : sumR (joinD n d e) (n + m) = ~~~(runs e m (runs d n (BitVec.allOnes 32))) := by
  rw [sumR, runs_add, runs_congr (joinD n d e) d n _ (fun i hi => by rw [joinD, if_pos hi]), runs_congr (fun i => joinD n d e (n + i)) e m _ (fun i _ => by unfold joinD; rw [if_neg (by omega), Nat.add_sub_cancel_left])]
theorem join_lt (n : Nat) (d e : Nat → Nat) (hd : ∀ i, d i < 256) (he : ∀ i, e i < 256) (i : Nat) : joinD n d e i < 256 := by
  unfold joinD; split; exact hd _; exact he _
theorem not_sum (d : Nat → Nat) (n : Nat) : bits .xor .u32 IntKind.u32.max ((sumR d n).toNat : Int) = ((runs d n (BitVec.allOnes 32)).toNat : Int) := by
  rw [not_max, sumR, BitVec.not_not]

set_option maxHeartbeats 1000000 in
theorem crcRows_c (d e : Nat → Nat) (A B : Option Addr) (n m cap cap2 : Nat) (w : World) (hd : ∀ i, d i < 256) (hnc : n ≤ cap) (hcm : cap ≤ maxLen) (hr : Holds w w.heap.size A n d) (hA : A = none → cap = 0)
    (he : ∀ i, e i < 256) (hmc : m ≤ cap2) (hcm2 : cap2 ≤ maxLen) (hr2 : Holds w w.heap.size B m e) (hB : B = none → cap2 = 0) (h4 : n ≤ 20000) (h5 : m ≤ 20000) :
    Calls Try.prog 5 #[.slice A n cap, .slice B m cap2] w fun e w' => e = .returned (.bool true) ∧ Below w.heap.size w w' := by
  obtain ⟨i0, hi, hz0, hz1, hz2⟩ := info_parts infoU8
  have HD := Lib.hid hd
  have HE := Lib.hid he
  have HR := Lib.hid hr
  have HR2 := Lib.hid hr2
  have HA := Lib.hid hA
  have HB := Lib.hid hB
  have HNC := Lib.hid hnc
  have HMC := Lib.hid hmc
  have HCM := Lib.hid hcm
  have HCM2 := Lib.hid hcm2
  clear hd he hr hr2 hA hB hnc hmc hcm hcm2
  have hsg : IntKind.u32.signed = false := rfl
  go_enter Try.func5, Try.ntmps5
  go_wp2_with (at_builtin; refine wpList_append_holds rfl _ _ 26 rfl w.heap.size 5 i0 Try.underlying26 hi hz0 hz1 hz2 _ 0 [] rfl (World.ownsRow_nil _ _ _ _) w.heap.size A n cap _ rfl HR.out HA.out HNC.out ?b5 ?b6 ?b7 ?_)
  case b5 => unfold maxLen; omega
  case b6 => omega
  case b7 => omega
  intro v2 w2 hown2 hgr2
  have hB2 := (Below.refl w.heap.size w).grown hgr2 (Nat.le_refl _) (fun g hg => by cases hg)
  have HO2 := Lib.hid (show w2.ownsRow w.heap.size 5 1 v2 n (cells d n) by simpa using hown2)
  have hz2' : w.heap.size ≤ w2.heap.size := hgr2.size
  have HR2' := Lib.hid (HR2.out.below hB2)
  clear hown2 hgr2
  go_wp2_with (at_builtin; refine wpList_append_holds rfl _ _ 26 rfl w.heap.size 5 i0 Try.underlying26 hi hz0 hz1 hz2 v2 n _ rfl HO2.out w.heap.size B m cap2 _ rfl HR2'.out HB.out HMC.out ?b5 ?b6 ?b7 ?_)
  case b5 => unfold maxLen; omega
  case b6 => omega
  case b7 => omega
  intro v3 w3 hown3 hgr3
  have hB3 := hB2.grown hgr3 (by omega) (fun g hg => by have := (HO2.out.lt g hg).1; omega)
  rw [join_cells] at hown3
  obtain ⟨L, capL, rfl, hLc, hLm, hLh, hLn⟩ := own_slice hown3
  have HS := Lib.hid (sum_any (joinD n d e) (join_lt n d e HD.out HE.out) L (n + m) capL hLc hLm w3 hLh)
  rw [join_sum] at HS
  have HS1 := Lib.hid (sum_any d HD.out A n cap HNC.out HCM.out w3 ((HR.out.below hB3).more hB3.size))
  have HRe := Lib.hid (HR2.out.below hB3)
  have hns := not_sum d n
  obtain ⟨q, Q⟩ : ∃ q, Hid (q = sumR d n) := ⟨_, Lib.hid rfl⟩
  obtain ⟨p, PP⟩ : ∃ p, Hid (p = runs d n (BitVec.allOnes 32)) := ⟨_, Lib.hid rfl⟩
  rw [← PP.out] at HS hns
  rw [← Q.out] at HS1 hns
  have HNS := Lib.hid hns
  clear hown3 hgr3 hB2 HO2 HR2' hLc hLm hLh hLn hz2' hns
  go_wp2_with fail
  refine HS1.out.mono ?_
  rintro e' w' ⟨rfl, rfl⟩
  go_wp2_with fail
  rw [HNS.out]
  go_loop [6, 7] (fun r i => ∃ k : Nat, k ≤ m ∧ i = .int .i64 k ∧ r = .int .u32 ((runs e k p).toNat : Int)) (fun _ i => m - (intOf i).toNat)
  case atStart => exact ⟨0, Nat.zero_le _, rfl, rfl⟩
  case round =>
    obtain ⟨k, hk, rfl, rfl⟩ := hrel
    by_cases hlt : k < m
    · obtain ⟨ad, rfl, hl, hc⟩ := HRe.out (by omega)
      have hcell := hc k hlt
      clear hc
      go_wp2_with (go_at_call 10; refine (step_any _ (e k) (HE.out k) _).mono ?_; rintro e w' ⟨rfl, rfl⟩)
      go_round
      case rel => exact ⟨k + 1, by omega, by go_num, rfl⟩
      case measure => simp [intOf]; omega
    · obtain rfl : k = m := by omega
      have hnm := not_max (runs e k p)
      go_wp2_with fail
      refine HS.out.mono ?_
      rintro e' w' ⟨rfl, rfl⟩
      go_wp2_with fail
      refine (works_any _).mono ?_
      rintro e' w5 ⟨rfl, hb5⟩
      go_wp2_with fail
      go_ret
      exact ⟨rfl, below_step hB3 hb5 hB3.size⟩
theorem crcRows_walk (d : Nat → Nat) (A : Option Addr) (n cap : Nat) (e : Nat → Nat) (B : Option Addr) (m cap2 : Nat) (w : World) (hd : ∀ i, d i < 256) (hnc : n ≤ cap) (hcm : cap ≤ maxLen) (hr : Holds w w.heap.size A n d) (hA : A = none → cap = 0)
    (he : ∀ i, e i < 256) (hmc : m ≤ cap2) (hcm2 : cap2 ≤ maxLen) (hr2 : Holds w w.heap.size B m e) (hB : B = none → cap2 = 0) :
    Calls Try.prog 5 #[.slice A n cap, .slice B m cap2] w fun e w' => e = .returned (.bool true) ∧ Below w.heap.size w w' := by
  by_cases h4 : 20000 < n
  · exact crcRows_a A B n m cap cap2 w h4
  · by_cases h5 : 20000 < m
    · exact crcRows_b A B n m cap cap2 w (by omega) h5
    · exact crcRows_c d e A B n m cap cap2 w hd hnc hcm hr hA he hmc hcm2 hr2 hB (by omega) (by omega)
end Go.Proofs.Ytdmikdpajijahaa
