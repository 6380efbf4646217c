/- The walks of the laws CrcSteps, CrcLinear, CrcUnlike, CrcSums. -/
import Derived.Test.YtdmikdpajijahaaCrcB
namespace Go.Proofs.Ytdmikdpajijahaa
open Go.RowKit

theorem reg_of (a : Int) (h : (Lit.int .u32 a).wf = true) : ∃ r : Reg, a = (r.toNat : Int) := by
  have hb := bounds_u32 h
  refine ⟨BitVec.ofNat 32 a.toNat, ?_⟩
  rw [BitVec.toNat_ofNat, Nat.mod_eq_of_lt (by omega)]
  omega
theorem byte_of (a : Int) (h : (Lit.int .u8 a).wf = true) : ∃ c : Nat, c < 256 ∧ a = (c : Int) := by
  have hb := bounds_u8 h
  exact ⟨a.toNat, by omega, by omega⟩

theorem crcSteps_walk (a b : Int) (w : World) (ha : (Lit.int .u32 a).wf = true) (hb : (Lit.int .u8 b).wf = true) :
    Calls Try.prog 3 #[.int .u32 a, .int .u8 b] w fun e w' => e = .returned (.bool true) ∧ Below w.heap.size w w' := by
  obtain ⟨r, rfl⟩ := reg_of a ha
  obtain ⟨c, hc, rfl⟩ := byte_of b hb
  clear ha hb
  have H1 := Lib.hid (fun w => step_any r c hc w)
  have H2 := Lib.hid (fun w => refStep_any r c hc w)
  go_enter Try.func3, Try.ntmps3
  go_wp2_with fail
  refine (H1.out _).mono ?_
  rintro e w' ⟨rfl, rfl⟩
  go_wp2_with fail
  refine (H2.out _).mono ?_
  rintro e w' ⟨rfl, rfl⟩
  go_wp2_with fail
  refine (works_any _).mono ?_
  rintro e w' ⟨rfl, hb⟩
  go_wp2_with fail
  go_ret
  exact ⟨rfl, hb⟩

theorem byte_xor (c d : Nat) (hc : c < 256) (hd : d < 256) : bits .xor .u8 (c : Int) (d : Int) = ((c ^^^ d : Nat) : Int) ∧ c ^^^ d < 256 :=
  ⟨u8_xor_nat c d hc hd, Nat.xor_lt_two_pow (n := 8) hc hd⟩
theorem crcLinear_walk (a b x y : Int) (w : World) (ha : (Lit.int .u32 a).wf = true) (hb : (Lit.int .u32 b).wf = true) (hx : (Lit.int .u8 x).wf = true) (hy : (Lit.int .u8 y).wf = true) :
    Calls Try.prog 6 #[.int .u32 a, .int .u32 b, .int .u8 x, .int .u8 y] w fun e w' => e = .returned (.bool true) ∧ Below w.heap.size w w' := by
  obtain ⟨r, rfl⟩ := reg_of a ha
  obtain ⟨s, rfl⟩ := reg_of b hb
  obtain ⟨c, hc, rfl⟩ := byte_of x hx
  obtain ⟨d, hd, rfl⟩ := byte_of y hy
  clear ha hb hx hy
  obtain ⟨e1, h1⟩ := byte_xor c d hc hd
  have e2 := r_xor r s
  have e3 := r_xor (step r c) (step s d)
  rw [← step_xor] at e3
  have H0 := Lib.hid (fun w => step_any (r ^^^ s) (c ^^^ d) h1 w)
  have H1 := Lib.hid (fun w => step_any r c hc w)
  have H2 := Lib.hid (fun w => step_any s d hd w)
  clear h1
  go_enter Try.func6, Try.ntmps6
  go_wp2_with fail
  refine (H0.out _).mono ?_
  rintro e w' ⟨rfl, rfl⟩
  go_wp2_with fail
  refine (H1.out _).mono ?_
  rintro e w' ⟨rfl, rfl⟩
  go_wp2_with fail
  refine (H2.out _).mono ?_
  rintro e w' ⟨rfl, rfl⟩
  go_wp2_with fail
  refine (works_any _).mono ?_
  rintro e w' ⟨rfl, hb⟩
  go_wp2_with fail
  go_ret
  exact ⟨rfl, hb⟩

theorem reg_beq (a b : Reg) (h : a ≠ b) : ((a.toNat : Int) == (b.toNat : Int)) = false := by
  rw [beq_eq_false_iff_ne]
  intro e
  exact h (BitVec.eq_of_toNat_eq (by omega))
theorem byte_beq (a b : Nat) (h : a ≠ b) : ((a : Int) == (b : Int)) = false := by
  rw [beq_eq_false_iff_ne]
  omega
set_option maxHeartbeats 400000 in
theorem crcUnlike_walk (a b x y : Int) (w : World) (ha : (Lit.int .u32 a).wf = true) (hb : (Lit.int .u32 b).wf = true) (hx : (Lit.int .u8 x).wf = true) (hy : (Lit.int .u8 y).wf = true) :
    Calls Try.prog 7 #[.int .u32 a, .int .u32 b, .int .u8 x, .int .u8 y] w fun e w' => e = .returned (.bool true) ∧ Below w.heap.size w w' := by
  obtain ⟨r, rfl⟩ := reg_of a ha
  obtain ⟨s, rfl⟩ := reg_of b hb
  obtain ⟨c, hc, rfl⟩ := byte_of x hx
  obtain ⟨d, hd, rfl⟩ := byte_of y hy
  clear ha hb hx hy
  have H0 := Lib.hid (fun w => step_any r c hc w)
  have H1 := Lib.hid (fun w => step_any s c hc w)
  have H2 := Lib.hid (fun w => step_any r d hd w)
  have HW := Lib.hid works_any
  by_cases hrs : r = s
  all_goals by_cases hcd : c = d
  all_goals
    first | subst hrs | (have e1 := reg_beq _ _ hrs; have e2 := reg_beq _ _ (fun e => hrs (step_inj r s c e)); clear hrs)
    first | subst hcd | (have e3 := byte_beq _ _ hcd; have e4 := reg_beq _ _ (fun e => hcd (step_inj_byte r c d hc hd e)); clear hcd)
    go_enter Try.func7, Try.ntmps7
    go_wp2_with fail
    refine (H0.out _).mono ?_
    rintro e w' ⟨rfl, rfl⟩
    go_wp2_with fail
    refine (H1.out _).mono ?_
    rintro e w' ⟨rfl, rfl⟩
    go_wp2_with fail
    refine (H0.out _).mono ?_
    rintro e w' ⟨rfl, rfl⟩
    go_wp2_with fail
    refine (H2.out _).mono ?_
    rintro e w' ⟨rfl, rfl⟩
    go_wp2_with fail
    refine (HW.out _).mono ?_
    rintro e w' ⟨rfl, hb⟩
    go_wp2_with fail
    go_ret
    exact ⟨rfl, hb⟩

theorem crcSums_long (A : Option Addr) (n cap : Nat) (w : World) (h5 : 20000 < n) :
    Calls Try.prog 4 #[.slice A n cap] w fun e w' => e = .returned (.bool true) ∧ Below w.heap.size w w' := by
  go_enter Try.func4, Try.ntmps4
  go_wp2_with fail
  refine (works_any _).mono ?_
  rintro e w4 ⟨rfl, hb4⟩
  go_wp2_with fail
  go_ret
  exact ⟨rfl, hb4⟩

set_option maxHeartbeats 1000000 in
theorem crcSums_short (d : Nat → Nat) (hd : ∀ i, d i < 256) (A : Option Addr) (n cap : Nat) (w : World) (hnc : n ≤ cap) (hcm : cap ≤ maxLen) (hr : Holds w w.heap.size A n d) (hA : A = none → cap = 0) (h5 : ¬ 20000 < n) :
    Calls Try.prog 4 #[.slice A n cap] w fun e w' => e = .returned (.bool true) ∧ Below w.heap.size w w' := by
  have HD := Lib.hid hd
  have HR := Lib.hid hr
  have HA := Lib.hid hA
  have HNC := Lib.hid hnc
  have hcv := convert_holds (P := Try.prog) (src := 26) (dst := 9) hd hr hA hnc Try.underlying26 Try.underlying5 Try.underlying9
  obtain ⟨cap2, w2, hn2, hc2, hcb, hb2, hr2, hz2⟩ := bytes_of_txt (P := Try.prog) w 5 9 26 d n hd (by unfold maxLen; omega) Try.underlying9 Try.underlying26 Try.underlying5
  obtain ⟨s, SS⟩ : ∃ s, Hid (s = strOf (txt d n)) := ⟨_, Lib.hid rfl⟩
  rw [← SS.out] at hcv hcb
  obtain ⟨r, R⟩ : ∃ r, Hid (r = sumR d n) := ⟨_, Lib.hid rfl⟩
  obtain ⟨g, G⟩ : ∃ g, Hid (g = w.heap.size) := ⟨_, Lib.hid rfl⟩
  rw [← G.out] at hcb hr2
  have HR2 := Lib.hid hr2
  have HN2 := Lib.hid hn2
  have HC2 := Lib.hid hc2
  have HN : Hid ((some ⟨g, 0, none⟩ : Option Addr) = none → cap2 = 0) := Lib.hid fun h => by cases h
  have HS1 := Lib.hid (fun w hr => sum_any d hd (some ⟨g, 0, none⟩) n cap2 hn2 hc2 w hr)
  have HS2 := Lib.hid (fun w hr => refSum_any d hd A n cap hnc hcm w hr)
  rw [← R.out] at HS1 HS2
  have hcv1 := convert_holds (P := Try.prog) (src := 26) (dst := 9) HD.out HR2.out HN.out HN2.out Try.underlying26 Try.underlying5 Try.underlying9
  have hcv2 := convert_holds (P := Try.prog) (src := 26) (dst := 9) HD.out (HR.out.below hb2) HA.out HNC.out Try.underlying26 Try.underlying5 Try.underlying9
  rw [← SS.out] at hcv1 hcv2
  have HR3 := Lib.hid ((HR.out.below hb2).more hb2.size)
  clear hd hr hA hnc hcm hr2 hn2 hc2 R
  go_enter Try.func4, Try.ntmps4
  go_wp2_with fail
  refine (HS1.out _ HR2.out).mono ?_
  rintro e w3 ⟨rfl, rfl⟩
  go_wp2_with fail
  refine (HS2.out _ HR3.out).mono ?_
  rintro e w3 ⟨rfl, rfl⟩
  go_wp2_with fail
  refine (works_any _).mono ?_
  rintro e w5 ⟨rfl, hb5⟩
  go_wp2_with fail
  go_ret
  exact ⟨rfl, below_step hb2 hb5 hb2.size⟩
theorem crcSums_walk (d : Nat → Nat) (A : Option Addr) (n cap : Nat) (w : World) (hd : ∀ i, d i < 256) (hnc : n ≤ cap) (hcm : cap ≤ maxLen) (hr : Holds w w.heap.size A n d) (hA : A = none → cap = 0) :
    Calls Try.prog 4 #[.slice A n cap] w fun e w' => e = .returned (.bool true) ∧ Below w.heap.size w w' := by
  by_cases h5 : 20000 < n
  · exact crcSums_long A n cap w h5
  · exact crcSums_short d hd A n cap w hnc hcm hr hA h5
end Go.Proofs.Ytdmikdpajijahaa
