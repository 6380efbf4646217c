/- disk: DiskSwaps, walked. -/
import Derived.Test.YtfgbaigpmhnoaaaDskY
import Derived.OpenShut
set_option linter.unusedVariables false
set_option linter.unusedSimpArgs false
namespace Go.Proofs.Ytfgbaigpmhnoaaa
open Go.RowKit Go.BigFrame Go.Maps
open Dsk (Fl St Ok get put drop used)

theorem Ses.free {W0 w w' : World} {B db m : Nat} {ro : Nat → Role} {S : St} {A : Option Addr} {d : Nat → Nat} (h : Ses W0 w B db ro S) (hh : Holds w' B A m d) : 0 < m → ∀ ad, A = some ad → ro ad.block = .none := fun h0 ad e => by
  obtain ⟨ad', e', hl, _⟩ := hh h0
  rw [e] at e'; cases e'
  by_cases hr : ro ad.block = .none
  · exact hr
  · have := own_ge h.disk (show Own ro ad.block from hr); omega
set_option maxRecDepth 100000 in
set_option maxHeartbeats 8000000 in
theorem swaps_w (w : World) (v0 v1 : Value) (o l : List Nat) (n k1 k2 : Int) (h0 : RB w w.heap.size v0 o) (h1 : RB w w.heap.size v1 l) (hn1 : -9223372036854775808 ≤ n) (hn2 : n ≤ 9223372036854775807) :
    Calls Try.prog 5 #[v0, v1, .int .i64 n, .int .i64 k1, .int .i64 k2] w (YesPost w) := by
  have HP := Lib.hid (fun (w' : World) (hb : Below w.heap.size w w') => show YesPost w (.returned (.bool true)) w' from ⟨rfl, hb⟩)
  generalize YesPost w = post at *
  obtain ⟨A0, c0, rfl, hc00, hc01, hA0, HH0, h0256⟩ := h0
  obtain ⟨A1, c1, rfl, hc10, hc11, hA1, HH1, h1256⟩ := h1
  have H0 := Lib.hid (And.intro hA0 (And.intro HH0 (And.intro h0256 (And.intro hc00 hc01))))
  have H1 := Lib.hid (And.intro hA1 (And.intro HH1 (And.intro h1256 (And.intro hc10 hc11))))
  have HNB := Lib.hid (And.intro hn1 hn2)
  unfold maxLen at hc01 hc11
  clear hA0 HH0 h0256 hA1 HH1 h1256 hn1 hn2
  by_cases hlo : 2000 < o.length
  · have HW := Lib.hid (works_any w)
    go_enter Try.func5, Try.ntmps5
    go_wp2_with fail
    refine HW.out.mono ?_
    rintro e w' ⟨rfl, hb⟩
    have HQ := Lib.hid (HP.out _ hb)
    clear hb HW HP
    go_wp2
    exact HQ.out
  by_cases hll : 2000 < l.length
  · have HW := Lib.hid (works_any w)
    go_enter Try.func5, Try.ntmps5
    go_wp2_with fail
    refine HW.out.mono ?_
    rintro e w' ⟨rfl, hb⟩
    have HQ := Lib.hid (HP.out _ hb)
    clear hb HW HP
    go_wp2
    exact HQ.out
  have HO := Lib.hid (show o.length ≤ 2000 by omega)
  have HL := Lib.hid (show l.length ≤ 2000 by omega)
  have HN := Lib.hid (ses_new w 10000 (by omega) (by omega))
  have hlo2 : o.length ≤ 2000 := by omega
  have hll2 : l.length ≤ 2000 := by omega
  go_enter Try.func5, Try.ntmps5
  go_wp2_with fail
  refine HN.out.mono ?_
  rintro e w1 ⟨db, ro1, rfl, hs⟩
  have hs1 : Ses w w1 w.heap.size db ro1 ⟨10000, [], 0, none, false⟩ := hs
  obtain ⟨hcode, hi1, ha1⟩ := swap_start o HO.out
  have HA := Lib.hid (ses_append hs1 nF A0 c0 o (by decide) ((H0.out.2.1.below hs1.below).more hs1.size) H0.out.1 H0.out.2.2.2.1 H0.out.2.2.2.2 H0.out.2.2.1 (by decide) (by show 0 + o.length ≤ _; omega) (hs1.free H0.out.2.1))
  rw [hcode] at HA
  generalize appendS ⟨10000, [], 0, none, false⟩ nF o = S1 at *
  have HI1 := Lib.hid (And.intro hi1 ha1)
  clear hs hs1 HN hcode hi1 ha1
  go_wp2_with fail
  refine HA.out.mono ?_
  rintro e w2 ⟨rfl, ro2, hs2⟩
  obtain ⟨hcode, hi2⟩ := swap_sync0 HI1.out.1 HI1.out.2
  have HB := Lib.hid (ses_sync hs2 nF (by decide) (by have := HI1.out.1.steps; omega))
  rw [hcode] at HB
  generalize syncS S1 nF = S2 at *
  have HI2 := Lib.hid hi2
  clear hs2 HA hcode hi2
  go_wp2_with fail
  refine HB.out.mono ?_
  rintro e w3 ⟨rfl, ro3, hs3⟩
  have HF := Lib.hid (ses_fail hs3 n HNB.out.1 HNB.out.2)
  have hi3 : SInv { S2 with armed := armOf n } [(nF, full o)] false 2 := ⟨HI2.out.quota, HI2.out.steps, HI2.out.fs, HI2.out.off⟩
  have HI3 := Lib.hid hi3
  generalize ({ S2 with armed := armOf n } : St) = S3 at *
  clear hs3 HB hi3
  go_wp2_with fail
  refine HF.out.mono ?_
  rintro e w4 ⟨rfl, ro4, hs4⟩
  have hus : used S3.fs ≤ 2000 := by rw [HI3.out.fs]; simp [Dsk.used, full]; exact HO.out
  have HAP := Lib.hid (ses_append hs4 nN A1 c1 l (by decide) ((H1.out.2.1.below hs4.below).more hs4.size) H1.out.1 H1.out.2.2.2.1 H1.out.2.2.2.2 H1.out.2.2.1 (by have := HI3.out.steps; omega) (by omega) (hs4.free H1.out.2.1))
  have hsw := swap_append HI3.out HO.out HL.out
  have HSW := Lib.hid hsw
  clear hs4 HF hsw hus
  go_wp2_with fail
  refine HAP.out.mono ?_
  rintro e w5 ⟨rfl, ro5, hs5⟩
  have HS5 := Lib.hid hs5
  clear hs5 HAP
  generalize appendS S3 nN l = S5 at *
  generalize appendC S3 nN l = cc at *
  rcases HSW.out with ⟨rfl, hi5⟩ | ⟨rfl, hi5⟩
  · have HI := Lib.hid hi5
    have HS := HS5
    clear hi5 HSW
    have hof := off_any w5 w.heap.size db ro5 S5 HS.out.disk
    rw [HI.out.off] at hof
    have HOF := Lib.hid hof
    clear hof
    go_wp2_with fail
    refine HOF.out.mono ?_
    rintro e wy ⟨rfl, hwy⟩
    obtain rfl : w5 = wy := hwy.symm
    clear hwy HOF
    have HSc := HS
    have hlast := swap_last [k1, k2] HI.out.fs HI.out.off
    clear HS
    have HON := Lib.hid (ses_on (HSc.out.alloc (.cells #[.int .i64 k1, .int .i64 k2] 3)) _ 2 [k1, k2] (keep_lit w5 ro5 [k1, k2] #[.int .i64 k1, .int .i64 k2] rfl (free_new HSc.out.disk (Nat.le_refl _))) (by simp))
    generalize onS S5 [k1, k2] = Sz at *
    go_wp2_with fail
    refine HON.out.mono ?_
    rintro e wd ⟨rfl, rod, hsd⟩
    have HSd := Lib.hid hsd
    clear hsd HON HSc
    have HRD := Lib.hid (read_any wd w.heap.size db rod Sz nF HSd.out.disk (by decide))
    go_wp2_with fail
    refine HRD.out.mono ?_
    rintro e we ⟨hbe, ve, rfl, hrow⟩
    rw [hlast.1]
    rw [hlast.2] at hrow
    have hse := HSd.out.grow hbe
    have hcv := conv_row hrow rfl H0.out.2.2.1
    have hcv2 := conv_rb (H0.out.2.1.below hse.below) H0.out.1 H0.out.2.2.2.1 H0.out.2.2.1
    generalize strOf (o.map UInt8.ofNat) = str at *
    obtain ⟨Ae, ce, rfl⟩ := own_sl hrow
    have HW := Lib.hid (works_any we)
    have HSE := Lib.hid hse
    clear hse hrow hbe hlast HRD HSd HI
    go_wp2_with fail
    refine HW.out.mono ?_
    rintro e wf ⟨rfl, hbf⟩
    have HQ := Lib.hid (HP.out _ (below_step HSE.out.below hbf HSE.out.size))
    clear hbf HW HP HSE hcv hcv2
    go_wp2
    exact HQ.out
  · have HI5 := Lib.hid hi5
    clear hi5 HSW
    have HSY := Lib.hid (ses_sync HS5.out nN (by decide) (by have := HI5.out.steps; omega))
    have hsw := swap_sync HI5.out
    have HSW := Lib.hid hsw
    clear hsw
    go_wp2_with fail
    refine HSY.out.mono ?_
    rintro e w6 ⟨rfl, ro6, hs6⟩
    have HS6 := Lib.hid hs6
    clear hs6 HSY
    generalize syncS S5 nN = S6 at *
    generalize syncC S5 nN = cc at *
    rcases HSW.out with ⟨rfl, hi6⟩ | ⟨rfl, hi6⟩
    · have HI := Lib.hid hi6
      have HS := HS6
      clear hi6 HSW
      have hof := off_any w6 w.heap.size db ro6 S6 HS.out.disk
      rw [HI.out.off] at hof
      have HOF := Lib.hid hof
      clear hof
      go_wp2_with fail
      refine HOF.out.mono ?_
      rintro e wy ⟨rfl, hwy⟩
      obtain rfl : w6 = wy := hwy.symm
      clear hwy HOF
      have HSc := HS
      have hlast := swap_last [k1, k2] HI.out.fs HI.out.off
      clear HS
      have HON := Lib.hid (ses_on (HSc.out.alloc (.cells #[.int .i64 k1, .int .i64 k2] 3)) _ 2 [k1, k2] (keep_lit w6 ro6 [k1, k2] #[.int .i64 k1, .int .i64 k2] rfl (free_new HSc.out.disk (Nat.le_refl _))) (by simp))
      generalize onS S6 [k1, k2] = Sz at *
      go_wp2_with fail
      refine HON.out.mono ?_
      rintro e wd ⟨rfl, rod, hsd⟩
      have HSd := Lib.hid hsd
      clear hsd HON HSc
      have HRD := Lib.hid (read_any wd w.heap.size db rod Sz nF HSd.out.disk (by decide))
      go_wp2_with fail
      refine HRD.out.mono ?_
      rintro e we ⟨hbe, ve, rfl, hrow⟩
      rw [hlast.1]
      rw [hlast.2] at hrow
      have hse := HSd.out.grow hbe
      have hcv := conv_row hrow rfl H0.out.2.2.1
      have hcv2 := conv_rb (H0.out.2.1.below hse.below) H0.out.1 H0.out.2.2.2.1 H0.out.2.2.1
      generalize strOf (o.map UInt8.ofNat) = str at *
      obtain ⟨Ae, ce, rfl⟩ := own_sl hrow
      have HW := Lib.hid (works_any we)
      have HSE := Lib.hid hse
      clear hse hrow hbe hlast HRD HSd HI
      go_wp2_with fail
      refine HW.out.mono ?_
      rintro e wf ⟨rfl, hbf⟩
      have HQ := Lib.hid (HP.out _ (below_step HSE.out.below hbf HSE.out.size))
      clear hbf HW HP HSE hcv hcv2
      go_wp2
      exact HQ.out
    · have HI6 := Lib.hid hi6
      clear hi6 HSW
      have HRN := Lib.hid (HS6.out.done (rename_any w6 w.heap.size db ro6 S6 nN nF HS6.out.disk (by decide) (by decide) (by have := HI6.out.steps; omega)))
      have hsw := swap_rename HI6.out
      have HSW := Lib.hid hsw
      clear hsw
      go_wp2_with fail
      refine HRN.out.mono ?_
      rintro e w7 ⟨rfl, ro7, hs7⟩
      have HS7 := Lib.hid hs7
      clear hs7 HRN
      generalize renameS S6 nN nF = S7 at *
      generalize renameC S6 nN nF = cc at *
      rcases HSW.out with ⟨rfl, hi7⟩ | ⟨rfl, hi7⟩
      · have HI := Lib.hid hi7
        have HS := HS7
        clear hi7 HSW
        have hof := off_any w7 w.heap.size db ro7 S7 HS.out.disk
        rw [HI.out.off] at hof
        have HOF := Lib.hid hof
        clear hof
        go_wp2_with fail
        refine HOF.out.mono ?_
        rintro e wy ⟨rfl, hwy⟩
        obtain rfl : w7 = wy := hwy.symm
        clear hwy HOF
        have HSc := HS
        have hlast := swap_last [k1, k2] HI.out.fs HI.out.off
        clear HS
        have HON := Lib.hid (ses_on (HSc.out.alloc (.cells #[.int .i64 k1, .int .i64 k2] 3)) _ 2 [k1, k2] (keep_lit w7 ro7 [k1, k2] #[.int .i64 k1, .int .i64 k2] rfl (free_new HSc.out.disk (Nat.le_refl _))) (by simp))
        generalize onS S7 [k1, k2] = Sz at *
        go_wp2_with fail
        refine HON.out.mono ?_
        rintro e wd ⟨rfl, rod, hsd⟩
        have HSd := Lib.hid hsd
        clear hsd HON HSc
        have HRD := Lib.hid (read_any wd w.heap.size db rod Sz nF HSd.out.disk (by decide))
        go_wp2_with fail
        refine HRD.out.mono ?_
        rintro e we ⟨hbe, ve, rfl, hrow⟩
        rw [hlast.1]
        rw [hlast.2] at hrow
        have hse := HSd.out.grow hbe
        have hcv := conv_row hrow rfl H0.out.2.2.1
        have hcv2 := conv_rb (H0.out.2.1.below hse.below) H0.out.1 H0.out.2.2.2.1 H0.out.2.2.1
        generalize strOf (o.map UInt8.ofNat) = str at *
        obtain ⟨Ae, ce, rfl⟩ := own_sl hrow
        have HW := Lib.hid (works_any we)
        have HSE := Lib.hid hse
        clear hse hrow hbe hlast HRD HSd HI
        go_wp2_with fail
        refine HW.out.mono ?_
        rintro e wf ⟨rfl, hbf⟩
        have HQ := Lib.hid (HP.out _ (below_step HSE.out.below hbf HSE.out.size))
        clear hbf HW HP HSE hcv hcv2
        go_wp2
        exact HQ.out
      · have HI := Lib.hid hi7
        have HS := HS7
        clear hi7 HSW
        have hof := off_any w7 w.heap.size db ro7 S7 HS.out.disk
        rw [HI.out.off] at hof
        have HOF := Lib.hid hof
        clear hof
        go_wp2_with fail
        refine HOF.out.mono ?_
        rintro e wy ⟨rfl, hwy⟩
        obtain rfl : w7 = wy := hwy.symm
        clear hwy HOF
        have HCR := Lib.hid (ses_crash HS.out)
        go_wp2_with fail
        refine HCR.out.mono ?_
        rintro e wc ⟨rfl, roc, hsc⟩
        have HSc := Lib.hid hsc
        have hlast := swap_last [k1, k2] (show ({ S7 with off := true, armed := none } : St).fs = (nF, full l) :: [] from HI.out.fs) rfl
        generalize ({ S7 with off := true, armed := none } : St) = Sc at *
        clear hsc HCR HS
        have HON := Lib.hid (ses_on (HSc.out.alloc (.cells #[.int .i64 k1, .int .i64 k2] 3)) _ 2 [k1, k2] (keep_lit wc roc [k1, k2] #[.int .i64 k1, .int .i64 k2] rfl (free_new HSc.out.disk (Nat.le_refl _))) (by simp))
        generalize onS Sc [k1, k2] = Sz at *
        go_wp2_with fail
        refine HON.out.mono ?_
        rintro e wd ⟨rfl, rod, hsd⟩
        have HSd := Lib.hid hsd
        clear hsd HON HSc
        have HRD := Lib.hid (read_any wd w.heap.size db rod Sz nF HSd.out.disk (by decide))
        go_wp2_with fail
        refine HRD.out.mono ?_
        rintro e we ⟨hbe, ve, rfl, hrow⟩
        rw [hlast.1]
        rw [hlast.2] at hrow
        have hse := HSd.out.grow hbe
        have hcv := conv_row hrow rfl H1.out.2.2.1
        have hcv2 := conv_rb (H1.out.2.1.below hse.below) H1.out.1 H1.out.2.2.2.1 H1.out.2.2.1
        generalize strOf (l.map UInt8.ofNat) = str at *
        obtain ⟨Ae, ce, rfl⟩ := own_sl hrow
        have HW := Lib.hid (works_any we)
        have HSE := Lib.hid hse
        clear hse hrow hbe hlast HRD HSd HI
        go_wp2_with fail
        refine HW.out.mono ?_
        rintro e wf ⟨rfl, hbf⟩
        have HQ := Lib.hid (HP.out _ (below_step HSE.out.below hbf HSE.out.size))
        clear hbf HW HP HSE hcv hcv2
        go_wp2
        exact HQ.out
theorem diskSwaps_walk (v0 : Value) (o : List Nat) (v1 : Value) (l : List Nat) (n k1 k2 : Int) (w : World) (h0 : RB w w.heap.size v0 o) (h1 : RB w w.heap.size v1 l) (hn : (Lit.int .i64 n).wf = true) (_h1 : (Lit.int .i64 k1).wf = true) (_h2 : (Lit.int .i64 k2).wf = true) :
    Calls Try.prog 5 #[v0, v1, .int .i64 n, .int .i64 k1, .int .i64 k2] w fun e w' => e = .returned (.bool true) ∧ Below w.heap.size w w' :=
  (swaps_w w v0 v1 o l n k1 k2 h0 h1 (bounds_i64 hn).1 (bounds_i64 hn).2).mono fun _ _ h => h
end Go.Proofs.Ytfgbaigpmhnoaaa
