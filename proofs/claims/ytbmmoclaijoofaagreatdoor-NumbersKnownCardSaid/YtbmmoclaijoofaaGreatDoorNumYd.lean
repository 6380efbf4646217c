/- numbers: the reference's value, walked. -/
import Derived.Test.YtbmmoclaijoofaaGreatDoorNumYc
set_option linter.unusedVariables false
set_option linter.unusedSimpArgs false
namespace Go.Proofs.YtbmmoclaijoofaaGreatDoor
open Go.RowKit Go.BigFrame
open Num (nanB sg rg rv sv tv key eqF ltF cmpI wd infR R53 P0 wholeR flN ONE TWO decS expS textR textN oddM oddE)

set_option maxRecDepth 100000 in
set_option maxHeartbeats 3000000 in
theorem value_step (s : ByteArray) (w : World) (hs : s.size ≤ 100) (ih : ∀ w1, s = ⟨#[45]⟩ ++ s.extract 1 s.size → Calls Tryz.prog 53 #[.string (s.extract 1 s.size)] w1 (ValPost (s.extract 1 s.size) w1)) :
    Calls Tryz.prog 53 #[.string s] w (ValPost s w) := by
  have HP := Lib.hid (fun (x : Nat) (w' : World) (hb : Below w.heap.size w w') (h : ValOk s x) => show ValPost s w (.returned (.float .f64 x)) w' from ⟨hb, x, rfl, h⟩)
  generalize hpost : ValPost s w = post at HP ⊢
  clear hpost
  have h1 := str_eq_is s ⟨#[110, 97, 110]⟩
  have h2 := str_eq_is s ⟨#[105, 110, 102]⟩
  rw [Lib.toList_data (⟨#[110, 97, 110]⟩ : ByteArray)] at h1
  rw [Lib.toList_data (⟨#[105, 110, 102]⟩ : ByteArray)] at h2
  by_cases hn : s = ⟨#[110, 97, 110]⟩
  · rw [decide_eq_true hn] at h1
    obtain ⟨r, hr1, hr2, hrun⟩ := run_nan (P := Tryz.prog) w .quo 25 0 0 (by simp) zz
    have HQ := Lib.hid (HP.out r w.drew ((Below.refl _ _).drew) (hn ▸ val_nan hr2 hr1))
    clear hn ih hr1 hr2 h2 HP
    go_enter Tryz.func53, Tryz.ntmps53
    go_wp2
    exact HQ.out
  · rw [decide_eq_false hn] at h1
    cases hm : Lib.hasPrefix s.data.toList [45] with
    | true =>
      obtain ⟨hpt, h0, hc0⟩ := minus_parts hm
      have HI := Lib.hid (fun w1 => ih w1 hpt)
      unfold ValPost at HI
      have HT := Lib.hid hpt
      have hemp : s.toList.isEmpty = false := by
        rw [← decide_eq_emptyBytes]
        exact decide_eq_false (fun h => by rw [h] at h0; exact absurd h0 (by decide))
      clear hpt ih hm h2 hn
      go_enter Tryz.func53, Tryz.ntmps53
      go_wp2_with fail
      refine (HI.out _).mono ?_
      rintro e w1 ⟨hb, x, rfl, hx⟩
      have hng := fun w => run_neg (P := Tryz.prog) x _ (Num.neg_bits hx.1) w
      have HQ := Lib.hid (HP.out _ w1 hb (val_minus HT.out hx))
      clear hb hx HI HT
      generalize wd (!sg x) (rg x) = y at *
      go_wp2
      exact HQ.out
    | false =>
      have HF := Lib.hid (fun (x : Nat) (w' : World) (hb : Below w.heap.size w w') (hx : x < 2 ^ 64) (hin : s ≠ ⟨#[105, 110, 102]⟩) (h : ∀ r, r < infR → textR r = s → x = r) => HP.out x w' hb (val_fin hn hin hm hx h))
      have hcv := fun (n : Nat) w => run_convert_int_float (P := Tryz.prog) w 3 25 .i64 .f64 (n : Int) (by kernel_rfl) Tryz.underlying25
      by_cases hin : s = ⟨#[105, 110, 102]⟩
      · have HQ := Lib.hid (HP.out 9218868437227405312 w (Below.refl _ _) (hin ▸ val_inf))
        rw [decide_eq_true hin] at h2
        have r1 := fun w1 => run_float_arith (P := Tryz.prog) w1 .quo 25 .f64 _ _ _ q_inf
        have hc0 : s[0]'(by rw [hin]; decide) = 105 := by subst hin; rfl
        have h0 : 0 < s.size := by rw [hin]; decide
        have hc1 : ¬ (s[0]'h0).toNat = 45 := by rw [hc0]; decide
        have hemp : s.toList.isEmpty = false := by
          rw [← decide_eq_emptyBytes]
          exact decide_eq_false (fun h => by rw [h] at h0; exact absurd h0 (by decide))
        clear hn ih hm HF HP hin hc0 hcv
        go_enter Tryz.func53, Tryz.ntmps53
        go_wp2
        exact HQ.out
      · rw [decide_eq_false hin] at h2
        have HF2 := Lib.hid (fun (x : Nat) (w' : World) (hb : Below w.heap.size w w') (hx : x < 2 ^ 64) (h : ∀ r, r < infR → textR r = s → x = r) => HF.out x w' hb hx hin h)
        have hc1 := fun h0 : 0 < s.size => minus_none hm h0
        clear hn ih hm HF HP hin
        by_cases hz : s.size = 0
        · have hsn : s = ⟨#[]⟩ := str_ext (List.eq_nil_of_length_eq_zero (by rw [len_data]; exact hz))
          have hemp : s.toList.isEmpty = true := by
            rw [← decide_eq_emptyBytes]
            exact decide_eq_true hsn
          have hz0 : ¬ 0 < s.size := by omega
          clear hsn hz hc1
          go_enter Tryz.func53, Tryz.ntmps53
          go_wp2
          go_loop [5] (fun av => ∃ k : Nat, av = .int .i64 (k : Int) ∧ k ≤ s.size ∧ Hid ((112 : UInt8) ∉ s.data.toList.take k)) (fun av => s.size - (intOf av).toNat)
          case atStart => exact ⟨0, rfl, by omega, Lib.hid (by simp)⟩
          case round =>
            obtain ⟨k, rfl, hk, HN⟩ := hrel
            by_cases hlt : k < s.size
            · exact absurd hlt (by omega)
            · have hks : s.size ≤ k := by omega
              have HKE := Lib.hid (show k = s.size by omega)
              have HNU := Lib.hid (number_any (s.extract 0 k) w (by rw [ByteArray.size_extract]; omega))
              unfold NumPost at HNU
              have hke : ((k : Int) == (s.size : Int)) = true := by simp; omega
              have HWO := Lib.hid (fun (n : Nat) (ok : Bool) (h : NumOk (s.extract 0 k) n ok) => whole_only (whole_is (HKE.out ▸ HN.out)) (by rw [HKE.out, extract_all] at h; exact h))
              clear HN HKE
              go_wp2_with fail
              refine HNU.out.mono ?_
              rintro e w' ⟨hw, n, ok, rfl, hno⟩
              obtain rfl := hw.symm
              have HQ := Lib.hid (HF2.out _ w (Below.refl _ _) (float_lt (n : Int)) (HWO.out n ok hno))
              have hcn := hcv n
              generalize Go.floatOfInt .f64 (n : Int) = x at *
              clear HNU HWO hno hcv
              cases ok
              · go_wp2
                exact HQ.out
              · go_wp2
                exact HQ.out
        · have hz0 : 0 < s.size := by omega
          have hc2 := hc1 hz0
          have hemp : s.toList.isEmpty = false := by
            rw [← decide_eq_emptyBytes]
            exact decide_eq_false (fun h => by rw [h] at hz0; exact absurd hz0 (by decide))
          clear hz hc1
          go_enter Tryz.func53, Tryz.ntmps53
          go_wp2
          go_loop [5] (fun av => ∃ k : Nat, av = .int .i64 (k : Int) ∧ k ≤ s.size ∧ Hid ((112 : UInt8) ∉ s.data.toList.take k)) (fun av => s.size - (intOf av).toNat)
          case atStart => exact ⟨0, rfl, by omega, Lib.hid (by simp)⟩
          case round =>
            obtain ⟨k, rfl, hk, HN⟩ := hrel
            by_cases hlt : k < s.size
            · by_cases hp : s[k].toNat = 112
              · have HPT := Lib.hid (place_is hlt hp HN.out)
                have hz1 : (s.extract 0 k).size ≤ 100 := by rw [ByteArray.size_extract]; omega
                have HNU := Lib.hid (number_any (s.extract 0 k) w (by omega))
                unfold NumPost at HNU
                have hke : ((k : Int) == (s.size : Int)) = false := by simp; omega
                clear HN
                go_wp2_with fail
                refine HNU.out.mono ?_
                rintro e w' ⟨hw, n, ok, rfl, hno⟩
                obtain rfl := hw.symm
                have HNO := Lib.hid hno
                clear hno HNU
                cases ok
                · have HQ := Lib.hid (HF2.out _ w (Below.refl _ _) (float_lt (n : Int)) (fun r hr hs => part_no HPT.out HNO.out r hr hs _))
                  have hcn := hcv n
                  generalize Go.floatOfInt .f64 (n : Int) = x at *
                  clear HPT HNO hcv
                  go_wp2
                  exact HQ.out
                · by_cases hf : k + 1 < s.size
                  · have hfi : (k : Int) + 1 < (s.size : Int) := by omega
                    by_cases hm : s[k + 1].toNat = 45
                    · have HNU2 := Lib.hid (number_any (s.extract (k + 1 + 1) s.size) w (by rw [ByteArray.size_extract]; omega))
                      unfold NumPost at HNU2
                      have HMF := Lib.hid (fun (e : Nat) (ok : Bool) (h : NumOk (s.extract (k + 1 + 1) s.size) e ok) => minus_fin HPT.out HNO.out hf hm h)
                      clear HPT HNO hcv
                      go_wp2_with fail
                      refine HNU2.out.mono ?_
                      rintro e w' ⟨hw, e2, ok2, rfl, hno2⟩
                      obtain rfl := hw.symm
                      have HE := Lib.hid (HMF.out e2 ok2 hno2)
                      have hel := hno2.1
                      clear HNU2 HMF hno2 hm hp
                      cases ok2
                      · have HQ := Lib.hid (HF2.out 0 w (Below.refl _ _) (by decide) (fun r hr hs => by have := (HE.out r hr hs).1; cases this))
                        clear HE
                        go_wp2
                        exact HQ.out
                      · by_cases hee : e2 ≤ 1200
                        · have HSC := Lib.hid (fun (E : Int) (h1 : -1200 ≤ E) (h2 : E ≤ 1200) => scaled_any n E w h1 h2)
                          unfold ScPost at HSC
                          go_wp2_with fail
                          refine (HSC.out _ (by omega) (by omega)).mono ?_
                          rintro e w1 ⟨hb, x, rfl, hx, hch⟩
                          have HQ := Lib.hid (HF2.out x w1 hb hx (fun r hr hs => (HE.out r hr hs).2.2 _ x (by omega) hch))
                          clear HE hb hx hch
                          go_wp2
                          exact HQ.out
                        · have HQ := Lib.hid (HF2.out 0 w (Below.refl _ _) (by decide) (fun r hr hs => by have := (HE.out r hr hs).2.1; omega))
                          clear HE
                          go_wp2
                          exact HQ.out
                    · have HNU2 := Lib.hid (number_any (s.extract (k + 1) s.size) w (by rw [ByteArray.size_extract]; omega))
                      unfold NumPost at HNU2
                      have HMF := Lib.hid (fun (e : Nat) (ok : Bool) (h : NumOk (s.extract (k + 1) s.size) e ok) => plus_fin HPT.out HNO.out (fun _ => hm) h)
                      clear HPT HNO hcv
                      go_wp2_with fail
                      refine HNU2.out.mono ?_
                      rintro e w' ⟨hw, e2, ok2, rfl, hno2⟩
                      obtain rfl := hw.symm
                      have HE := Lib.hid (HMF.out e2 ok2 hno2)
                      have hel := hno2.1
                      clear HNU2 HMF hno2 hp
                      cases ok2
                      · have HQ := Lib.hid (HF2.out 0 w (Below.refl _ _) (by decide) (fun r hr hs => by have := (HE.out r hr hs).1; cases this))
                        clear HE
                        go_wp2
                        exact HQ.out
                      · by_cases hee : e2 ≤ 1200
                        · have HSC := Lib.hid (fun (E : Int) (h1 : -1200 ≤ E) (h2 : E ≤ 1200) => scaled_any n E w h1 h2)
                          unfold ScPost at HSC
                          go_wp2_with fail
                          refine (HSC.out _ (by omega) (by omega)).mono ?_
                          rintro e w1 ⟨hb, x, rfl, hx, hch⟩
                          have HQ := Lib.hid (HF2.out x w1 hb hx (fun r hr hs => (HE.out r hr hs).2.2 _ x (by omega) hch))
                          clear HE hb hx hch
                          go_wp2
                          exact HQ.out
                        · have HQ := Lib.hid (HF2.out 0 w (Below.refl _ _) (by decide) (fun r hr hs => by have := (HE.out r hr hs).2.1; omega))
                          clear HE
                          go_wp2
                          exact HQ.out
                  · have hfi : ¬ (k : Int) + 1 < (s.size : Int) := by omega
                    have HNU2 := Lib.hid (number_any (s.extract (k + 1) s.size) w (by rw [ByteArray.size_extract]; omega))
                    unfold NumPost at HNU2
                    have HMF := Lib.hid (fun (e : Nat) (ok : Bool) (h : NumOk (s.extract (k + 1) s.size) e ok) => plus_fin HPT.out HNO.out (fun h => absurd h hf) h)
                    clear HPT HNO hcv
                    go_wp2_with fail
                    refine HNU2.out.mono ?_
                    rintro e w' ⟨hw, e2, ok2, rfl, hno2⟩
                    obtain rfl := hw.symm
                    have HE := Lib.hid (HMF.out e2 ok2 hno2)
                    have hel := hno2.1
                    clear HNU2 HMF hno2 hp
                    cases ok2
                    · have HQ := Lib.hid (HF2.out 0 w (Below.refl _ _) (by decide) (fun r hr hs => by have := (HE.out r hr hs).1; cases this))
                      clear HE
                      go_wp2
                      exact HQ.out
                    · by_cases hee : e2 ≤ 1200
                      · have HSC := Lib.hid (fun (E : Int) (h1 : -1200 ≤ E) (h2 : E ≤ 1200) => scaled_any n E w h1 h2)
                        unfold ScPost at HSC
                        go_wp2_with fail
                        refine (HSC.out _ (by omega) (by omega)).mono ?_
                        rintro e w1 ⟨hb, x, rfl, hx, hch⟩
                        have HQ := Lib.hid (HF2.out x w1 hb hx (fun r hr hs => (HE.out r hr hs).2.2 _ x (by omega) hch))
                        clear HE hb hx hch
                        go_wp2
                        exact HQ.out
                      · have HQ := Lib.hid (HF2.out 0 w (Below.refl _ _) (by decide) (fun r hr hs => by have := (HE.out r hr hs).2.1; omega))
                        clear HE
                        go_wp2
                        exact HQ.out
              · have HN2 := Lib.hid (take_more hlt hp HN.out)
                clear HN
                go_wp2
                go_round
                case rel => exact ⟨k + 1, by go_num, by omega, HN2⟩
                case measure => simp [intOf]; omega
            · have hks : s.size ≤ k := by omega
              have HKE := Lib.hid (show k = s.size by omega)
              have HNU := Lib.hid (number_any (s.extract 0 k) w (by rw [ByteArray.size_extract]; omega))
              unfold NumPost at HNU
              have hke : ((k : Int) == (s.size : Int)) = true := by simp; omega
              have HWO := Lib.hid (fun (n : Nat) (ok : Bool) (h : NumOk (s.extract 0 k) n ok) => whole_only (whole_is (HKE.out ▸ HN.out)) (by rw [HKE.out, extract_all] at h; exact h))
              clear HN HKE
              go_wp2_with fail
              refine HNU.out.mono ?_
              rintro e w' ⟨hw, n, ok, rfl, hno⟩
              obtain rfl := hw.symm
              have HQ := Lib.hid (HF2.out _ w (Below.refl _ _) (float_lt (n : Int)) (HWO.out n ok hno))
              have hcn := hcv n
              generalize Go.floatOfInt .f64 (n : Int) = x at *
              clear HNU HWO hno hcv
              cases ok
              · go_wp2
                exact HQ.out
              · go_wp2
                exact HQ.out
end Go.Proofs.YtbmmoclaijoofaaGreatDoor
