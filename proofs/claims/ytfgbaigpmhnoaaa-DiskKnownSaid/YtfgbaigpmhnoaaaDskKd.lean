/- disk: DiskKnown, walked. -/
import Derived.Test.YtfgbaigpmhnoaaaDskKe
set_option linter.unusedVariables false
set_option linter.unusedSimpArgs false
namespace Go.Proofs.Ytfgbaigpmhnoaaa
open Go.RowKit Go.BigFrame Go.Maps
open Dsk (Fl St Ok get put drop used)

set_option maxRecDepth 100000 in
set_option maxHeartbeats 16000000 in
set_option maxRecDepth 100000 in
theorem known_w (w : World) : Calls Try.prog 6 #[] w (YesPost w) := by
  have HP := Lib.hid (fun (w' : World) (hb : Below w.heap.size w w') => show YesPost w (.returned (.bool true)) w' from ⟨rfl, hb⟩)
  generalize YesPost w = post at *
  have HCO := Lib.hid kS_codes
  have HLO := Lib.hid kS_low
  have HN := Lib.hid (ses_new w 100 (by omega) (by omega))
  go_enter Try.func6, Try.ntmps6
  go_wp2_with fail
  refine HN.out.mono ?_
  rintro e w1 ⟨db, ro, rfl, hs⟩
  have hs1 : Ses w w1 w.heap.size db ro exS0 := hs
  have HA := Lib.hid (ses_append (hs1.alloc (.cells #[.int .u8 1] 5)) nA _ 1 [1] (by decide) (lit_holds w1 [1] #[.int .u8 1] rfl) (fun e => by cases e) (by simp) (by decide) (by decide) HLO.out.1.1 HLO.out.1.2 (fun _ ad e => by cases e; exact free_new hs1.disk (Nat.le_refl _)))
  clear hs hs1 HN
  rw [HCO.out.1] at HA
  go_wp2_with fail
  refine HA.out.mono ?_
  rintro e w2 ⟨rfl, ro2, hs2⟩
  have HB := Lib.hid (ses_crash (S := kS1) hs2)
  clear hs2 HA
  go_wp2_with fail
  refine HB.out.mono ?_
  rintro e w3 ⟨rfl, ro3, hs3⟩
  have HC := Lib.hid (ses_sync (S := kS2) hs3 nA (by decide) HLO.out.2.1)
  clear hs3 HB
  rw [HCO.out.2.1] at HC
  go_wp2_with fail
  refine HC.out.mono ?_
  rintro e w4 ⟨rfl, ro4, hs4⟩
  have HD := Lib.hid (ses_on (S := kS3) hs4 none 0 [] (fun j hj => by simp at hj) (by decide))
  clear hs4 HC
  go_wp2_with fail
  refine HD.out.mono ?_
  rintro e w5 ⟨rfl, ro5, hs5⟩
  have hs5' : Ses w w5 w.heap.size db ro5 kS4 := hs5
  have HS5 := Lib.hid hs5'
  have HE := Lib.hid (names_any w5 w.heap.size db ro5 kS4 hs5'.disk)
  unfold NamesPost at HE
  rw [HCO.out.2.2.1] at HE
  clear hs5 hs5' HD
  go_wp2_with fail
  refine HE.out.mono ?_
  rintro e w6 ⟨hb6, v6, rfl, ho6⟩
  obtain ⟨A6, c6, rfl⟩ := own_sl ho6
  have hs6 := HS5.out.grow hb6
  have HF := Lib.hid (ses_append (hs6.alloc (.cells #[.int .u8 1, .int .u8 2] 5)) nA _ 2 [1, 2] (by decide) (lit_holds w6 [1, 2] #[.int .u8 1, .int .u8 2] rfl) (fun e => by cases e) (by simp) (by decide) (by decide) HLO.out.2.2.1.1 HLO.out.2.2.1.2 (fun _ ad e => by cases e; exact free_new hs6.disk (Nat.le_refl _)))
  clear hs6 hb6 ho6 HE HS5
  go_wp2_with fail
  refine HF.out.mono ?_
  rintro e w7 ⟨rfl, ro7, hs7⟩
  have HG := Lib.hid (ses_fail (S := kS5) hs7 0 (by decide) (by decide))
  clear hs7 HF
  go_wp2_with fail
  refine HG.out.mono ?_
  rintro e w8 ⟨rfl, ro8, hs8⟩
  have hs8' : Ses w w8 w.heap.size db ro8 kS6 := hs8
  have HH := Lib.hid (ses_append (hs8'.alloc (.cells #[.int .u8 3] 5)) nA _ 1 [3] (by decide) (lit_holds w8 [3] #[.int .u8 3] rfl) (fun e => by cases e) (by simp) (by decide) (by decide) HLO.out.2.2.2.1.1 HLO.out.2.2.2.1.2 (fun _ ad e => by cases e; exact free_new hs8'.disk (Nat.le_refl _)))
  rw [HCO.out.2.2.2.1] at HH
  clear hs8 hs8' HG
  go_wp2_with fail
  refine HH.out.mono ?_
  rintro e w9 ⟨rfl, ro9, hs9⟩
  have hs9' : Ses w w9 w.heap.size db ro9 kS7 := hs9
  have HI := Lib.hid (ses_on (hs9'.alloc (.cells #[.int .i64 6] 3)) _ 1 [6] (keep_lit w9 ro9 [6] #[.int .i64 6] rfl (free_new hs9'.disk (Nat.le_refl _))) (by decide))
  clear hs9 hs9' HH
  go_wp2_with fail
  refine HI.out.mono ?_
  rintro e w10 ⟨rfl, ro10, hs10⟩
  have hs10' : Ses w w10 w.heap.size db ro10 kS8 := hs10
  have HJ := Lib.hid (read_any w10 w.heap.size db ro10 kS8 nA hs10'.disk (by decide))
  have HS10 := Lib.hid hs10'
  unfold ReadPost at HJ
  rw [HCO.out.2.2.2.2.1, HCO.out.2.2.2.2.2.1] at HJ
  clear hs10 hs10' HI
  go_wp2_with fail
  refine HJ.out.mono ?_
  rintro e w11 ⟨hb11, v11, rfl, hrow⟩
  have hrow2 : w11.ownsRow w10.heap.size 5 1 v11 2 (bvs [1, 2]) := hrow
  have hcv : (convert 29 9 v11).run Try.prog w11 = .ok (.string ⟨#[1, 2]⟩) w11 := conv_row hrow2 rfl (by decide)
  obtain ⟨A11, c11, rfl⟩ := own_sl hrow2
  have hs11 := HS10.out.grow hb11
  have HK := Lib.hid (ses_append (hs11.alloc (.cells #[.int .u8 2] 5)) nB _ 1 [2] (by decide) (lit_holds w11 [2] #[.int .u8 2] rfl) (fun e => by cases e) (by simp) (by decide) (by decide) HLO.out.2.2.2.2.1.1 HLO.out.2.2.2.2.1.2 (fun _ ad e => by cases e; exact free_new hs11.disk (Nat.le_refl _)))
  clear hrow hrow2 hb11 hs11 HJ HS10
  go_wp2_with fail
  refine HK.out.mono ?_
  rintro e w12 ⟨rfl, ro12, hs12⟩
  have hs12' : Ses w w12 w.heap.size db ro12 kS9 := hs12
  have HL := Lib.hid (hs12'.done (rename_any w12 w.heap.size db ro12 kS9 nA nB hs12'.disk (by decide) (by decide) HLO.out.2.2.2.2.2))
  rw [HCO.out.2.2.2.2.2.2.1] at HL
  clear hs12 hs12' HK hcv
  go_wp2_with fail
  refine HL.out.mono ?_
  rintro e w13 ⟨rfl, ro13, hs13⟩
  have hs13' : Ses w w13 w.heap.size db ro13 kS10 := hs13
  have HM := Lib.hid (read_any w13 w.heap.size db ro13 kS10 nB hs13'.disk (by decide))
  have HS13 := Lib.hid hs13'
  unfold ReadPost at HM
  rw [HCO.out.2.2.2.2.2.2.2.1, HCO.out.2.2.2.2.2.2.2.2.1] at HM
  clear hs13 hs13' HL
  go_wp2_with fail
  refine HM.out.mono ?_
  rintro e w14 ⟨hb14, v14, rfl, hrow⟩
  have hrow2 : w14.ownsRow w13.heap.size 5 1 v14 2 (bvs [1, 2]) := hrow
  have hcv : (convert 29 9 v14).run Try.prog w14 = .ok (.string ⟨#[1, 2]⟩) w14 := conv_row hrow2 rfl (by decide)
  obtain ⟨A14, c14, rfl⟩ := own_sl hrow2
  have hs14 := HS13.out.grow hb14
  have HS14 := Lib.hid hs14
  have HNm := Lib.hid (names_any w14 w.heap.size db ro13 kS10 hs14.disk)
  unfold NamesPost at HNm
  rw [HCO.out.2.2.2.2.2.2.2.2.2.1] at HNm
  clear hrow hrow2 hb14 hs14 HM HS13
  go_wp2_with fail
  refine HNm.out.mono ?_
  rintro e w15 ⟨hb15, v15, rfl, ho15⟩
  obtain ⟨A15, c15, rfl⟩ := own_sl ho15
  have hs15 := HS14.out.grow hb15
  have hu := used_any w15 w.heap.size db ro13 kS10 hs15.disk
  rw [HCO.out.2.2.2.2.2.2.2.2.2.2] at hu
  have HU := Lib.hid hu
  have HB15 := Lib.hid (And.intro hs15.below hs15.size)
  clear hs15 hb15 ho15 hu HNm HS14 hcv
  go_wp2_with fail
  refine HU.out.mono ?_
  rintro e w16 ⟨rfl, rfl⟩
  clear HU HCO HLO
  have HK0 := Lib.hid (show KeepW w w.heap.size w16 from ⟨HB15.out.1, HB15.out.2⟩)
  clear HB15
  go_wp2_with fail
  refine (nil_fail _ _).mono ?_
  rintro e w17 ⟨rfl, hb⟩
  have HK1 := Lib.hid (HK0.out.step hb)
  clear hb HK0
  go_wp2_with fail
  refine (nil_crash _).mono ?_
  rintro e w18 ⟨rfl, hb⟩
  have HK2 := Lib.hid (HK1.out.step hb)
  clear hb HK1
  go_wp2_with fail
  refine (nil_on _ _).mono ?_
  rintro e w19 ⟨rfl, hb⟩
  have HK3 := Lib.hid (HK2.out.step hb)
  clear hb HK2
  go_wp2_with fail
  refine (nil_read _ _).mono ?_
  rintro e w20 ⟨rfl, hb⟩
  have HK4 := Lib.hid (HK3.out.step hb)
  clear hb HK3
  go_wp2_with fail
  refine (nil_off _).mono ?_
  rintro e w21 ⟨rfl, hb⟩
  have HK5 := Lib.hid (HK4.out.step hb)
  clear hb HK4
  go_wp2_with fail
  refine (nil_append _ _ _ _ _).mono ?_
  rintro e w22 ⟨rfl, hb⟩
  have HK6 := Lib.hid (HK5.out.step hb)
  clear hb HK5
  go_wp2_with fail
  refine (nil_sync _ _).mono ?_
  rintro e w23 ⟨rfl, hb⟩
  have HK7 := Lib.hid (HK6.out.step hb)
  clear hb HK6
  go_wp2_with fail
  refine (nil_cut _ _ _).mono ?_
  rintro e w24 ⟨rfl, hb⟩
  have HK8 := Lib.hid (HK7.out.step hb)
  clear hb HK7
  go_wp2_with fail
  refine (nil_rename _ _ _).mono ?_
  rintro e w25 ⟨rfl, hb⟩
  have HK9 := Lib.hid (HK8.out.step hb)
  clear hb HK8
  go_wp2_with fail
  refine (nil_remove _ _).mono ?_
  rintro e w26 ⟨rfl, hb⟩
  have HK10 := Lib.hid (HK9.out.step hb)
  clear hb HK9
  go_wp2_with fail
  refine (nil_names _).mono ?_
  rintro e w27 ⟨rfl, hb⟩
  have HK11 := Lib.hid (HK10.out.step hb)
  clear hb HK10
  go_wp2_with fail
  refine (nil_used _).mono ?_
  rintro e w28 ⟨rfl, hb⟩
  have HK12 := Lib.hid (HK11.out.step hb)
  clear hb HK11
  go_wp2_with fail
  refine (nil_steps _).mono ?_
  rintro e w29 ⟨rfl, hb⟩
  have HK13 := Lib.hid (HK12.out.step hb)
  clear hb HK12
  go_wp2_with fail
  refine (nil_copy _).mono ?_
  rintro e w30 ⟨rfl, hb⟩
  have HK14 := Lib.hid (HK13.out.step hb)
  clear hb HK13
  go_wp2_with fail
  go_loop [17] (fun sv => ∃ s : ByteArray, sv = .string s ∧ s.size ≤ 129) (fun sv => 129 - (match sv with | .string s => s.size | _ => 0))
  case atStart => exact ⟨⟨#[]⟩, rfl, by decide⟩
  case round =>
    obtain ⟨s, rfl, hs⟩ := hrel
    by_cases hlt : s.size < 129
    · have hsz : (s ++ ⟨#[110]⟩).size = s.size + 1 := by rw [ByteArray.size_append]; rfl
      go_wp2
      go_round
      case rel => exact ⟨_, rfl, by omega⟩
      case measure => show 129 - (s ++ ⟨#[110]⟩).size < 129 - s.size; rw [hsz]; omega
    · have hge : 129 ≤ s.size := by omega
      have hmk := fun (n : Nat) (h1 : 1 * n ≤ 281474976710656) (h2 : n ≤ 9223372036854775807) (w : World) => run_make_row' (P := Try.prog) 29 5 (.int .u8 0) 1 Try.underlying29 (by kernel_rfl) rfl .i64 .i64 n h1 h2 w
      have hmk2 := hmk 8388609 (by decide) (by decide)
      clear hmk
      obtain ⟨BIG, hBIG⟩ : ∃ B : Array Value, B = madeCells #[.int .u8 0] 8388609 := ⟨_, rfl⟩
      rw [← hBIG] at hmk2
      have HBIG := Lib.hid hBIG
      clear hBIG
      have hmk3 : ∀ w : World, (Instr.makeSlice 29 (.int .i64 8388609) (.int .i64 8388609)).run Try.prog w = .ok (.slice (some ⟨w.heap.size, 0, none⟩) 8388609 8388609) (w.alloc (.cells BIG 5)) := hmk2
      clear hmk2
      have HN2 := Lib.hid (fun w' : World => ses_new w' 33554432 (by decide) (by decide))
      go_wp2_with fail
      refine (HN2.out _).mono ?_
      rintro e w31 ⟨db2, rp, rfl, hs1⟩
      obtain ⟨W0, hW0⟩ : ∃ W0, W0 = w30.alloc (.cells BIG 5) := ⟨_, rfl⟩
      have hs1' : Ses W0 w31 W0.heap.size db2 rp ⟨33554432, [], 0, none, false⟩ := by rw [hW0]; exact hs1
      have hg0 : W0.heap[w30.heap.size]? = some (.cells (madeCells #[.int .u8 0] 8388609) 5 (0, 0)) := by rw [hW0, HBIG.out]; exact heap_alloc_new w30 _
      have hgl := block_lt hg0
      have hg31 := (hs1'.below.block _ hgl).trans hg0
      have hrn : rp w30.heap.size = .none := by
        by_cases hr : rp w30.heap.size = .none
        · exact hr
        · have := own_ge hs1'.disk (show Own rp w30.heap.size from hr); omega
      have HKA := Lib.hid (show KeepW w w.heap.size W0 from by rw [hW0]; exact HK14.out.alloc _)
      obtain ⟨Z, hZ⟩ : ∃ Z, Z = zer 8388608 := ⟨_, rfl⟩
      have hZl : Z.length = 8388608 := by rw [hZ]; exact zer_len _
      have hy := big_yes 33554432 Z hZl (by decide)
      have HL1 := Lib.hid (big_limit 33554432 (zer 8388609) (by rw [zer_len]; decide))
      have HMO := Lib.hid (big_more 33554432 Z hZl)
      have HNO := Lib.hid (big_none 33554432 Z hZl (by decide))
      have HLO := Lib.hid low_codes
      have HA1 := Lib.hid (append_big hs1' w30.heap.size 8388609 8388609 0 8388609 5 hg31 (by decide) (by decide) (by decide) (by decide) (by show (0 : Nat) + _ ≤ _; decide) hrn 0 3 ⟨33554432, [], 0, none, false⟩ HL1.out.1.symm HL1.out.2.symm)
      have H31 := Lib.hid (And.intro hs1' (And.intro hg31 (And.intro hrn hZ)))
      have HY := Lib.hid hy
      have HZL := Lib.hid hZl
      clear hs1 hs1' hg0 hg31 hrn hW0 hmk3 HBIG HN2 HK14 hZ hy hZl
      go_wp2_with fail
      refine HA1.out.mono ?_
      rintro e w32 ⟨rfl, rp1, hl1⟩
      have hs2 := H31.out.1.left hl1
      have hg32 := hl1.ch.heap H31.out.2.1 (own_none H31.out.2.2.1)
      have hrn1 := sub_none hl1.sub (block_lt H31.out.2.1) H31.out.2.2.1
      have HA2 := Lib.hid (append_big hs2 w30.heap.size 8388609 8388608 1 8388608 5 hg32 (by decide) (by decide) (by decide) (by decide) (by show (0 : Nat) + _ ≤ _; decide) hrn1 0 0 ⟨33554432, [(nA, ⟨Z, 0, false⟩)], 1, none, false⟩ (by rw [← H31.out.2.2.2]; exact HY.out.1.symm) (by rw [← H31.out.2.2.2]; exact HY.out.2.symm))
      have HS2 := Lib.hid hs2
      clear hl1 hs2 hg32 hrn1 HA1
      go_wp2_with fail
      refine HA2.out.mono ?_
      rintro e w33 ⟨rfl, rp2, hl2⟩
      have hs3 := HS2.out.left hl2
      have HA3 := Lib.hid (ses_append (hs3.alloc (.cells #[.int .u8 1] 5)) nA _ 1 [1] (by decide) (lit_holds w33 [1] #[.int .u8 1] rfl) (fun e => by cases e) (by simp) (by decide) (by decide) (by show (1 : Nat) < _; decide) (by show (Z.length + 0) + 1 ≤ _; rw [HZL.out]; decide) (fun _ ad e => by cases e; exact free_new hs3.disk (Nat.le_refl _)))
      rw [HMO.out.1, HMO.out.2] at HA3
      clear hl2 hs3 HA2 HS2 H31
      go_wp2_with fail
      refine HA3.out.mono ?_
      rintro e w34 ⟨rfl, rp3, hs4⟩
      have HA4 := Lib.hid (ses_append hs4 nA none 0 [] (by decide) (fun h => absurd h (by simp)) (fun _ => rfl) (by simp) (by decide) (by decide) (by show (1 : Nat) < _; decide) (by show (Z.length + 0) + 0 ≤ _; rw [HZL.out]; decide) (fun h => absurd h (by simp)))
      rw [HNO.out] at HA4
      clear hs4 HA3
      go_wp2_with fail
      refine HA4.out.mono ?_
      rintro e w35 ⟨rfl, rp4, hs5⟩
      have HKB := Lib.hid (HKA.out.step hs5.below)
      have HN3 := Lib.hid (fun w' : World => ses_new w' (-5) (by decide) (by decide))
      clear hs5 HA4 HKA HMO HNO HY HZL HL1
      go_wp2_with fail
      refine (HN3.out _).mono ?_
      rintro e w36 ⟨db3, rq, rfl, hs6⟩
      have hs6' : Ses w35 w36 w35.heap.size db3 rq ⟨0, [], 0, none, false⟩ := hs6
      have HA5 := Lib.hid (ses_append (hs6'.alloc (.cells #[.int .u8 1] 5)) nA _ 1 [1] (by decide) (lit_holds w36 [1] #[.int .u8 1] rfl) (fun e => by cases e) (by simp) (by decide) (by decide) (by show (0 : Nat) < _; decide) (by show (0 : Nat) + 1 ≤ _; decide) (fun _ ad e => by cases e; exact free_new hs6'.disk (Nat.le_refl _)))
      rw [HLO.out.1] at HA5
      clear hs6 hs6'
      go_wp2_with fail
      refine HA5.out.mono ?_
      rintro e w37 ⟨rfl, rq1, hs7⟩
      have HKC := Lib.hid (HKB.out.step hs7.below)
      clear hs7 HA5 HKB
      go_wp2_with fail
      refine (HN3.out _).mono ?_
      rintro e w38 ⟨db4, rt, rfl, hs8⟩
      have hs8' : Ses w37 w38 w37.heap.size db4 rt ⟨0, [], 0, none, false⟩ := hs8
      have HA6 := Lib.hid (ses_append hs8' nA none 0 [] (by decide) (fun h => absurd h (by simp)) (fun _ => rfl) (by simp) (by decide) (by decide) (by show (0 : Nat) < _; decide) (by show (0 : Nat) + 0 ≤ _; decide) (fun h => absurd h (by simp)))
      rw [HLO.out.2] at HA6
      clear hs8 hs8' HN3
      go_wp2_with fail
      refine HA6.out.mono ?_
      rintro e w39 ⟨rfl, rt1, hs9⟩
      have HKD := Lib.hid (HKC.out.step hs9.below)
      clear hs9 HA6 HKC HLO
      go_wp2_with fail
      have hsl := slice_tail s (by omega)
      refine Inv.wp_region_inv (by kernel_rfl) (fun w' => KeepW w w.heap.size w') (fun i v w' => Rk s (kinds29.getD i 9) v w') (Inv.formB_spec (by kernel_rfl)) HKD.out.drew (Inv.Each.steps ?_ rfl) (fun f w40 hC hR => ?_)
      · clear HKD
        refine ⟨?_, ?_, ?_, ?_, ?_, ?_, ?_, ?_, ?_, ?_, ?_, ?_, ?_, ?_, ?_, ?_, ?_, ?_, ?_, ?_, ?_, ?_, ?_, ?_, ?_, ?_, ?_, ?_, ?_, ?_, ?_, ?_, ?_, ?_, ?_, ?_, ?_, ?_, ?_, ?_, ?_, ?_, ?_, trivial⟩
        · refine ⟨fun a w' hC hdep hfix => ⟨.string s, w', ?_, hC, rfl, fun _ _ h => h⟩⟩
          have e1 : a.eval (.tmp 17) = .string s := (hfix 17 (by decide)).trans rfl
          unfold execOp
          dsimp only
          rw [e1]
          rfl
        · refine ⟨fun a w' hC hdep hfix => ?_⟩
          have e1 : a.eval (.tmp 199) = .string s := hdep 0 _ 199 rfl rfl (by kernel_rfl)
          refine ⟨.agg #[.int .u8 0, .string s, .string ⟨#[]⟩, .slice none 0 0, .int .i64 0, .slice none 0 0], w', ?_, hC, RowC.mk (k := 0) (by decide) (⟨s, rfl, by unfold maxLen; omega⟩) (TxtV.lit _ (by decide)) (RowB.nil _) (by decide) (RowI.nil _), fun _ _ h => h⟩
          unfold execOp
          simp only [List.map_toArray, List.map_cons, List.map_nil, e1]
          kernel_rfl
        · refine ⟨fun a w' hC hdep hfix => ?_⟩
          refine ⟨.agg #[.int .u8 0, .string ⟨#[]⟩, .string ⟨#[]⟩, .slice none 0 0, .int .i64 0, .slice none 0 0], w', ?_, hC, RowC.mk (k := 0) (by decide) (TxtV.lit _ (by decide)) (TxtV.lit _ (by decide)) (RowB.nil _) (by decide) (RowI.nil _), fun _ _ h => h⟩
          kernel_rfl
        · refine ⟨fun a w' hC hdep hfix => ⟨.string s, w', ?_, hC, rfl, fun _ _ h => h⟩⟩
          have e1 : a.eval (.tmp 17) = .string s := (hfix 17 (by decide)).trans rfl
          unfold execOp
          dsimp only
          rw [e1]
          rfl
        · refine ⟨fun a w' hC hdep hfix => ⟨.string (s.extract 1 s.size), w', ?_, hC, ⟨_, rfl, by simp [ByteArray.size_extract]; unfold maxLen; omega⟩, fun _ _ h => h⟩⟩
          have e1 : a.eval (.tmp 202) = .string s := hdep 3 _ 202 rfl rfl (by kernel_rfl)
          unfold execOp
          dsimp only
          rw [e1]
          exact hsl w'
        · refine ⟨fun a w' hC hdep hfix => ⟨.slice (some ⟨w'.heap.size, 0, none⟩) 1 1, w'.alloc (.cells #[.int .u8 1] 5), ?_, hC.alloc _, ⟨[1], rb_blk (l := [1]) (heap_alloc_new w' _) rfl (by decide) (by decide)⟩, fun _ _ h => Rk_below h ((Below.refl _ _).alloc (Nat.le_refl _) _)⟩⟩
          kernel_rfl
        · refine ⟨fun a w' hC hdep hfix => ?_⟩
          obtain ⟨s1, e1, z1⟩ : TxtV (a.eval (.tmp 203)) := hdep 4 _ 203 rfl rfl (by kernel_rfl)
          obtain ⟨l3, hl3⟩ : RowB (a.eval (.tmp 204)) w' := hdep 5 _ 204 rfl rfl (by kernel_rfl)
          obtain ⟨A3, c3, e3, _⟩ := id hl3
          refine ⟨.agg #[.int .u8 0, .string s1, .string ⟨#[]⟩, .slice A3 l3.length c3, .int .i64 0, .slice none 0 0], w', ?_, hC, RowC.mk (k := 0) (by decide) (⟨s1, rfl, z1⟩) (TxtV.lit _ (by decide)) (⟨l3, e3 ▸ hl3⟩) (by decide) (RowI.nil _), fun _ _ h => h⟩
          unfold execOp
          simp only [List.map_toArray, List.map_cons, List.map_nil, e1, e3]
          kernel_rfl
        · refine ⟨fun a w' hC hdep hfix => ⟨.string s, w', ?_, hC, rfl, fun _ _ h => h⟩⟩
          have e1 : a.eval (.tmp 17) = .string s := (hfix 17 (by decide)).trans rfl
          unfold execOp
          dsimp only
          rw [e1]
          rfl
        · refine ⟨fun a w' hC hdep hfix => ⟨.string (s.extract 1 s.size), w', ?_, hC, ⟨_, rfl, by simp [ByteArray.size_extract]; unfold maxLen; omega⟩, fun _ _ h => h⟩⟩
          have e1 : a.eval (.tmp 206) = .string s := hdep 7 _ 206 rfl rfl (by kernel_rfl)
          unfold execOp
          dsimp only
          rw [e1]
          exact hsl w'
        · refine ⟨fun a w' hC hdep hfix => ⟨.string s, w', ?_, hC, rfl, fun _ _ h => h⟩⟩
          have e1 : a.eval (.tmp 17) = .string s := (hfix 17 (by decide)).trans rfl
          unfold execOp
          dsimp only
          rw [e1]
          rfl
        · refine ⟨fun a w' hC hdep hfix => ?_⟩
          obtain ⟨s1, e1, z1⟩ : TxtV (a.eval (.tmp 207)) := hdep 8 _ 207 rfl rfl (by kernel_rfl)
          have e2 : a.eval (.tmp 208) = .string s := hdep 9 _ 208 rfl rfl (by kernel_rfl)
          refine ⟨.agg #[.int .u8 5, .string s1, .string s, .slice none 0 0, .int .i64 0, .slice none 0 0], w', ?_, hC, RowC.mk (k := 5) (by decide) (⟨s1, rfl, z1⟩) (⟨s, rfl, by unfold maxLen; omega⟩) (RowB.nil _) (by decide) (RowI.nil _), fun _ _ h => h⟩
          unfold execOp
          simp only [List.map_toArray, List.map_cons, List.map_nil, e1, e2]
          kernel_rfl
        · refine ⟨fun a w' hC hdep hfix => ?_⟩
          refine ⟨.agg #[.int .u8 5, .string ⟨#[122]⟩, .string ⟨#[]⟩, .slice none 0 0, .int .i64 0, .slice none 0 0], w', ?_, hC, RowC.mk (k := 5) (by decide) (TxtV.lit _ (by decide)) (TxtV.lit _ (by decide)) (RowB.nil _) (by decide) (RowI.nil _), fun _ _ h => h⟩
          kernel_rfl
        · refine ⟨fun a w' hC hdep hfix => ⟨.string s, w', ?_, hC, rfl, fun _ _ h => h⟩⟩
          have e1 : a.eval (.tmp 17) = .string s := (hfix 17 (by decide)).trans rfl
          unfold execOp
          dsimp only
          rw [e1]
          rfl
        · refine ⟨fun a w' hC hdep hfix => ⟨.string (s.extract 1 s.size), w', ?_, hC, ⟨_, rfl, by simp [ByteArray.size_extract]; unfold maxLen; omega⟩, fun _ _ h => h⟩⟩
          have e1 : a.eval (.tmp 211) = .string s := hdep 12 _ 211 rfl rfl (by kernel_rfl)
          unfold execOp
          dsimp only
          rw [e1]
          exact hsl w'
        · refine ⟨fun a w' hC hdep hfix => ?_⟩
          obtain ⟨s1, e1, z1⟩ : TxtV (a.eval (.tmp 212)) := hdep 13 _ 212 rfl rfl (by kernel_rfl)
          refine ⟨.agg #[.int .u8 4, .string s1, .string ⟨#[]⟩, .slice none 0 0, .int .i64 2, .slice none 0 0], w', ?_, hC, RowC.mk (k := 4) (by decide) (⟨s1, rfl, z1⟩) (TxtV.lit _ (by decide)) (RowB.nil _) (by decide) (RowI.nil _), fun _ _ h => h⟩
          unfold execOp
          simp only [List.map_toArray, List.map_cons, List.map_nil, e1]
          kernel_rfl
        · refine ⟨fun a w' hC hdep hfix => ⟨.string s, w', ?_, hC, rfl, fun _ _ h => h⟩⟩
          have e1 : a.eval (.tmp 17) = .string s := (hfix 17 (by decide)).trans rfl
          unfold execOp
          dsimp only
          rw [e1]
          rfl
        · refine ⟨fun a w' hC hdep hfix => ⟨.string (s.extract 1 s.size), w', ?_, hC, ⟨_, rfl, by simp [ByteArray.size_extract]; unfold maxLen; omega⟩, fun _ _ h => h⟩⟩
          have e1 : a.eval (.tmp 214) = .string s := hdep 15 _ 214 rfl rfl (by kernel_rfl)
          unfold execOp
          dsimp only
          rw [e1]
          exact hsl w'
        · refine ⟨fun a w' hC hdep hfix => ?_⟩
          obtain ⟨s1, e1, z1⟩ : TxtV (a.eval (.tmp 215)) := hdep 16 _ 215 rfl rfl (by kernel_rfl)
          refine ⟨.agg #[.int .u8 4, .string s1, .string ⟨#[]⟩, .slice none 0 0, .int .i64 (-1), .slice none 0 0], w', ?_, hC, RowC.mk (k := 4) (by decide) (⟨s1, rfl, z1⟩) (TxtV.lit _ (by decide)) (RowB.nil _) (by decide) (RowI.nil _), fun _ _ h => h⟩
          unfold execOp
          simp only [List.map_toArray, List.map_cons, List.map_nil, e1]
          kernel_rfl
        · refine ⟨fun a w' hC hdep hfix => ⟨.slice (some ⟨w'.heap.size, 0, none⟩) 3 3, w'.alloc (.cells #[.int .u8 1, .int .u8 2, .int .u8 3] 5), ?_, hC.alloc _, ⟨[1, 2, 3], rb_blk (l := [1, 2, 3]) (heap_alloc_new w' _) rfl (by decide) (by decide)⟩, fun _ _ h => Rk_below h ((Below.refl _ _).alloc (Nat.le_refl _) _)⟩⟩
          kernel_rfl
        · refine ⟨fun a w' hC hdep hfix => ?_⟩
          obtain ⟨l3, hl3⟩ : RowB (a.eval (.tmp 217)) w' := hdep 18 _ 217 rfl rfl (by kernel_rfl)
          obtain ⟨A3, c3, e3, _⟩ := id hl3
          refine ⟨.agg #[.int .u8 0, .string ⟨#[97]⟩, .string ⟨#[]⟩, .slice A3 l3.length c3, .int .i64 0, .slice none 0 0], w', ?_, hC, RowC.mk (k := 0) (by decide) (TxtV.lit _ (by decide)) (TxtV.lit _ (by decide)) (⟨l3, e3 ▸ hl3⟩) (by decide) (RowI.nil _), fun _ _ h => h⟩
          unfold execOp
          simp only [List.map_toArray, List.map_cons, List.map_nil, e3]
          kernel_rfl
        · refine ⟨fun a w' hC hdep hfix => ?_⟩
          refine ⟨.agg #[.int .u8 8, .string ⟨#[]⟩, .string ⟨#[]⟩, .slice none 0 0, .int .i64 1, .slice none 0 0], w', ?_, hC, RowC.mk (k := 8) (by decide) (TxtV.lit _ (by decide)) (TxtV.lit _ (by decide)) (RowB.nil _) (by decide) (RowI.nil _), fun _ _ h => h⟩
          kernel_rfl
        · refine ⟨fun a w' hC hdep hfix => ?_⟩
          refine ⟨.agg #[.int .u8 3, .string ⟨#[97]⟩, .string ⟨#[]⟩, .slice none 0 0, .int .i64 0, .slice none 0 0], w', ?_, hC, RowC.mk (k := 3) (by decide) (TxtV.lit _ (by decide)) (TxtV.lit _ (by decide)) (RowB.nil _) (by decide) (RowI.nil _), fun _ _ h => h⟩
          kernel_rfl
        · refine ⟨fun a w' hC hdep hfix => ?_⟩
          refine ⟨.agg #[.int .u8 6, .string ⟨#[97]⟩, .string ⟨#[]⟩, .slice none 0 0, .int .i64 0, .slice none 0 0], w', ?_, hC, RowC.mk (k := 6) (by decide) (TxtV.lit _ (by decide)) (TxtV.lit _ (by decide)) (RowB.nil _) (by decide) (RowI.nil _), fun _ _ h => h⟩
          kernel_rfl
        · refine ⟨fun a w' hC hdep hfix => ?_⟩
          refine ⟨.agg #[.int .u8 7, .string ⟨#[97]⟩, .string ⟨#[]⟩, .slice none 0 0, .int .i64 0, .slice none 0 0], w', ?_, hC, RowC.mk (k := 7) (by decide) (TxtV.lit _ (by decide)) (TxtV.lit _ (by decide)) (RowB.nil _) (by decide) (RowI.nil _), fun _ _ h => h⟩
          kernel_rfl
        · refine ⟨fun a w' hC hdep hfix => ⟨.slice (some ⟨w'.heap.size, 0, none⟩) 2 2, w'.alloc (.cells #[.int .i64 (-1), .int .i64 (-1)] 3), ?_, hC.alloc _, ⟨[-1, -1], rint_blk (ks := [-1, -1]) (heap_alloc_new w' _) rfl (by decide)⟩, fun _ _ h => Rk_below h ((Below.refl _ _).alloc (Nat.le_refl _) _)⟩⟩
          kernel_rfl
        · refine ⟨fun a w' hC hdep hfix => ?_⟩
          obtain ⟨l5, hl5⟩ : RowI (a.eval (.tmp 223)) w' := hdep 24 _ 223 rfl rfl (by kernel_rfl)
          obtain ⟨A5, c5, e5, _⟩ := id hl5
          refine ⟨.agg #[.int .u8 10, .string ⟨#[]⟩, .string ⟨#[]⟩, .slice none 0 0, .int .i64 0, .slice A5 l5.length c5], w', ?_, hC, RowC.mk (k := 10) (by decide) (TxtV.lit _ (by decide)) (TxtV.lit _ (by decide)) (RowB.nil _) (by decide) (⟨l5, e5 ▸ hl5⟩), fun _ _ h => h⟩
          unfold execOp
          simp only [List.map_toArray, List.map_cons, List.map_nil, e5]
          kernel_rfl
        · refine ⟨fun a w' hC hdep hfix => ⟨.slice (some ⟨w'.heap.size, 0, none⟩) 1 1, w'.alloc (.cells #[.int .u8 9] 5), ?_, hC.alloc _, ⟨[9], rb_blk (l := [9]) (heap_alloc_new w' _) rfl (by decide) (by decide)⟩, fun _ _ h => Rk_below h ((Below.refl _ _).alloc (Nat.le_refl _) _)⟩⟩
          kernel_rfl
        · refine ⟨fun a w' hC hdep hfix => ?_⟩
          obtain ⟨l3, hl3⟩ : RowB (a.eval (.tmp 225)) w' := hdep 26 _ 225 rfl rfl (by kernel_rfl)
          obtain ⟨A3, c3, e3, _⟩ := id hl3
          refine ⟨.agg #[.int .u8 0, .string ⟨#[97]⟩, .string ⟨#[]⟩, .slice A3 l3.length c3, .int .i64 0, .slice none 0 0], w', ?_, hC, RowC.mk (k := 0) (by decide) (TxtV.lit _ (by decide)) (TxtV.lit _ (by decide)) (⟨l3, e3 ▸ hl3⟩) (by decide) (RowI.nil _), fun _ _ h => h⟩
          unfold execOp
          simp only [List.map_toArray, List.map_cons, List.map_nil, e3]
          kernel_rfl
        · refine ⟨fun a w' hC hdep hfix => ?_⟩
          refine ⟨.agg #[.int .u8 5, .string ⟨#[97]⟩, .string ⟨#[97]⟩, .slice none 0 0, .int .i64 0, .slice none 0 0], w', ?_, hC, RowC.mk (k := 5) (by decide) (TxtV.lit _ (by decide)) (TxtV.lit _ (by decide)) (RowB.nil _) (by decide) (RowI.nil _), fun _ _ h => h⟩
          kernel_rfl
        · refine ⟨fun a w' hC hdep hfix => ?_⟩
          refine ⟨.agg #[.int .u8 8, .string ⟨#[]⟩, .string ⟨#[]⟩, .slice none 0 0, .int .i64 0, .slice none 0 0], w', ?_, hC, RowC.mk (k := 8) (by decide) (TxtV.lit _ (by decide)) (TxtV.lit _ (by decide)) (RowB.nil _) (by decide) (RowI.nil _), fun _ _ h => h⟩
          kernel_rfl
        · refine ⟨fun a w' hC hdep hfix => ?_⟩
          refine ⟨.agg #[.int .u8 5, .string ⟨#[97]⟩, .string ⟨#[98]⟩, .slice none 0 0, .int .i64 0, .slice none 0 0], w', ?_, hC, RowC.mk (k := 5) (by decide) (TxtV.lit _ (by decide)) (TxtV.lit _ (by decide)) (RowB.nil _) (by decide) (RowI.nil _), fun _ _ h => h⟩
          kernel_rfl
        · refine ⟨fun a w' hC hdep hfix => ?_⟩
          refine ⟨.agg #[.int .u8 10, .string ⟨#[]⟩, .string ⟨#[]⟩, .slice none 0 0, .int .i64 0, .slice none 0 0], w', ?_, hC, RowC.mk (k := 10) (by decide) (TxtV.lit _ (by decide)) (TxtV.lit _ (by decide)) (RowB.nil _) (by decide) (RowI.nil _), fun _ _ h => h⟩
          kernel_rfl
        · refine ⟨fun a w' hC hdep hfix => ⟨.slice (some ⟨w'.heap.size, 0, none⟩) 1 1, w'.alloc (.cells #[.int .i64 (5)] 3), ?_, hC.alloc _, ⟨[5], rint_blk (ks := [5]) (heap_alloc_new w' _) rfl (by decide)⟩, fun _ _ h => Rk_below h ((Below.refl _ _).alloc (Nat.le_refl _) _)⟩⟩
          kernel_rfl
        · refine ⟨fun a w' hC hdep hfix => ?_⟩
          obtain ⟨l5, hl5⟩ : RowI (a.eval (.tmp 231)) w' := hdep 32 _ 231 rfl rfl (by kernel_rfl)
          obtain ⟨A5, c5, e5, _⟩ := id hl5
          refine ⟨.agg #[.int .u8 10, .string ⟨#[]⟩, .string ⟨#[]⟩, .slice none 0 0, .int .i64 0, .slice A5 l5.length c5], w', ?_, hC, RowC.mk (k := 10) (by decide) (TxtV.lit _ (by decide)) (TxtV.lit _ (by decide)) (RowB.nil _) (by decide) (⟨l5, e5 ▸ hl5⟩), fun _ _ h => h⟩
          unfold execOp
          simp only [List.map_toArray, List.map_cons, List.map_nil, e5]
          kernel_rfl
        · refine ⟨fun a w' hC hdep hfix => ?_⟩
          refine ⟨.agg #[.int .u8 8, .string ⟨#[]⟩, .string ⟨#[]⟩, .slice none 0 0, .int .i64 3, .slice none 0 0], w', ?_, hC, RowC.mk (k := 8) (by decide) (TxtV.lit _ (by decide)) (TxtV.lit _ (by decide)) (RowB.nil _) (by decide) (RowI.nil _), fun _ _ h => h⟩
          kernel_rfl
        · refine ⟨fun a w' hC hdep hfix => ?_⟩
          refine ⟨.agg #[.int .u8 8, .string ⟨#[]⟩, .string ⟨#[]⟩, .slice none 0 0, .int .i64 (-1), .slice none 0 0], w', ?_, hC, RowC.mk (k := 8) (by decide) (TxtV.lit _ (by decide)) (TxtV.lit _ (by decide)) (RowB.nil _) (by decide) (RowI.nil _), fun _ _ h => h⟩
          kernel_rfl
        · refine ⟨fun a w' hC hdep hfix => ⟨.slice (some ⟨w'.heap.size, 0, none⟩) 1 1, w'.alloc (.cells #[.int .u8 4] 5), ?_, hC.alloc _, ⟨[4], rb_blk (l := [4]) (heap_alloc_new w' _) rfl (by decide) (by decide)⟩, fun _ _ h => Rk_below h ((Below.refl _ _).alloc (Nat.le_refl _) _)⟩⟩
          kernel_rfl
        · refine ⟨fun a w' hC hdep hfix => ?_⟩
          obtain ⟨l3, hl3⟩ : RowB (a.eval (.tmp 235)) w' := hdep 36 _ 235 rfl rfl (by kernel_rfl)
          obtain ⟨A3, c3, e3, _⟩ := id hl3
          refine ⟨.agg #[.int .u8 11, .string ⟨#[99]⟩, .string ⟨#[]⟩, .slice A3 l3.length c3, .int .i64 0, .slice none 0 0], w', ?_, hC, RowC.mk (k := 11) (by decide) (TxtV.lit _ (by decide)) (TxtV.lit _ (by decide)) (⟨l3, e3 ▸ hl3⟩) (by decide) (RowI.nil _), fun _ _ h => h⟩
          unfold execOp
          simp only [List.map_toArray, List.map_cons, List.map_nil, e3]
          kernel_rfl
        · refine ⟨fun a w' hC hdep hfix => ?_⟩
          refine ⟨.agg #[.int .u8 9, .string ⟨#[]⟩, .string ⟨#[]⟩, .slice none 0 0, .int .i64 0, .slice none 0 0], w', ?_, hC, RowC.mk (k := 9) (by decide) (TxtV.lit _ (by decide)) (TxtV.lit _ (by decide)) (RowB.nil _) (by decide) (RowI.nil _), fun _ _ h => h⟩
          kernel_rfl
        · refine ⟨fun a w' hC hdep hfix => ⟨.slice (some ⟨w'.heap.size, 0, none⟩) 1 1, w'.alloc (.cells #[.int .u8 4] 5), ?_, hC.alloc _, ⟨[4], rb_blk (l := [4]) (heap_alloc_new w' _) rfl (by decide) (by decide)⟩, fun _ _ h => Rk_below h ((Below.refl _ _).alloc (Nat.le_refl _) _)⟩⟩
          kernel_rfl
        · refine ⟨fun a w' hC hdep hfix => ?_⟩
          obtain ⟨l3, hl3⟩ : RowB (a.eval (.tmp 238)) w' := hdep 39 _ 238 rfl rfl (by kernel_rfl)
          obtain ⟨A3, c3, e3, _⟩ := id hl3
          refine ⟨.agg #[.int .u8 11, .string ⟨#[99]⟩, .string ⟨#[]⟩, .slice A3 l3.length c3, .int .i64 0, .slice none 0 0], w', ?_, hC, RowC.mk (k := 11) (by decide) (TxtV.lit _ (by decide)) (TxtV.lit _ (by decide)) (⟨l3, e3 ▸ hl3⟩) (by decide) (RowI.nil _), fun _ _ h => h⟩
          unfold execOp
          simp only [List.map_toArray, List.map_cons, List.map_nil, e3]
          kernel_rfl
        · refine ⟨fun a w' hC hdep hfix => ?_⟩
          obtain ⟨x0, e0, k0⟩ : RowC (a.eval (.tmp 200)) w' := hdep 1 _ 200 rfl rfl (by kernel_rfl)
          obtain ⟨x1, e1, k1⟩ : RowC (a.eval (.tmp 201)) w' := hdep 2 _ 201 rfl rfl (by kernel_rfl)
          obtain ⟨x2, e2, k2⟩ : RowC (a.eval (.tmp 205)) w' := hdep 6 _ 205 rfl rfl (by kernel_rfl)
          obtain ⟨x3, e3, k3⟩ : RowC (a.eval (.tmp 209)) w' := hdep 10 _ 209 rfl rfl (by kernel_rfl)
          obtain ⟨x4, e4, k4⟩ : RowC (a.eval (.tmp 210)) w' := hdep 11 _ 210 rfl rfl (by kernel_rfl)
          obtain ⟨x5, e5, k5⟩ : RowC (a.eval (.tmp 213)) w' := hdep 14 _ 213 rfl rfl (by kernel_rfl)
          obtain ⟨x6, e6, k6⟩ : RowC (a.eval (.tmp 216)) w' := hdep 17 _ 216 rfl rfl (by kernel_rfl)
          obtain ⟨x7, e7, k7⟩ : RowC (a.eval (.tmp 218)) w' := hdep 19 _ 218 rfl rfl (by kernel_rfl)
          obtain ⟨x8, e8, k8⟩ : RowC (a.eval (.tmp 219)) w' := hdep 20 _ 219 rfl rfl (by kernel_rfl)
          obtain ⟨x9, e9, k9⟩ : RowC (a.eval (.tmp 220)) w' := hdep 21 _ 220 rfl rfl (by kernel_rfl)
          obtain ⟨x10, e10, k10⟩ : RowC (a.eval (.tmp 221)) w' := hdep 22 _ 221 rfl rfl (by kernel_rfl)
          obtain ⟨x11, e11, k11⟩ : RowC (a.eval (.tmp 222)) w' := hdep 23 _ 222 rfl rfl (by kernel_rfl)
          obtain ⟨x12, e12, k12⟩ : RowC (a.eval (.tmp 224)) w' := hdep 25 _ 224 rfl rfl (by kernel_rfl)
          obtain ⟨x13, e13, k13⟩ : RowC (a.eval (.tmp 226)) w' := hdep 27 _ 226 rfl rfl (by kernel_rfl)
          obtain ⟨x14, e14, k14⟩ : RowC (a.eval (.tmp 227)) w' := hdep 28 _ 227 rfl rfl (by kernel_rfl)
          obtain ⟨x15, e15, k15⟩ : RowC (a.eval (.tmp 228)) w' := hdep 29 _ 228 rfl rfl (by kernel_rfl)
          obtain ⟨x16, e16, k16⟩ : RowC (a.eval (.tmp 229)) w' := hdep 30 _ 229 rfl rfl (by kernel_rfl)
          obtain ⟨x17, e17, k17⟩ : RowC (a.eval (.tmp 230)) w' := hdep 31 _ 230 rfl rfl (by kernel_rfl)
          obtain ⟨x18, e18, k18⟩ : RowC (a.eval (.tmp 232)) w' := hdep 33 _ 232 rfl rfl (by kernel_rfl)
          obtain ⟨x19, e19, k19⟩ : RowC (a.eval (.tmp 233)) w' := hdep 34 _ 233 rfl rfl (by kernel_rfl)
          obtain ⟨x20, e20, k20⟩ : RowC (a.eval (.tmp 234)) w' := hdep 35 _ 234 rfl rfl (by kernel_rfl)
          obtain ⟨x21, e21, k21⟩ : RowC (a.eval (.tmp 236)) w' := hdep 37 _ 236 rfl rfl (by kernel_rfl)
          obtain ⟨x22, e22, k22⟩ : RowC (a.eval (.tmp 237)) w' := hdep 38 _ 237 rfl rfl (by kernel_rfl)
          obtain ⟨x23, e23, k23⟩ : RowC (a.eval (.tmp 239)) w' := hdep 40 _ 239 rfl rfl (by kernel_rfl)
          have hok : ∀ x ∈ [x0, x1, x2, x3, x4, x5, x6, x7, x8, x9, x10, x11, x12, x13, x14, x15, x16, x17, x18, x19, x20, x21, x22, x23], ClOk w' w'.heap.size x := by
            intro x hx
            simp only [List.mem_cons, List.not_mem_nil, or_false] at hx
            rcases hx with rfl | rfl | rfl | rfl | rfl | rfl | rfl | rfl | rfl | rfl | rfl | rfl | rfl | rfl | rfl | rfl | rfl | rfl | rfl | rfl | rfl | rfl | rfl | rfl <;> assumption
          have hba : Below w'.heap.size w' (w'.alloc (.cells #[.int .u8 (x0.kind : Int), .string x0.name, .string x0.to, x0.bv, .int .i64 x0.n, x0.kv, .int .u8 (x1.kind : Int), .string x1.name, .string x1.to, x1.bv, .int .i64 x1.n, x1.kv, .int .u8 (x2.kind : Int), .string x2.name, .string x2.to, x2.bv, .int .i64 x2.n, x2.kv, .int .u8 (x3.kind : Int), .string x3.name, .string x3.to, x3.bv, .int .i64 x3.n, x3.kv, .int .u8 (x4.kind : Int), .string x4.name, .string x4.to, x4.bv, .int .i64 x4.n, x4.kv, .int .u8 (x5.kind : Int), .string x5.name, .string x5.to, x5.bv, .int .i64 x5.n, x5.kv, .int .u8 (x6.kind : Int), .string x6.name, .string x6.to, x6.bv, .int .i64 x6.n, x6.kv, .int .u8 (x7.kind : Int), .string x7.name, .string x7.to, x7.bv, .int .i64 x7.n, x7.kv, .int .u8 (x8.kind : Int), .string x8.name, .string x8.to, x8.bv, .int .i64 x8.n, x8.kv, .int .u8 (x9.kind : Int), .string x9.name, .string x9.to, x9.bv, .int .i64 x9.n, x9.kv, .int .u8 (x10.kind : Int), .string x10.name, .string x10.to, x10.bv, .int .i64 x10.n, x10.kv, .int .u8 (x11.kind : Int), .string x11.name, .string x11.to, x11.bv, .int .i64 x11.n, x11.kv, .int .u8 (x12.kind : Int), .string x12.name, .string x12.to, x12.bv, .int .i64 x12.n, x12.kv, .int .u8 (x13.kind : Int), .string x13.name, .string x13.to, x13.bv, .int .i64 x13.n, x13.kv, .int .u8 (x14.kind : Int), .string x14.name, .string x14.to, x14.bv, .int .i64 x14.n, x14.kv, .int .u8 (x15.kind : Int), .string x15.name, .string x15.to, x15.bv, .int .i64 x15.n, x15.kv, .int .u8 (x16.kind : Int), .string x16.name, .string x16.to, x16.bv, .int .i64 x16.n, x16.kv, .int .u8 (x17.kind : Int), .string x17.name, .string x17.to, x17.bv, .int .i64 x17.n, x17.kv, .int .u8 (x18.kind : Int), .string x18.name, .string x18.to, x18.bv, .int .i64 x18.n, x18.kv, .int .u8 (x19.kind : Int), .string x19.name, .string x19.to, x19.bv, .int .i64 x19.n, x19.kv, .int .u8 (x20.kind : Int), .string x20.name, .string x20.to, x20.bv, .int .i64 x20.n, x20.kv, .int .u8 (x21.kind : Int), .string x21.name, .string x21.to, x21.bv, .int .i64 x21.n, x21.kv, .int .u8 (x22.kind : Int), .string x22.name, .string x22.to, x22.bv, .int .i64 x22.n, x22.kv, .int .u8 (x23.kind : Int), .string x23.name, .string x23.to, x23.bv, .int .i64 x23.n, x23.kv] 32)) := (Below.refl _ _).alloc (Nat.le_refl _) _
          refine ⟨.slice (some ⟨w'.heap.size, 0, none⟩) 24 24, w'.alloc (.cells #[.int .u8 (x0.kind : Int), .string x0.name, .string x0.to, x0.bv, .int .i64 x0.n, x0.kv, .int .u8 (x1.kind : Int), .string x1.name, .string x1.to, x1.bv, .int .i64 x1.n, x1.kv, .int .u8 (x2.kind : Int), .string x2.name, .string x2.to, x2.bv, .int .i64 x2.n, x2.kv, .int .u8 (x3.kind : Int), .string x3.name, .string x3.to, x3.bv, .int .i64 x3.n, x3.kv, .int .u8 (x4.kind : Int), .string x4.name, .string x4.to, x4.bv, .int .i64 x4.n, x4.kv, .int .u8 (x5.kind : Int), .string x5.name, .string x5.to, x5.bv, .int .i64 x5.n, x5.kv, .int .u8 (x6.kind : Int), .string x6.name, .string x6.to, x6.bv, .int .i64 x6.n, x6.kv, .int .u8 (x7.kind : Int), .string x7.name, .string x7.to, x7.bv, .int .i64 x7.n, x7.kv, .int .u8 (x8.kind : Int), .string x8.name, .string x8.to, x8.bv, .int .i64 x8.n, x8.kv, .int .u8 (x9.kind : Int), .string x9.name, .string x9.to, x9.bv, .int .i64 x9.n, x9.kv, .int .u8 (x10.kind : Int), .string x10.name, .string x10.to, x10.bv, .int .i64 x10.n, x10.kv, .int .u8 (x11.kind : Int), .string x11.name, .string x11.to, x11.bv, .int .i64 x11.n, x11.kv, .int .u8 (x12.kind : Int), .string x12.name, .string x12.to, x12.bv, .int .i64 x12.n, x12.kv, .int .u8 (x13.kind : Int), .string x13.name, .string x13.to, x13.bv, .int .i64 x13.n, x13.kv, .int .u8 (x14.kind : Int), .string x14.name, .string x14.to, x14.bv, .int .i64 x14.n, x14.kv, .int .u8 (x15.kind : Int), .string x15.name, .string x15.to, x15.bv, .int .i64 x15.n, x15.kv, .int .u8 (x16.kind : Int), .string x16.name, .string x16.to, x16.bv, .int .i64 x16.n, x16.kv, .int .u8 (x17.kind : Int), .string x17.name, .string x17.to, x17.bv, .int .i64 x17.n, x17.kv, .int .u8 (x18.kind : Int), .string x18.name, .string x18.to, x18.bv, .int .i64 x18.n, x18.kv, .int .u8 (x19.kind : Int), .string x19.name, .string x19.to, x19.bv, .int .i64 x19.n, x19.kv, .int .u8 (x20.kind : Int), .string x20.name, .string x20.to, x20.bv, .int .i64 x20.n, x20.kv, .int .u8 (x21.kind : Int), .string x21.name, .string x21.to, x21.bv, .int .i64 x21.n, x21.kv, .int .u8 (x22.kind : Int), .string x22.name, .string x22.to, x22.bv, .int .i64 x22.n, x22.kv, .int .u8 (x23.kind : Int), .string x23.name, .string x23.to, x23.bv, .int .i64 x23.n, x23.kv] 32), ?_, hC.alloc _, ⟨_, _, _, _, rfl, ⟨Nat.le_refl _, by decide⟩, calls_blk (xs := [x0, x1, x2, x3, x4, x5, x6, x7, x8, x9, x10, x11, x12, x13, x14, x15, x16, x17, x18, x19, x20, x21, x22, x23]) (heap_alloc_new w' _) rfl (fun x hx => ((hok x hx).below hba).more hba.size)⟩, fun _ _ h => Rk_below h hba⟩
          unfold execOp
          simp only [List.map_toArray, List.map_cons, List.map_nil, e0, e1, e2, e3, e4, e5, e6, e7, e8, e9, e10, e11, e12, e13, e14, e15, e16, e17, e18, e19, e20, e21, e22, e23]
          kernel_rfl
        · refine ⟨fun a w' hC hdep hfix => ⟨a.eval (.tmp 240), w', rfl, hC, (hdep 41 _ 240 rfl rfl (by kernel_rfl) : RowL (a.eval (.tmp 240)) w'), fun _ _ h => h⟩⟩
      · obtain ⟨x21, LA, ln, lcap, e21, hl21, hc21⟩ : RowL (f 21) w40 := hR 42 _ 21 rfl rfl
        clear hR
        simp only [Inv.dsts, List.filterMap_cons, List.filterMap_nil, List.foldl_cons, List.foldl_nil, Act.put, List.setIfInBounds_toArray, List.set_cons_succ, List.set_cons_zero, e21]
        clear e21
        have HKE := Lib.hid hC
        clear hC
        have HRL := Lib.hid (show RowL (.slice LA ln lcap) w40 from ⟨x21, LA, ln, lcap, rfl, hl21, hc21⟩)
        clear hl21 hc21
        have H1 := Lib.hid (kept_plays w40)
        go_wp2_with fail
        refine H1.out.mono ?_
        rintro e w41 ⟨rfl, hb⟩
        have HK1 := Lib.hid (HKE.out.step hb)
        have HR1 := Lib.hid (HRL.out.below hb)
        clear hb H1 HKE HRL
        have H1 := Lib.hid (long_plays 50 HR1.out (by omega) (by omega))
        go_wp2_with fail
        refine H1.out.mono ?_
        rintro e w42 ⟨rfl, hb⟩
        have HK2 := Lib.hid (HK1.out.step hb)
        have HR2 := Lib.hid (HR1.out.below hb)
        clear hb H1 HK1 HR1
        have H1 := Lib.hid (long_plays 3 HR2.out (by omega) (by omega))
        go_wp2_with fail
        refine H1.out.mono ?_
        rintro e w43 ⟨rfl, hb⟩
        have HK3 := Lib.hid (HK2.out.step hb)
        have HR3 := Lib.hid (HR2.out.below hb)
        clear hb H1 HK2 HR2
        have H1 := Lib.hid (long_plays (-1) HR3.out (by omega) (by omega))
        go_wp2_with fail
        refine H1.out.mono ?_
        rintro e w44 ⟨rfl, hb⟩
        have HK4 := Lib.hid (HK3.out.step hb)
        clear hb H1 HK3 HR3
        have H1 := Lib.hid (keeps_lit w44)
        go_wp2_with fail
        refine H1.out.mono ?_
        rintro e w45 ⟨rfl, hb⟩
        have HK5 := Lib.hid (HK4.out.step hb)
        clear hb H1 HK4
        have H1 := Lib.hid (swaps_lit w45)
        have hcv1 := lit_ab w45
        have hcv2 := lit_cd w45 (.cells #[.int .u8 97, .int .u8 98] 5 (2, 3))
        go_wp2_with fail
        clear hcv1 hcv2
        refine H1.out.mono ?_
        rintro e w46 ⟨rfl, hb⟩
        have HK6 := Lib.hid (HK5.out.step hb)
        clear hb H1 HK5
        have H1 := Lib.hid (works_any w46)
        go_wp2_with fail
        refine H1.out.mono ?_
        rintro e w47 ⟨rfl, hb⟩
        have HQ := Lib.hid (HP.out _ (HK6.out.step hb).1)
        clear hb H1 HK6 HP
        go_wp2
        exact HQ.out
theorem diskKnown_walk (w : World) : Calls Try.prog 6 #[] w fun e w' => e = .returned (.bool true) ∧ Below w.heap.size w w' :=
  (known_w w).mono fun _ _ h => h
end Go.Proofs.Ytfgbaigpmhnoaaa
