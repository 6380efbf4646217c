/- scan: ScanHolds, walked. -/
import Derived.Test.YtadlimfpcfdgcaaScnL
set_option linter.unusedVariables false
set_option linter.unusedSimpArgs false
namespace Go.Proofs.Ytadlimfpcfdgcaa
open Go Go.RowKit Go.BigFrame Go.Maps
open Scn (runOf wins winsTo firsts)

theorem names_one (nm : ByteArray) (W : World) : Reads (W.alloc (.cells #[.string nm] 9)) (W.alloc (.cells #[.string nm] 9)).heap.size (.slice (some ⟨W.heap.size, 0, none⟩) 1 1) (strs [nm]) :=
  reads_new W #[.string nm] 9 (strs [nm]) rfl (by simp [strs])
theorem Reads.row {w : World} {B n cap : Nat} {A : Option Addr} {xs : List ByteArray} (h : Reads w B (.slice A n cap) (strs xs)) : 0 < xs.length → ∃ ad, A = some ad ∧ ad.block < B ∧ ∀ j u, (strs xs)[j]? = some u → w.cell? (ad.add j) = some u := by
  obtain ⟨A', cap', e, _, _, _, h4⟩ := h
  injection e with e1 e2 e3
  subst e1
  rw [strs_len] at h4
  exact h4
theorem Reads.len {w : World} {B : Nat} {v : Value} {xs : List ByteArray} (h : Reads w B v (strs xs)) : xs.length ≤ 9223372036854775807 := by
  obtain ⟨A', cap', e, h1, h2, _, _⟩ := h
  rw [strs_len] at h1
  unfold maxLen at h2
  omega
set_option maxRecDepth 100000 in
set_option maxHeartbeats 8000000 in
theorem scanHolds_walk (va vb : Value) (la lb : List UInt8) (d : Nat → Nat) (w : World) (hva : BytAt w w.heap.size va la) (hvb : BytAt w w.heap.size vb lb) (hd : ∀ i, d i < 256) :
    Calls Try.prog 4 #[va, vb, .agg (digA d 32)] w fun e w' => e = .returned (.bool true) ∧ Below w.heap.size w w' := by
  have HVA := Lib.hid hva
  have HVB := Lib.hid hvb
  have HD := Lib.hid hd
  obtain ⟨Aa, ca, rfl, hca⟩ := hva.form
  obtain ⟨Ab, cb, rfl, hcb⟩ := hvb.form
  clear hva hvb hd
  go_enter Try.func4, Try.ntmps4
  go_upto_region 1 with (fail)
  obtain ⟨w1, hw1, hg1, hb1, hz1⟩ := row_new w (.cells (digA d 32) 29)
  rw [← hw1]
  clear hw1
  by_cases hbig : 300 < la.length ∨ 300 < lb.length
  · have HB1 := Lib.hid hb1
    clear hg1 hz1 hb1
    rcases Nat.lt_or_ge 300 la.length with hl | hl
    · have hlI : decide ((300 : Int) < (la.length : Int)) = true := decide_eq_true (by omega)
      clear hl hbig
      go_wp2_with fail
      refine (works_any w1).mono ?_
      rintro e W2 ⟨rfl, hb2⟩
      have HB2 := Lib.hid (below_step HB1.out hb2 HB1.out.size)
      clear hb2
      go_wp2_with fail
      go_ret
      exact ⟨rfl, HB2.out⟩
    · have hlI : decide ((300 : Int) < (la.length : Int)) = false := decide_eq_false (by omega)
      have hlJ : decide ((300 : Int) < (lb.length : Int)) = true := decide_eq_true (by omega)
      clear hl hbig
      go_wp2_with fail
      refine (works_any w1).mono ?_
      rintro e W2 ⟨rfl, hb2⟩
      have HB2 := Lib.hid (below_step HB1.out hb2 HB1.out.size)
      clear hb2
      go_wp2_with fail
      go_ret
      exact ⟨rfl, HB2.out⟩
  have hla : la.length ≤ 300 := by omega
  have hlb : lb.length ≤ 300 := by omega
  have hlI : decide ((300 : Int) < (la.length : Int)) = false := decide_eq_false (by omega)
  have hlJ : decide ((300 : Int) < (lb.length : Int)) = false := decide_eq_false (by omega)
  clear hbig
  go_wp2_with (refine wpList_load_row rfl 29 _ rfl w.heap.size rfl 29 _ (0, 0) _ hg1 Try.underlying29 rfl (by rw [digA_size]; exact Nam.info32) ?_)
  refine (Nam.letters_is d HD.out _).mono ?_
  rintro e w2 ⟨rfl, hb2⟩
  have hg2 := (hb2.block w.heap.size (by omega)).trans hg1
  have hB2 := below_step hb1 hb2 hb1.size
  clear hg1 hb1 hb2 hz1
  go_wp2_with (refine wpList_load_row rfl 29 _ rfl w.heap.size rfl 29 _ (0, 0) _ hg2 Try.underlying29 rfl (by rw [digA_size]; exact Nam.info32) ?_)
  refine (Nam.name_yes d HD.out xS _ (by decide) xS_right).mono ?_
  rintro e w3 ⟨rfl, hb3⟩
  have HB3 := Lib.hid (below_step hB2 hb3 hB2.size)
  have hc1 := (HVA.out.keep HB3.out).conv
  have hc2 := (HVB.out.keep HB3.out).conv
  clear hg2 hB2 hb3
  have h4 : (la ++ (Nam.letS d).data.toList ++ lb).length ≤ 632 := by
    have h : (Nam.letS d).data.toList.length = 32 := by rw [Array.length_toList]; exact Nam.letS_size d
    rw [List.length_append, List.length_append, h]
    omega
  obtain ⟨A4, c4, w4, hcv4, hb4, hy4⟩ := bytes_conv w3 (la ++ (Nam.letS d).data.toList ++ lb) (by unfold maxLen; omega)
  rw [← strOf_app, ← strOf_app, strOf_list] at hcv4
  have HRN := Lib.hid (refs_name d la lb)
  have HNM := Lib.hid (Nam.nameS_max d xS xS_right)
  have HLN := Lib.hid (show (la ++ (Nam.letS d).data.toList ++ lb).length ≤ 1000000 by omega)
  clear h4
  have hsa : (strOf la).size ≤ 300 := by rw [strOf_size]; exact hla
  have hsb : (strOf lb).size ≤ 300 := by rw [strOf_size]; exact hlb
  have hsl := Nam.letS_size d
  generalize la ++ (Nam.letS d).data.toList ++ lb = L4 at *
  generalize Nam.nameS d xS = tn at *
  generalize Nam.letS d = tl at *
  obtain ⟨ta, hta⟩ : ∃ ta, ta = strOf la := ⟨_, rfl⟩
  obtain ⟨tb, htb⟩ : ∃ tb, tb = strOf lb := ⟨_, rfl⟩
  rw [← hta] at hc1 hsa hcv4
  rw [← htb] at hc2 hsb hcv4
  have HTA := Lib.hid (And.intro hta htb)
  have hn1 : ¬ 9223372036854775807 < ta.size + tb.size := by omega
  have hn2 : ¬ 9223372036854775807 < ta.size + tl.size := by omega
  have hn3 : ¬ 9223372036854775807 < ta.size + tl.size + tb.size := by omega
  have HB4 := Lib.hid (below_step HB3.out hb4 HB3.out.size)
  have HY4 := Lib.hid hy4
  have HLA := Lib.hid (And.intro hla hlb)
  clear hta htb hsa hsb hsl hb4 hy4 hlI hlJ hla hlb
  go_wp2_with fail
  have hba : Below w4.heap.size w4 (w4.alloc (.cells #[.string tn] 9)) := (Below.refl _ _).alloc (Nat.le_refl _) _
  have HB5 := Lib.hid (below_step HB4.out hba HB4.out.size)
  have HRF := Lib.hid (refs_any _ _ L4 [tn] _ (w4.alloc (.cells #[.string tn] 9)) ((HY4.out.keep hba).more hba.size) (names_one tn w4) (Nat.le_refl _) (fun s hs => by rw [List.mem_singleton.1 hs]; exact HNM.out) (by simp) HLN.out)
  rw [HRN.out] at HRF
  generalize w4.alloc (.cells #[.string tn] 9) = w5 at *
  clear hba
  refine HRF.out.mono ?_
  rintro e w6 ⟨hb6, v6, rfl, ho6⟩
  have hb7 : Below w6.heap.size w6 (w6.alloc (.cells #[.string tn] 9)) := (Below.refl _ _).alloc (Nat.le_refl _) _
  have HB7 := Lib.hid (below_step (below_step HB5.out hb6 HB5.out.size) hb7 (Nat.le_trans HB5.out.size hb6.size))
  have HST := Lib.hid (sameTexts_any v6 _ [tn] [tn] _ _ ((Reads.own (own_below ho6 hb7 (Nat.le_refl _)))) (names_one tn w6))
  rw [decide_eq_true rfl] at HST
  clear hb6 ho6 hb7 HRF hcv4 hc1 hc2
  go_wp2_with fail
  generalize w6.alloc (.cells #[.string tn] 9) = w7 at *
  refine HST.out.mono ?_
  rintro e w8 ⟨rfl, nq8, hw8⟩
  have HB8 := Lib.hid (show Below w.heap.size w w8 by rw [hw8]; exact below_drewN HB7.out _)
  clear hw8 HST HRN HNM HLN
  have HAA := Lib.hid (all_any _ la _ w8 (HVA.out.keep HB8.out) HB8.out.size (by have := HLA.out; omega))
  go_wp2_with fail
  refine HAA.out.mono ?_
  rintro e w9 ⟨hb9, v9, rfl, ho9⟩
  have HB9 := Lib.hid (below_step HB8.out hb9 HB8.out.size)
  have HP9 := Lib.hid ho9
  have HAB := Lib.hid (all_any _ lb _ w9 (HVB.out.keep HB9.out) HB9.out.size (by have := HLA.out; omega))
  clear hb9 ho9 HAA
  go_wp2_with fail
  refine HAB.out.mono ?_
  rintro e w10 ⟨hb10, v10, rfl, ho10⟩
  have HB10 := Lib.hid (below_step HB9.out hb10 HB9.out.size)
  have HP10 := Lib.hid (And.intro (own_below HP9.out hb10 (Nat.le_refl _)) ho10)
  obtain ⟨L11, hL11⟩ : ∃ L, L = la ++ lb := ⟨_, rfl⟩
  have HL11 := Lib.hid (And.intro hL11 (show L11.length ≤ 600 by have := HLA.out; rw [hL11, List.length_append]; omega))
  obtain ⟨A11, c11, w11, hcv11, hb11, hy11⟩ := bytes_conv w10 L11 (by have := HL11.out.2; unfold maxLen; omega)
  rw [show strOf L11 = ta ++ tb by rw [hL11, ← strOf_app, ← HTA.out.1, ← HTA.out.2]] at hcv11
  clear hL11
  have HB11 := Lib.hid (below_step HB10.out hb11 HB10.out.size)
  have HP11 := Lib.hid (And.intro (own_below HP10.out.1 hb11 (Nat.le_refl _)) (own_below HP10.out.2 hb11 (Nat.le_refl _)))
  have HAR := Lib.hid (all_any _ L11 _ w11 hy11 (Nat.le_refl _) (by have := HL11.out.2; omega))
  clear hb10 ho10 hb11 hy11 HAB
  go_wp2_with fail
  refine HAR.out.mono ?_
  rintro e w12 ⟨hb12, v12, rfl, ho12⟩
  have HB12 := Lib.hid (below_step HB11.out hb12 HB11.out.size)
  have HP := Lib.hid (show Reads w12 w12.heap.size v9 (strs (allF (strOf la))) from Reads.own (own_below HP11.out.1 hb12 (Nat.le_refl _)))
  have HQ := Lib.hid (show Reads w12 w12.heap.size v10 (strs (allF (strOf lb))) from Reads.own (own_below HP11.out.2 hb12 (Nat.le_refl _)))
  have HRR := Lib.hid (show Reads w12 w12.heap.size v12 (strs (allF (strOf L11))) from Reads.own ho12)
  clear hb12 ho12 hcv11 HAR
  obtain ⟨A9, c9, ev9, _⟩ := id HP.out
  obtain ⟨A10, c10, ev10, _⟩ := id HQ.out
  obtain ⟨A12, c12, ev12, _⟩ := id HRR.out
  rw [strs_len] at ev9 ev10 ev12
  subst ev9 ev10 ev12
  have HXP := Lib.hid (show ∀ x, x ∈ allF (strOf la) → isIn x (allF (strOf L11)) = true from fun x h => by rw [HL11.out.1]; exact all_left la lb x h)
  have HXQ := Lib.hid (show ∀ x, x ∈ allF (strOf lb) → isIn x (allF (strOf L11)) = true from fun x h => by rw [HL11.out.1]; exact all_right la lb x h)
  have HXR := Lib.hid (show ∀ x, x ∈ allF (strOf L11) → isIn x (allF (strOf la)) = false → isIn x (allF (strOf lb)) = false → isIn x (allF (strOf (seamL la lb))) = true from fun x h => by rw [HL11.out.1] at h; exact all_seam la lb x h)
  generalize hxp : allF (strOf la) = xp at *
  generalize hxq : allF (strOf lb) = xq at *
  generalize hxr : allF (strOf L11) = xr at *
  clear hxp hxq hxr
  have HTAB := Lib.hid (show ta ++ tb = strOf (la ++ lb) by rw [HTA.out.1, HTA.out.2, strOf_app])
  generalize ta ++ tb = tab at *
  have HRP := Lib.hid HP.out.row
  have HRQ := Lib.hid HQ.out.row
  have HRX := Lib.hid HRR.out.row
  have hpl : xp.length ≤ 9223372036854775807 := HP.out.len
  have hql : xq.length ≤ 9223372036854775807 := HQ.out.len
  have hrl : xr.length ≤ 9223372036854775807 := HRR.out.len
  go_wp2
  go_loopw [14] (fun i wr => ∃ k : Nat, k ≤ xp.length ∧ i = .int .i64 k ∧ Hid (Below w12.heap.size w12 wr)) (fun i _ => xp.length - (intOf i).toNat)
  case atStart => exact ⟨0, by omega, rfl, Lib.hid (Below.refl _ _)⟩
  case round =>
    obtain ⟨k, hk, rfl, HB⟩ := hrel
    by_cases hlt : k < xp.length
    · have hw1 : IntKind.i64.wrap ((k : Int) + 1) = (k : Int) + 1 := IntWalk.i64_in _ (by omega)
      obtain ⟨ad, rfl, hbl, hc⟩ := HRP.out (by omega)
      have hcx := (HB.out.cell (by rw [add_block]; exact hbl)).trans (hc k _ (strs_get xp k hlt))
      clear hc hbl
      have hi1 : (k : Int) < (xp.length : Int) := by omega
      have hi0 : (0 : Int) ≤ (k : Int) := by omega
      have HIN := Lib.hid (HXP.out _ (getT_mem hlt))
      generalize xp.getD k ⟨#[]⟩ = x at *
      go_wp2_with fail
      refine (has_is _ xr x _ _ true (HRR.out.below HB.out) HIN.out).mono ?_
      rintro e w13 ⟨rfl, hb13⟩
      have HB13 := Lib.hid (below_step HB.out hb13 HB.out.size)
      clear hb13 hcx
      go_wp2
      go_roundw
      case rel => exact ⟨k + 1, by omega, by go_num, HB13⟩
      case measure => simp [intOf]; omega
    · have hi1 : ¬ (k : Int) < (xp.length : Int) := by omega
      go_wp2
      clear hi1
      generalize wr = w13 at *
      rename Hid (Below w12.heap.size w12 w13) => HB13
      go_loopw [15] (fun i wr => ∃ k : Nat, k ≤ xq.length ∧ i = .int .i64 k ∧ Hid (Below w12.heap.size w12 wr)) (fun i _ => xq.length - (intOf i).toNat)
      case atStart => exact ⟨0, by omega, rfl, HB13⟩
      case round =>
        obtain ⟨k2, hk2, rfl, HB⟩ := hrel
        by_cases hlt2 : k2 < xq.length
        · have hw1 : IntKind.i64.wrap ((k2 : Int) + 1) = (k2 : Int) + 1 := IntWalk.i64_in _ (by omega)
          obtain ⟨ad, rfl, hbl, hc⟩ := HRQ.out (by omega)
          have hcx := (HB.out.cell (by rw [add_block]; exact hbl)).trans (hc k2 _ (strs_get xq k2 hlt2))
          clear hc hbl
          have hi1 : (k2 : Int) < (xq.length : Int) := by omega
          have hi0 : (0 : Int) ≤ (k2 : Int) := by omega
          have HIN := Lib.hid (HXQ.out _ (getT_mem hlt2))
          generalize xq.getD k2 ⟨#[]⟩ = x at *
          go_wp2_with fail
          refine (has_is _ xr x _ _ true (HRR.out.below HB.out) HIN.out).mono ?_
          rintro e w14 ⟨rfl, hb14⟩
          have HB14 := Lib.hid (below_step HB.out hb14 HB.out.size)
          clear hb14 hcx
          go_wp2
          go_roundw
          case rel => exact ⟨k2 + 1, by omega, by go_num, HB14⟩
          case measure => simp [intOf]; omega
        · have hi1 : ¬ (k2 : Int) < (xq.length : Int) := by omega
          have hw1 : IntKind.i64.wrap ((la.length : Int) - 31) = (la.length : Int) - 31 := IntWalk.i64_in _ (by have := HLA.out; omega)
          have hw2 : IntKind.i64.wrap ((la.length : Int) + 31) = (la.length : Int) + 31 := IntWalk.i64_in _ (by have := HLA.out; omega)
          obtain ⟨lo, hlo⟩ : ∃ lo, lo = la.length - 31 := ⟨_, rfl⟩
          obtain ⟨hi, hhi⟩ : ∃ hi, hi = min (la.length + lb.length) (la.length + 31) := ⟨_, rfl⟩
          have hts : tab.size = la.length + lb.length := by rw [HTAB.out, strOf_size, List.length_append]
          have HSE := Lib.hid (show tab.extract lo hi = strOf (seamL la lb) by rw [HTAB.out]; exact seam_cut la lb lo hi hlo hhi)
          have hmx : ∀ (w : World) (ts : Array TypeId) (t : TypeId), (Builtin.max_ ts t #[.int .i64 0, .int .i64 ((la.length : Int) - 31)]).run Try.prog w = .ok (.int .i64 (lo : Int)) w := fun w ts t => by
            rw [run_max_int2]
            congr 2
            rw [hlo]
            split <;> first | omega | (congr 1; omega)
          have hmn : ∀ (w : World) (ts : Array TypeId) (t : TypeId), (Builtin.min_ ts t #[.int .i64 (tab.size : Int), .int .i64 ((la.length : Int) + 31)]).run Try.prog w = .ok (.int .i64 (hi : Int)) w := fun w ts t => by
            rw [run_min_int2]
            congr 2
            rw [hhi, hts]
            split <;> first | omega | (congr 1; omega)
          have hb1 : (lo : Int) ≤ (hi : Int) := by omega
          have hb2 : (hi : Int) ≤ (tab.size : Int) := by omega
          have hb0 : (0 : Int) ≤ (lo : Int) := by omega
          clear hts hlo hhi
          obtain ⟨A15, c15, w15, hcv15, hb15, hy15⟩ := bytes_conv wr (seamL la lb) (by unfold seamL maxLen; have := HLA.out; simp; omega)
          rw [← HSE.out] at hcv15
          have HB15 := Lib.hid (below_step HB.out hb15 HB.out.size)
          have HAS := Lib.hid (all_any _ (seamL la lb) _ w15 hy15 (Nat.le_refl _) (by unfold seamL; have := HLA.out; simp; omega))
          clear hb15 hy15
          generalize (seamL la lb).length = sn at *
          go_wp2_with fail
          refine HAS.out.mono ?_
          rintro e w16 ⟨hb16, v16, rfl, ho16⟩
          have HB16 := Lib.hid (below_step HB15.out hb16 HB15.out.size)
          have HSS := Lib.hid (show Reads w16 w16.heap.size v16 (strs (allF (strOf (seamL la lb)))) from Reads.own ho16)
          generalize allF (strOf (seamL la lb)) = xs at *
          obtain ⟨A16, c16, ev16, _⟩ := id HSS.out
          rw [strs_len] at ev16
          subst ev16
          clear hb16 ho16 hcv15 HAS HSE hmx hmn hb0 hb1 hb2 hw1 hw2 hi1
          go_wp2
          go_loopw [18] (fun i wr => ∃ k : Nat, k ≤ xr.length ∧ i = .int .i64 k ∧ Hid (Below w16.heap.size w16 wr)) (fun i _ => xr.length - (intOf i).toNat)
          case atStart => exact ⟨0, by omega, rfl, Lib.hid (Below.refl _ _)⟩
          case round =>
            obtain ⟨k3, hk3, rfl, HB⟩ := hrel
            have HBA := Lib.hid (below_step HB16.out HB.out HB16.out.size)
            by_cases hlt3 : k3 < xr.length
            · have hw1 : IntKind.i64.wrap ((k3 : Int) + 1) = (k3 : Int) + 1 := IntWalk.i64_in _ (by omega)
              obtain ⟨ad, rfl, hbl, hc⟩ := HRX.out (by omega)
              have HCX := Lib.hid (fun (W : World) (h : Below w12.heap.size w12 W) => (h.cell (by rw [add_block]; exact hbl)).trans (hc k3 _ (strs_get xr k3 hlt3)))
              clear hc hbl
              have hi1 : (k3 : Int) < (xr.length : Int) := by omega
              have hi0 : (0 : Int) ≤ (k3 : Int) := by omega
              have HIN := Lib.hid (HXR.out _ (getT_mem hlt3))
              generalize xr.getD k3 ⟨#[]⟩ = x at *
              have hcx := HCX.out _ HBA.out
              cases hxp : isIn x xp with
              | true =>
                go_wp2_with fail
                refine (has_is _ xp x _ _ true (HP.out.below HBA.out) hxp).mono ?_
                rintro e w17 ⟨rfl, hb17⟩
                have HB17 := Lib.hid (below_step HB.out hb17 HB.out.size)
                clear hb17 hcx hxp
                go_wp2
                go_roundw
                case rel => exact ⟨k3 + 1, by omega, by go_num, HB17⟩
                case measure => simp [intOf]; omega
              | false =>
                go_wp2_with fail
                refine (has_is _ xp x _ _ false (HP.out.below HBA.out) hxp).mono ?_
                rintro e w17 ⟨rfl, hb17⟩
                have HB17 := Lib.hid (below_step HB.out hb17 HB.out.size)
                have HBB := Lib.hid (below_step HBA.out hb17 HBA.out.size)
                have HNP := Lib.hid hxp
                clear hb17 hcx hxp
                have hcx := HCX.out _ HBB.out
                cases hxq : isIn x xq with
                | true =>
                  go_wp2_with fail
                  refine (has_is _ xq x _ _ true (HQ.out.below HBB.out) hxq).mono ?_
                  rintro e w18 ⟨rfl, hb18⟩
                  have HB18 := Lib.hid (below_step HB17.out hb18 HB17.out.size)
                  clear hb18 hcx hxq
                  go_wp2
                  go_roundw
                  case rel => exact ⟨k3 + 1, by omega, by go_num, HB18⟩
                  case measure => simp [intOf]; omega
                | false =>
                  go_wp2_with fail
                  refine (has_is _ xq x _ _ false (HQ.out.below HBB.out) hxq).mono ?_
                  rintro e w18 ⟨rfl, hb18⟩
                  have HB18 := Lib.hid (below_step HB17.out hb18 HB17.out.size)
                  have HBC := Lib.hid (below_step HBB.out hb18 HBB.out.size)
                  have HIS := Lib.hid (HIN.out HNP.out hxq)
                  clear hb18 hcx hxq
                  have hcx := HCX.out _ HBC.out
                  go_wp2_with fail
                  refine (has_is _ xs x _ _ true (HSS.out.below HB18.out) HIS.out).mono ?_
                  rintro e w19 ⟨rfl, hb19⟩
                  have HB19 := Lib.hid (below_step HB18.out hb19 HB18.out.size)
                  clear hb19 hcx
                  go_wp2
                  go_roundw
                  case rel => exact ⟨k3 + 1, by omega, by go_num, HB19⟩
                  case measure => simp [intOf]; omega
            · have hi1 : ¬ (k3 : Int) < (xr.length : Int) := by omega
              have HBW := Lib.hid (below_step HB12.out HBA.out HB12.out.size)
              go_wp2_with fail
              refine (works_any wr).mono ?_
              rintro e w20 ⟨rfl, hb20⟩
              have HB20 := Lib.hid (below_step HBW.out hb20 HBW.out.size)
              clear hb20
              go_wp2_with fail
              go_ret
              exact ⟨rfl, HB20.out⟩
end Go.Proofs.Ytadlimfpcfdgcaa
