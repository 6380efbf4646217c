/- cnf: Unit. -/
import Derived.Test.YtapaoccpbcjgeaaCnmN
namespace Go.Proofs.Ytapaoccpbcjgeaa
open Go.RowKit Go.BigFrame
open Cnf (litB countN leftL heldB firstsI unitsF openN clashB)

set_option maxRecDepth 100000 in
set_option maxHeartbeats 8000000 in
theorem unit_any (v : Int) (a lv : Value) (cs : List (List Int)) (lits : List Int) (w : World) (ha : RowsAt w a cs) (hl : IRow w AllB lv lits) (hs : countN cs ≤ 4000000) (hn : cs.length ≤ 1000000) (hln : lits.length ≤ 1000000) :
    Calls Try.prog 22 #[.agg #[.int .i64 v, a], lv] w (UnitPost v cs lits w) := by
  obtain ⟨A, ca, rfl, hla, hma⟩ := ha.form
  obtain ⟨A2, cb, rfl, hlb, hmb⟩ := RdS.form hl
  unfold maxLen at hma hmb
  have HP := Lib.hid (fun (w' : World) (hb : Below w.heap.size w w') (h : goodB v cs lits = false) => post_bad hb h)
  have HQ := Lib.hid (fun (w' : World) (u : Value) (S : List Int) (b : Bool) (hb : Below w.heap.size w w') (h : goodB v cs lits = true) (hu : unitsF cs (firstsI lits) = (S, b)) (ho : w'.ownsRow w.heap.size 3 1 u S.length (ints S)) => post_good hb h hu ho (Nat.le_refl _))
  generalize UnitPost v cs lits w = post at *
  go_enter Try.func22, Try.ntmps22
  go_upto_region 1 with (fail)
  obtain ⟨W0, hW0, hg0, hb0, hz0', hbb⟩ := row_at w w (.cells #[.int .i64 v, .slice A cs.length ca] 24) (Below.refl _ _)
  rw [← hW0]
  have HA := Lib.hid (ha.below hb0)
  have HS0 := Lib.hid hl
  have HS := Lib.hid (RdS.below hl hb0)
  have HG0 := Lib.hid hg0
  have hzz : w.heap.size < W0.heap.size := by omega
  have HZ := Lib.hid hz0'
  have HBB := Lib.hid hbb
  obtain ⟨hc0, hc1, hf0, hf1⟩ := cell_two hg0
  clear hW0 ha hl hb0 hz0' hg0 hbb
  have HCK := Lib.hid (check_any v _ cs W0 HA.out hs)
  go_wp2_with fail
  refine HCK.out.mono ?_
  rintro e w1 ⟨rfl, hb1⟩
  have HB1 := Lib.hid (below_step HBB.out hb1 HBB.out.size)
  have HA1 := Lib.hid (HA.out.below hb1)
  have HS1 := Lib.hid (RdS.below HS.out hb1)
  obtain ⟨hd0, hd1, he0, he1⟩ := cell_two ((hb1.block w.heap.size hzz).trans HG0.out)
  have hsz1 := hb1.size
  clear hb1 hc0 hc1 hf0 hf1
  by_cases hck : checkN v cs = 0
  · have HOK := Lib.hid (check_ok hck)
    have hv1 := HOK.out.2.1
    have hv0 := HOK.out.1
    have HLA := Lib.hid (literals_any _ lits v AllB w1 HS1.out hv0 (by omega))
    rw [hck]
    cases hla2 : lits.all (litB v)
    · rw [hla2] at HLA
      have HR := Lib.hid (show goodB v cs lits = false by unfold goodB; rw [hla2, Bool.and_false])
      clear hla2 hck
      go_wp2_with fail
      refine HLA.out.mono ?_
      rintro e w' ⟨rfl, hw⟩
      obtain rfl := hw.symm
      go_wp2
      exact HP.out _ HB1.out HR.out
    · rw [hla2] at HLA
      have HGD := Lib.hid (show goodB v cs lits = true by unfold goodB; rw [hla2, decide_eq_true hck]; rfl)
      have HLV := Lib.hid (List.all_eq_true.1 hla2)
      have HCL := Lib.hid (fun c (hc : c ∈ cs) (x : Int) (hx : x ∈ c) => show litB v x = true by
        have := HOK.out.2.2.2 c hc x hx
        unfold litB
        rw [decide_eq_true_eq]
        have h2 := this.2
        unfold Cnf.absI at h2
        exact ⟨this.1, by omega, by omega⟩)
      clear hla2 hck
      have HBG := Lib.hid (begin_any v _ cs w1 HA1.out hv0 hv1 hn HOK.out.2.2.1 HCL.out)
      go_wp2_with fail
      refine HLA.out.mono ?_
      rintro e w' ⟨rfl, hw⟩
      obtain rfl := hw.symm
      go_wp2_with fail
      refine HBG.out.mono ?_
      rintro e w2 ⟨p, rdy, b, rfl, hcoh, hwk, hbase, hb2⟩
      have HCO := Lib.hid hcoh
      have HWK := Lib.hid hwk
      have HB2 := Lib.hid (below_step HB1.out hb2 HB1.out.size)
      have HBA : Hid (w.heap.size ≤ p.base) := Lib.hid (by rw [hbase]; exact HB1.out.size)
      have HS2 := Lib.hid (RdS.below HS1.out hb2)
      clear hcoh hwk hbase hb2 hd0 hd1 he0 he1 HLA HBG
      go_wp2
      go_loopw [23, 8] (fun kv _ wr => ∃ (k : Nat) (rdy : List Int) (b : Bool), k ≤ lits.length ∧ kv = .int .i64 k ∧ Hid (WalkAt p cs v wr (firstsI (lits.take k)) rdy b 6000000) ∧ Hid (Below w.heap.size w wr)) (fun kv _ _ => lits.length - (intOf kv).toNat)
      case atStart => exact ⟨0, rdy, b, by omega, rfl, HWK, HB2⟩
      case round =>
        clear HWK HB2 HS2
        obtain ⟨k, rdy, b, hk, rfl, HWK, HB⟩ := hrel
        by_cases hlt : k < lits.length
        · have HS3 := Lib.hid (RdS.below HS0.out HB.out)
          obtain ⟨ad, rfl, hcx⟩ := IRow.get HS3.out k hlt
          have hxm : lits.getD k 0 ∈ lits := by simp [List.getD, hlt]
          have HLX := Lib.hid (HLV.out _ hxm)
          have HT := Lib.hid (firsts_take lits k hlt)
          have hfl := firsts_len lits k hk
          obtain ⟨x, hx⟩ : ∃ x, x = lits.getD k 0 := ⟨_, rfl⟩
          rw [← hx] at hcx HLX HT
          clear hx hxm
          have hk' : (k : Int) < (lits.length : Int) := by omega
          have HAD := Lib.hid (wadd_any p cs v x (firstsI (lits.take k)) rdy b 6000000 wr HCO.out (WalkX.of HWK.out x) HLX.out (by omega) (by omega))
          go_wp2_with fail
          refine HAD.out.mono ?_
          rintro e w3 ⟨rfl, hb3, rdy3, b3, hw3⟩
          have HWK3 : Hid (WalkAt p cs v w3 (firstsI (lits.take (k + 1))) rdy3 b3 6000000) := Lib.hid (by rw [HT.out]; exact hw3)
          have HB3 : Hid (Below w.heap.size w w3) := Lib.hid (HB.out.trans (hb3.mono HBA.out))
          clear hb3 hw3 HAD
          go_wp2
          go_roundw
          case rel => exact ⟨k + 1, rdy3, b3, by omega, by go_num, HWK3, HB3⟩
          case measure => simp [intOf]; omega
        · have hk' : ¬ (k : Int) < (lits.length : Int) := by omega
          have h9 := HWK.out
          rw [List.take_of_length_le (show lits.length ≤ k by omega)] at h9
          have h8 := firsts_len lits lits.length (Nat.le_refl _)
          rw [List.take_of_length_le (Nat.le_refl _)] at h8
          have h7 := Cnf.open_len cs (firstsI lits)
          have HON := Lib.hid (won_any p cs v (firstsI lits) (firstsI lits) rdy b wr wr HCO.out ⟨h9, Below.refl _ _, rfl, by omega⟩)
          clear h9 h8 h7
          go_wp2_with fail
          refine HON.out.mono ?_
          rintro e w3 ⟨rfl, hb3, S, rdy3, b3, hw3, hun⟩
          obtain ⟨sf, rv, yv, hst, _⟩ := hw3.1
          have HST := Lib.hid hst
          have HB3 : Hid (Below w.heap.size w w3) := Lib.hid (HB.out.trans (hb3.mono HBA.out))
          have HUN := Lib.hid hun
          have HOW := Lib.hid (own_base hst.row HBA.out)
          have c5 := hst.cells.c5
          have c6 := hst.cells.c6
          obtain ⟨rA, rcap, rfl⟩ := own_form hst.row
          clear hst hb3 hw3 hun HON
          go_wp2
          go_quiet (fail)
          go_wp2
          exact HQ.out _ _ S b3 (below_drewN HB3.out _) HGD.out HUN.out (own_drewN HOW.out _)
  · have HR := Lib.hid (show goodB v cs lits = false by unfold goodB; rw [decide_eq_false hck, Bool.false_and])
    have hck' : (checkN v cs != 0) = true := by rw [bne_iff_ne]; exact hck
    generalize checkN v cs = q at *
    go_wp2_with fail
    exact HP.out _ HB1.out HR.out
end Go.Proofs.Ytapaoccpbcjgeaa
