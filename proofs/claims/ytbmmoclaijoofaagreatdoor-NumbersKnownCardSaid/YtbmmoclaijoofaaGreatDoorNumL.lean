/- numbers: Print. -/
import Derived.Test.YtbmmoclaijoofaaGreatDoorNumK
import Derived.Lib.LaidTab
set_option linter.unusedVariables false
set_option linter.unusedSimpArgs false
namespace Go.Proofs.YtbmmoclaijoofaaGreatDoor
open Go.RowKit Go.BigFrame
open Num (nanB sg rg rv sv tv key eqF ltF cmpI wd infR R53 P0 wholeR flN decS expS textR textN oddM oddE)

/-- The table that Itoa reads. -/
def TabW (w : World) : Prop := Lib.TabIs Tryz.prog w "internal/strconv.uint64pow10" .u64 Lib.pow10Tab
theorem gTab : Tryz.prog.globalNamed "internal/strconv.uint64pow10" = some 1 := by kernel_rfl
theorem TabW.lt {w : World} (h : TabW w) : 1 < w.heap.size := block_lt_of_cell (Lib.TabIs.cell h gTab 0 (by rw [Lib.pow10Tab_length]; decide))
theorem TabW.below {w w' : World} (h : TabW w) (hb : Below w.heap.size w w') : TabW w' := by
  have hlt := h.lt
  unfold TabW Lib.TabIs World.var? at *
  rw [gTab] at *
  simp only [Option.bind_some] at *
  rw [hb.block _ hlt]
  exact h
theorem below_grow (w : World) (q : Nat) (os : Array Obj) : Below w.heap.size w (Sort.grow (w.drewN q) os) := by
  have hb := below_drewN (Below.refl w.heap.size w) q
  refine ⟨hb.os, hb.tape, hb.output, ?_, fun k hk => ?_⟩
  · show w.heap.size ≤ ((w.drewN q).heap ++ os).size
    have := hb.size
    rw [Array.size_append]; omega
  · have h2 : k < (w.drewN q).heap.size := Nat.lt_of_lt_of_le hk hb.size
    show ((w.drewN q).heap ++ os)[k]? = w.heap[k]?
    rw [Array.getElem?_append_left h2]
    exact hb.block k hk
theorem step_below {w w1 w2 : World} (h : Below w.heap.size w w1) (h2 : Below w1.heap.size w1 w2) : Below w.heap.size w w2 := below_step h h2 h.size
theorem Num.twos_le : ∀ (f n : Nat), Num.twos f n ≤ f
  | 0, n => Nat.le_refl _
  | f + 1, n => by
    unfold Num.twos
    have := Num.twos_le f (n / 2)
    split <;> omega
theorem itoa_exp (e : Int) : (⟨(Lib.itoa e).toArray⟩ : ByteArray) = expS e := by
  unfold Lib.itoa Num.expS Num.decS
  by_cases h : e < 0
  · rw [if_pos h, if_pos h]
    apply str_ext
    rw [show e.natAbs = (-e).toNat by omega]
    simp
  · rw [if_neg h, if_neg h]
theorem itoa_nat (n : Nat) : (⟨(Lib.itoa (n : Int)).toArray⟩ : ByteArray) = decS n := by rw [itoa_exp]; unfold Num.expS; rw [if_neg (by omega), Int.toNat_natCast]
theorem itoa_is (e : Int) (h0 : -9223372036854775808 ≤ e) (h1 : e ≤ 9223372036854775807) (w : World) (ht : TabW w) : Calls Tryz.prog 33 #[.int .i64 e] w fun r w' => r = .returned (.string (expS e)) ∧ Below w.heap.size w w' :=
  (Tryz.strconv_Itoa e h0 h1 w ht).mono fun _ _ ⟨he, k, os, hw⟩ => ⟨by rw [he, itoa_exp], by rw [hw]; exact below_grow w k os⟩
theorem expS_nat (n : Nat) : expS (n : Int) = decS n := by unfold Num.expS; rw [if_neg (by omega), Int.toNat_natCast]
theorem nDigits_le : ∀ (k u : Nat), u < 10 ^ (k + 1) → Lib.nDigits u ≤ k + 1
  | 0, u, h => by rw [Lib.nDigits_small (by simpa using h)]; exact Nat.le_refl _
  | k + 1, u, h => by
    rw [Lib.nDigits]
    split
    · omega
    · have := nDigits_le k (u / 10) (by rw [Nat.pow_succ] at h; omega)
      omega
theorem decS_size (n : Nat) (h : n < 10 ^ 19) : (decS n).size ≤ 19 := by
  have := nDigits_le 18 n h
  rw [← Lib.decDigits_length] at this
  simpa [Num.decS, ByteArray.size] using this
theorem expS_size (e : Int) (h : e.natAbs < 10 ^ 19) : (expS e).size ≤ 20 := by
  unfold Num.expS
  split
  · rw [ByteArray.size_append]
    have := decS_size (-e).toNat (by omega)
    have e1 : (⟨#[45]⟩ : ByteArray).size = 1 := rfl
    omega
  · have := decS_size e.toNat (by omega)
    omega
def TextPost (s : ByteArray) (w : World) (e : Ending) (w' : World) : Prop := e = .returned (.string s) ∧ Below w.heap.size w w'
set_option maxRecDepth 100000 in
set_option maxHeartbeats 4000000 in
theorem print_pos (x : Nat) (w : World) (hx : x ≤ infR) (ht : TabW w) : Calls Tryz.prog 13 #[.float .f64 x] w (TextPost (textR x) w) := by
  have HP := Lib.hid (fun (s : ByteArray) (w' : World) (h : s = textR x) (hb : Below w.heap.size w w') => show TextPost (textR x) w (.returned (.string s)) w' from ⟨by rw [h], hb⟩)
  generalize TextPost (textR x) w = post at *
  have h63 : x < 2 ^ 63 := by have := Num.infR_lt; omega
  obtain ⟨hs, hr⟩ := Num.pos_bits h63
  have hn : nanB x = false := by unfold Num.nanB; rw [hr]; simp; omega
  have h1 := Num.ord_self x
  rw [hn] at h1
  have HBL := Lib.hid (below_any x w (by omega))
  rw [show Num.minusB x = false by unfold Num.minusB; rw [hs, Bool.and_false]] at HBL
  have HI := Lib.hid (isInf1_any x w hs)
  rw [hn, hr, Bool.not_false, Bool.true_and] at HI
  by_cases hi : x = infR
  · have HQ := Lib.hid (HP.out ⟨#[105, 110, 102]⟩ w (by unfold Num.textR; rw [if_pos hi]) (Below.refl _ _))
    rw [decide_eq_true hi] at HI
    clear hx ht h63 hs hr hn hi HP
    go_enter Tryz.func13, Tryz.ntmps13
    go_wp2_with fail
    refine HBL.out.mono ?_
    rintro e w' ⟨rfl, hw⟩
    obtain rfl := hw.symm
    go_wp2_with fail
    refine HI.out.mono ?_
    rintro e w' ⟨rfl, hw⟩
    obtain rfl := hw.symm
    go_wp2
    exact HQ.out
  · have hlt : x < infR := by omega
    rw [decide_eq_false hi] at HI
    have HW := Lib.hid (whole_any x w (by omega))
    unfold wholeI at HW
    rw [hs, hr] at HW
    have HT := Lib.hid (fun (e : Int) (h0 : -9223372036854775808 ≤ e) (h1 : e ≤ 9223372036854775807) (w1 : World) (h : Below w.heap.size w w1) => itoa_is e h0 h1 w1 (ht.below h))
    cases hw : wholeR x
    · have hx0 : 0 < x := by
        rcases Nat.eq_zero_or_pos x with h | h
        · subst h; rw [Num.wholeR_zero] at hw; cases hw
        · exact h
      have HTX := Lib.hid (show textR x = decS (oddM x) ++ ⟨#[112]⟩ ++ expS ((oddE x : Int) - 1074) by unfold Num.textR; rw [if_neg hi, hw]; rfl)
      rw [hw] at HW
      have HFX := Lib.hid (Frexp_any x w hx0 hlt)
      unfold FrexpPost at HFX
      have HOE := Lib.hid (fun (m a b : Nat) (h : m * 2 ^ a = rv x * 2 ^ b) (hm : m % 2 = 1) => Num.odd_end hx0 h hm)
      have HOM := Lib.hid (Num.oddM_lt x)
      have HOEl := Lib.hid (show oddE x ≤ 2200 by
        have h2 := Num.twos_le 53 (Num.mag x)
        have h3 : x / 2 ^ 52 ≤ 2047 := by have : infR = 2047 * 2 ^ 52 := rfl; omega
        unfold Num.oddE Num.up
        split <;> omega)
      clear hx ht h63 hs hr hn hi hlt hw hx0
      go_enter Tryz.func13, Tryz.ntmps13
      go_wp2_with fail
      refine HBL.out.mono ?_
      rintro e w' ⟨rfl, hw⟩
      obtain rfl := hw.symm
      go_wp2_with fail
      refine HI.out.mono ?_
      rintro e w' ⟨rfl, hw⟩
      obtain rfl := hw.symm
      go_wp2_with fail
      refine HW.out.mono ?_
      rintro e w' ⟨rfl, hw⟩
      obtain rfl := hw.symm
      go_wp2_with fail
      refine HFX.out.mono ?_
      rintro e w' ⟨⟨rn, s, rfl, hpt⟩, hw⟩
      obtain rfl := hw.symm
      obtain ⟨G, hG1, hG2⟩ := Num.part_mul (rn % 4503599627370496) (Nat.mod_lt _ (by decide))
      have hmu := fun w => run_float_arith (P := Tryz.prog) w .mul 25 .f64 _ 4845873199050653696 G hG1
      have hcv := fun w => run_convert_float_int (P := Tryz.prog) w 25 3 .f64 .i64 G _ (by kernel_rfl) Tryz.underlying3 hG2
      have HEQ := Lib.hid (show (2 ^ 52 + rn % 4503599627370496) * 2 ^ (rn / 4503599627370496 - 1) = rv x * 2 ^ s by rw [← hpt.eq, Num.rv_norm hpt.lo])
      have hq1 : 1 ≤ rn / 4503599627370496 := by have := hpt.lo; omega
      have hq2 : rn / 4503599627370496 < 2047 := by have := hpt.hi; have : infR = 2047 * 2 ^ 52 := rfl; omega
      have hs52 := hpt.s52
      have hM0 : 2 ^ 52 + rn % 4503599627370496 < 2 ^ 53 := by have := Nat.mod_lt rn (show 0 < 4503599627370496 by decide); omega
      obtain ⟨M, hM⟩ : ∃ M, M = 2 ^ 52 + rn % 4503599627370496 := ⟨_, rfl⟩
      rw [← hM] at hcv HEQ hM0
      have hMp : 0 < M := by omega
      clear hG1 hG2 hpt hM
      generalize Num.partF (rn % 4503599627370496) = F at *
      generalize rn / 4503599627370496 = q at *
      go_wp2
      go_loopw [6, 7] (fun ev mv wr => ∃ (m j : Nat), mv = .int .i64 (m : Int) ∧ ev = .int .i64 ((q : Int) - 1022 - (s : Int) - 53 + (j : Int)) ∧ wr = w ∧ m < 2 ^ 53 ∧ 0 < m ∧ j ≤ 53 ∧ Hid (m * 2 ^ j = M)) (fun _ mv _ => (intOf mv).toNat)
      case atStart => exact ⟨M, 0, rfl, by congr 1; omega, rfl, hM0, hMp, by omega, Lib.hid (by rw [Nat.pow_zero, Nat.mul_one])⟩
      case round =>
        obtain ⟨m, j, rfl, rfl, hwr, hm53, hm0, hj, HMJ⟩ := hrel
        obtain rfl := hwr.symm
        by_cases hev : m % 2 = 0
        · have hei : (m : Int) % 2 = 0 := by omega
          have HM2 := Lib.hid (show m / 2 * 2 ^ (j + 1) = M by
            rw [Nat.pow_succ, Nat.mul_comm (2 ^ j) 2, ← Nat.mul_assoc, show m / 2 * 2 = m by omega]; exact HMJ.out)
          have hj2 : j + 1 ≤ 53 := by
            rcases Nat.lt_or_ge j 53 with h | h
            · omega
            · exfalso
              have h2 := HMJ.out
              have h3 : 2 ^ 53 ≤ m * 2 ^ j := Nat.le_trans (Nat.pow_le_pow_right (by decide) h) (Nat.le_mul_of_pos_left _ hm0)
              omega
          go_wp2
          go_roundw
          case rel => exact ⟨m / 2, j + 1, by go_num, by go_num, by trivial, by omega, by omega, hj2, HM2⟩
          case measure => simp [intOf]; omega
        · have hei : ¬ (m : Int) % 2 = 0 := by omega
          obtain ⟨ho1, ho2⟩ := HOE.out m (j + (q - 1)) s (by rw [Nat.pow_add, ← Nat.mul_assoc, HMJ.out]; exact HEQ.out) (by omega)
          have HT1 := Lib.hid (HT.out (m : Int) (by omega) (by omega) w (Below.refl _ _))
          rw [expS_nat] at HT1
          have hee : (q : Int) - 1022 - (s : Int) - 53 + (j : Int) = (oddE x : Int) - 1074 := by omega
          rw [hee]
          have hol := HOEl.out
          have HT2 := Lib.hid (HT.out ((oddE x : Int) - 1074) (by omega) (by omega))
          have hz1 := decS_size m (by omega)
          have hz2 := expS_size ((oddE x : Int) - 1074) (by omega)
          have HFIN := Lib.hid (show decS m ++ ⟨#[112]⟩ ++ expS ((oddE x : Int) - 1074) = textR x by rw [HTX.out, ho1])
          clear hev HMJ HEQ HOE ho1 ho2 hee hol
          generalize (oddE x : Int) - 1074 = E at *
          generalize decS m = s1 at *
          generalize expS E = s2 at *
          go_wp2_with fail
          refine HT1.out.mono ?_
          rintro e w1 ⟨rfl, hb1⟩
          have HB1 := Lib.hid hb1
          clear hb1
          go_wp2_with fail
          refine (HT2.out w1 HB1.out).mono ?_
          rintro e w2 ⟨rfl, hb2⟩
          have HB2 := Lib.hid (step_below HB1.out hb2)
          clear hb2
          go_wp2
          exact HP.out _ w2 HFIN.out HB2.out
    · have hb := (Num.tv_of hw).2
      have HTX := Lib.hid (show textR x = decS (tv x) by unfold Num.textR; rw [if_neg hi, hw]; rfl)
      rw [hw] at HW
      have HT1 := Lib.hid (HT.out (tv x : Int) (by omega) (by omega) w (Below.refl _ _))
      rw [expS_nat] at HT1
      clear hx ht h63 hs hr hn hi hlt hw
      have hvi : (if true = true then valI false (tv x) else 0) = (tv x : Int) := rfl
      rw [hvi] at HW
      generalize tv x = n at *
      go_enter Tryz.func13, Tryz.ntmps13
      go_wp2_with fail
      refine HBL.out.mono ?_
      rintro e w' ⟨rfl, hw⟩
      obtain rfl := hw.symm
      go_wp2_with fail
      refine HI.out.mono ?_
      rintro e w' ⟨rfl, hw⟩
      obtain rfl := hw.symm
      go_wp2_with fail
      refine HW.out.mono ?_
      rintro e w' ⟨rfl, hw⟩
      obtain rfl := hw.symm
      go_wp2_with fail
      refine HT1.out.mono ?_
      rintro e w1 ⟨rfl, hb1⟩
      have HB1 := Lib.hid hb1
      clear hb1
      go_wp2
      exact HP.out _ w1 HTX.out.symm HB1.out
theorem textR_size {x : Nat} (hx : x ≤ infR) : (textR x).size ≤ 60 := by
  unfold Num.textR
  split
  · decide
  · split
    · rename_i h
      have := decS_size (tv x) (by have := (Num.tv_of h).2; omega)
      omega
    · have h1 := decS_size (oddM x) (by have := Num.oddM_lt x; omega)
      have h2 : oddE x ≤ 2200 := by
        have h2 := Num.twos_le 53 (Num.mag x)
        have h3 : x / 2 ^ 52 ≤ 2047 := by have : infR = 2047 * 2 ^ 52 := rfl; omega
        unfold Num.oddE Num.up
        split <;> omega
      have h3 := expS_size ((oddE x : Int) - 1074) (by omega)
      rw [ByteArray.size_append, ByteArray.size_append]
      have e1 : (⟨#[112]⟩ : ByteArray).size = 1 := rfl
      omega
set_option maxRecDepth 100000 in
set_option maxHeartbeats 1600000 in
theorem print_any (x : Nat) (w : World) (hx : x < 2 ^ 64) (ht : TabW w) : Calls Tryz.prog 13 #[.float .f64 x] w (TextPost (textN x) w) := by
  cases hn : nanB x
  · have hle : rg x ≤ infR := by unfold Num.nanB at hn; rw [decide_eq_false_iff_not] at hn; omega
    cases hs : sg x
    · have hxr : rg x = x := by have := Num.wd_of hx; rw [hs] at this; exact this
      have hp := print_pos x w (by omega) ht
      have e : textN x = textR x := by unfold Num.textN; rw [hn, hs, hxr]; rfl
      rw [e]
      exact hp
    · have HTX := Lib.hid (show textN x = ⟨#[45]⟩ ++ textR (rg x) by unfold Num.textN; rw [hn, hs]; rfl)
      have HP := Lib.hid (fun (s : ByteArray) (w' : World) (h : s = textN x) (hb : Below w.heap.size w w') => show TextPost (textN x) w (.returned (.string s)) w' from ⟨by rw [h], hb⟩)
      generalize TextPost (textN x) w = post at *
      have h1 := Num.ord_self x
      rw [hn] at h1
      have HBL := Lib.hid (below_any x w hx)
      rw [show Num.minusB x = true by unfold Num.minusB; rw [hn, hs]; rfl] at HBL
      have hng := fun w => run_neg (P := Tryz.prog) x _ (Num.neg_bits hx) w
      rw [hs, Bool.not_true, Num.wd_false] at hng
      have HR := Lib.hid (print_pos (rg x) w hle ht)
      unfold TextPost at HR
      have hz := textR_size hle
      clear hn hle hs hx ht
      generalize textR (rg x) = s at *
      generalize rg x = r at *
      go_enter Tryz.func13, Tryz.ntmps13
      go_wp2_with fail
      refine HBL.out.mono ?_
      rintro e w' ⟨rfl, hw⟩
      obtain rfl := hw.symm
      go_wp2_with fail
      refine HR.out.mono ?_
      rintro e w1 ⟨rfl, hb1⟩
      have HB1 := Lib.hid hb1
      clear hb1
      go_wp2
      exact HP.out _ w1 HTX.out.symm HB1.out
  · have HQ := Lib.hid (show TextPost (textN x) w (.returned (.string ⟨#[110, 97, 110]⟩)) w from ⟨by unfold Num.textN; rw [hn]; rfl, Below.refl _ _⟩)
    generalize TextPost (textN x) w = post at *
    have h1 := Num.ord_self x
    rw [hn] at h1
    clear hn hx ht
    go_enter Tryz.func13, Tryz.ntmps13
    go_wp2
    exact HQ.out
end Go.Proofs.YtbmmoclaijoofaaGreatDoor
