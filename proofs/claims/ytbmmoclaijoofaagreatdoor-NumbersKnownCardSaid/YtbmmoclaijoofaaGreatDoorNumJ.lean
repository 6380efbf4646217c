/- numbers: Down of both. -/
import Derived.Test.YtbmmoclaijoofaaGreatDoorNumI
set_option linter.unusedVariables false
set_option linter.unusedSimpArgs false
namespace Go.Proofs.YtbmmoclaijoofaaGreatDoor
open Go.RowKit Go.BigFrame
open Num (nanB sg rg rv sv tv key eqF ltF cmpI wd infR R53 P0 wholeR flN)

/-- The greatest whole number not above x. -/
structure DownIs (x r : Nat) : Prop where
  lt : r < 2 ^ 64
  nan : nanB x = true → nanB r = true
  inf : rg x = infR → r = x
  fin : rg x < infR → ∃ rt, rt < infR ∧ rv rt = flN (sg x) (rg x) * P0 ∧ r = wd (sg x) rt
theorem DownIs.same {x r s : Nat} (h1 : DownIs x r) (h2 : DownIs x s) : sameF r s = true := by
  unfold sameF
  rw [decide_eq_true_eq]
  cases hn : nanB x with
  | true => rw [Num.key_nan (h1.nan hn), Num.key_nan (h2.nan hn)]
  | false =>
    have hle : rg x ≤ infR := by unfold Num.nanB at hn; rw [decide_eq_false_iff_not] at hn; omega
    rcases Nat.lt_or_ge (rg x) infR with h | h
    · obtain ⟨a, _, ha, rfl⟩ := h1.fin h
      obtain ⟨b, _, hb, rfl⟩ := h2.fin h
      rw [Num.rv_inj.1 (ha.trans hb.symm)]
    · rw [h1.inf (by omega), h2.inf (by omega)]
/-- The floor of a finite one has a rung. -/
theorem floor_rung {x : Nat} (h : rg x < infR) : ∃ rt, rt < infR ∧ rv rt = flN (sg x) (rg x) * P0 := by
  rcases Nat.lt_or_ge (rg x) R53 with h1 | h1
  · have h2 := Num.rung_53.1 h1
    obtain ⟨r, a, _, b⟩ := Num.int_rung (flN (sg x) (rg x)) (by unfold Num.flN; split <;> omega)
    exact ⟨r, a, b⟩
  · refine ⟨rg x, h, ?_⟩
    have h2 := Num.whole_above h1
    unfold Num.flN
    rw [decide_eq_false (by simpa using h2), Bool.and_false, if_neg (by simp)]
    exact h2
section
attribute [local irreducible] Go.FloatKind.decode
theorem toI_nan {P : Program} (name : String) (way : Ieee.Toward) (b : Nat) (w : World) (s : Bool) (t : Nat) (h : FloatKind.f64.decode b = .nan s t) :
    ∃ r w', (r = b ∨ r = FloatKind.f64.encode (.nan s (FloatKind.f64.format.quiet t))) ∧ Below w.heap.size w w' ∧ (Extern.MathFloor.toIntegral name way #[.float .f64 b]).run P w = .ok (.float .f64 r) w' := by
  conv => enter [1, r, 1, w', 2, 2, 1, 2]; whnf
  rw [h]
  dsimp only
  by_cases hq : FloatKind.f64.format.quiet t = t
  · exact ⟨b, w, .inl rfl, Below.refl _ _, by rw [if_pos hq]; rfl⟩
  · rw [if_neg hq]
    obtain ⟨k, hk⟩ : ∃ k, k = (Question.extern "math.Floor,Ceil,Trunc,RoundToEven.signallingNaN kept" 2).cut (w.tape w.drawn (Question.extern "math.Floor,Ceil,Trunc,RoundToEven.signallingNaN kept" 2)) := ⟨_, rfl⟩
    have hf : (Question.extern "math.Floor,Ceil,Trunc,RoundToEven.signallingNaN kept" 2).forced = false := rfl
    by_cases h1 : k = 1
    · exact ⟨b, w.drew, .inl rfl, (Below.refl _ _).drew, by simp [Sem.run_bind, hf, ← hk, h1]⟩
    · exact ⟨_, w.drew, .inr rfl, (Below.refl _ _).drew, by simp [Sem.run_bind, hf, ← hk, h1]⟩
end
theorem quiet_nan (s : Bool) (t : Nat) (h : t < 2 ^ 52) : nanB (Ieee.double.write (.nan s (Ieee.double.quiet t))) = true ∧ Ieee.double.write (.nan s (Ieee.double.quiet t)) < 2 ^ 64 := by
  have hq : Ieee.double.quiet t < 2 ^ 52 := by
    unfold Ieee.Format.quiet
    exact Nat.or_lt_two_pow h (by decide)
  have hq0 : 0 < Ieee.double.quiet t := by
    unfold Ieee.Format.quiet
    have : 2 ^ 51 ≤ t ||| 2 ^ 51 := Nat.right_le_or
    change 0 < t ||| 2 ^ 51
    omega
  generalize Ieee.double.quiet t = q at *
  unfold Ieee.Format.write
  dsimp only
  rw [Num.word_is, Num.d_inf, Num.d_binade, Nat.mod_eq_of_lt hq]
  have hi : infR = 2047 * 2 ^ 52 := rfl
  have hl : infR + q < 2 ^ 63 := by omega
  refine ⟨?_, Num.wd_lt _ hl⟩
  unfold Num.nanB
  rw [Num.rg_wd _ hl]
  simp; omega
theorem floorNaN (x : Nat) (w : World) (hx : x < 2 ^ 64) (hn : nanB x = true) : ∃ r w', nanB r = true ∧ r < 2 ^ 64 ∧ Below w.heap.size w w' ∧ (callFunc 63 #[.float .f64 x]).run Tryz.prog w = .ok (.value (.float .f64 r)) w' := by
  have h1 : infR < rg x := by unfold Num.nanB at hn; rw [decide_eq_true_eq] at hn; exact hn
  have h2 := Num.rg_lt x
  have hi : infR = 2047 * 2 ^ 52 := rfl
  obtain ⟨r, w', hr, hb, hrun⟩ := toI_nan (P := Tryz.prog) "math.archFloor" .down x w (sg x) (rg x - infR) (Num.read_nan x h1)
  have hq := quiet_nan (sg x) (rg x - infR) (by omega)
  refine ⟨r, w', ?_, ?_, hb, ?_⟩
  · rcases hr with rfl | rfl
    · exact hn
    · exact hq.1
  · rcases hr with rfl | rfl
    · exact hx
    · exact hq.2
  · rw [run_callFunc_extern (e := Extern.MathFloor.toIntegral "math.archFloor" .down) Tryz.func63 (by kernel_rfl) (by kernel_rfl) (by kernel_rfl) (by kernel_rfl), hrun]
    rfl
theorem floorInf (x : Nat) (w : World) (hx : x < 2 ^ 64) (h : rg x = infR) : (callFunc 63 #[.float .f64 x]).run Tryz.prog w = .ok (.value (.float .f64 x)) w := by
  rw [run_archFloor x w (by unfold Num.nanB; rw [h]; simp), Num.read_inf x h]
  have : Ieee.double.write (Ieee.Datum.integral .down (.infinity (sg x))) = x := by
    show Ieee.double.word (sg x) infR = x
    rw [Num.word_is, ← h]
    exact Num.wd_of hx
  rw [this]
def DownPost (x : Nat) (w : World) (e : Ending) (w' : World) : Prop := ∃ r, e = .returned (.float .f64 r) ∧ DownIs x r ∧ Below w.heap.size w w'
set_option maxRecDepth 100000 in
set_option maxHeartbeats 800000 in
theorem mathFloor_any (x : Nat) (w : World) (hx : x < 2 ^ 64) : Calls Tryz.prog 44 #[.float .f64 x] w (DownPost x w) := by
  cases hn : nanB x with
  | true =>
    obtain ⟨r, w', h1, h2, hb, hrun⟩ := floorNaN x w hx hn
    have h3 : infR < rg x := by unfold Num.nanB at hn; rw [decide_eq_true_eq] at hn; exact hn
    have HQ := Lib.hid (show DownPost x w (.returned (.float .f64 r)) w' from ⟨r, rfl, ⟨h2, fun _ => h1, fun h => by omega, fun h => by omega⟩, hb⟩)
    generalize DownPost x w = post at *
    clear hn h1 h2 hb h3
    go_enter Tryz.func44, Tryz.ntmps44
    go_wp2
    exact HQ.out
  | false =>
    by_cases hi : rg x = infR
    · have hrun := fun w => floorInf x w hx hi
      have HQ := Lib.hid (show DownPost x w (.returned (.float .f64 x)) w from ⟨x, rfl, ⟨hx, fun h => (by rw [hn] at h; cases h), fun _ => rfl, fun h => by omega⟩, Below.refl _ _⟩)
      generalize DownPost x w = post at *
      clear hn hi
      go_enter Tryz.func44, Tryz.ntmps44
      go_wp2
      exact HQ.out
    · have hlt : rg x < infR := by unfold Num.nanB at hn; rw [decide_eq_false_iff_not] at hn; omega
      obtain ⟨rt, h1, h2⟩ := floor_rung hlt
      refine (floor_any x rt w hn hlt h1 h2).mono ?_
      rintro e w' ⟨rfl, rfl⟩
      exact ⟨_, rfl, ⟨Num.wd_lt _ (Num.lt_big h1), fun h => (by rw [hn] at h; cases h), fun h => by omega, fun _ => ⟨rt, h1, h2, rfl⟩⟩, Below.refl _ _⟩
theorem down_any (x : Nat) (w : World) (hx : x < 2 ^ 64) : Calls Tryz.prog 19 #[.float .f64 x] w (DownPost x w) := by
  have HM := Lib.hid (mathFloor_any x w hx)
  unfold DownPost at HM
  have HP := Lib.hid (fun (r : Nat) (w' : World) (h : DownIs x r) (hb : Below w.heap.size w w') => show DownPost x w (.returned (.float .f64 r)) w' from ⟨r, rfl, h, hb⟩)
  generalize DownPost x w = post at *
  clear hx
  go_enter Tryz.func19, Tryz.ntmps19
  go_wp2_with fail
  refine HM.out.mono ?_
  rintro e w' ⟨r, rfl, hd, hb⟩
  have HQ := Lib.hid (HP.out r w' hd hb)
  clear hd hb
  go_wp2
  exact HQ.out
/-- Of what has no part behind the point, itself. -/
theorem down_self {x : Nat} (hx : x < 2 ^ 64) (h : nanB x = true ∨ ¬ rg x < infR ∨ rg x = 0 ∨ R53 ≤ rg x) : DownIs x x := by
  refine ⟨hx, fun h => h, fun _ => rfl, fun hf => ?_⟩
  have key : rv (rg x) = tv (rg x) * P0 := by
    rcases h with h | h | h | h
    · rw [Num.finite_nan hf] at h; cases h
    · exact absurd hf h
    · rw [h, Num.tv_zero, Num.rv_zero, Nat.zero_mul]
    · exact Num.whole_above h
  refine ⟨rg x, hf, ?_, (Num.wd_of hx).symm⟩
  unfold Num.flN
  rw [decide_eq_false (by simpa using key), Bool.and_false, if_neg (by simp)]
  exact key
theorem low_facts {x : Nat} (hn : nanB x = false) (hx : x < 2 ^ 64) (hlt : rg x < R53) (hz : ¬ rg x = 0) : ∃ (n : Int) (y : Nat), Go.floatToIntVal .f64 x .i64 = some n ∧ Go.floatOfInt .f64 n = y ∧
    ((ltF x y = false ∧ DownIs x y) ∨ (ltF x y = true ∧ ∃ z, Go.floatBits .sub .f64 y 4607182418800017408 = some z ∧ DownIs x z)) := by
  have htv := Num.rung_53.1 hlt
  have hinf : rg x < infR := by have := Num.R53_lt; omega
  obtain ⟨rt, hr1, _, hr2⟩ := Num.int_rung (tv (rg x)) (by omega)
  have hr63 := Num.lt_big hr1
  have hp0 := Num.P0_pos
  have htle : rv rt ≤ rv (rg x) := by rw [hr2]; exact Nat.div_mul_le_self _ _
  have hcv := Num.float_int x hinf (by omega)
  cases hs : sg x
  · refine ⟨(tv (rg x) : Int), wd false rt, ?_, ?_, .inl ⟨?_, ?_⟩⟩
    · rw [hcv, hs]; simp
    · rw [Num.int_float (tv (rg x) : Int) rt hr1 (by rw [hr2, Int.natAbs_natCast]), decide_eq_false (by omega)]
    · rw [Num.ltF_num hn (Num.nan_not _ hr1), decide_eq_false_iff_not]
      unfold Num.sv
      rw [hs, Num.sg_wd _ hr63, Num.rg_wd _ hr63]
      simp only [Bool.false_eq_true, if_false]; omega
    · refine ⟨Num.wd_lt _ hr63, fun h => (by rw [hn] at h; cases h), fun h => by omega, fun _ => ⟨rt, hr1, ?_, by rw [hs]⟩⟩
      rw [hr2, hs]; unfold Num.flN; rw [Bool.false_and, if_neg (by simp)]
  · obtain ⟨sn, hsn⟩ : ∃ sn, sn = decide (-(tv (rg x) : Int) < 0) := ⟨_, rfl⟩
    have hfo : Go.floatOfInt .f64 (-(tv (rg x) : Int)) = wd sn rt := by
      rw [Num.int_float (-(tv (rg x) : Int)) rt hr1 (by rw [hr2, Int.natAbs_neg, Int.natAbs_natCast]), hsn]
    have hsv : sv (wd sn rt) = -((tv (rg x) * P0 : Nat) : Int) := by
      unfold Num.sv
      rw [Num.sg_wd _ hr63, Num.rg_wd _ hr63, hr2]
      cases sn
      · have h0 : tv (rg x) = 0 := by have := of_decide_eq_false hsn.symm; omega
        rw [h0]; simp
      · simp
    have hsx : sv x = -(rv (rg x) : Int) := by unfold Num.sv; rw [hs, if_pos rfl]
    have hrx : 0 < rv (rg x) := Num.rv_pos.2 (by omega)
    refine ⟨-(tv (rg x) : Int), wd sn rt, by rw [hcv, hs]; simp, hfo, ?_⟩
    rw [Num.ltF_num hn (Num.nan_not _ hr1), hsv, hsx]
    by_cases hw : rv (rg x) = tv (rg x) * P0
    · have hsn1 : sn = true := by
        rw [hsn, decide_eq_true_eq]
        rcases Nat.eq_zero_or_pos (tv (rg x)) with h0 | h0
        · rw [h0, Nat.zero_mul] at hw; omega
        · omega
      refine .inl ⟨by rw [decide_eq_false_iff_not, hw]; omega, Num.wd_lt _ hr63, fun h => (by rw [hn] at h; cases h), fun h => by omega, fun _ => ⟨rt, hr1, ?_, by rw [hs, hsn1]⟩⟩
      rw [hr2, hs]; unfold Num.flN; rw [decide_eq_false (by simpa using hw), Bool.and_false, if_neg (by simp)]
    · obtain ⟨ru, hu1, _, hu2⟩ := Num.int_rung (tv (rg x) + 1) (by omega)
      have hone : sv (wd (!sg Num.ONE) (rg Num.ONE)) = -(P0 : Int) := by
        rw [Num.sv_neg]; unfold Num.sv; rw [Num.sg_one, Num.rg_one, Num.rv_one, if_neg (by simp)]
      have hsum : sv (wd sn rt) + sv (wd (!sg Num.ONE) (rg Num.ONE)) = -(((tv (rg x) + 1) * P0 : Nat) : Int) := by
        rw [hsv, hone, Nat.add_mul, Nat.one_mul]; omega
      have hsub : Ieee.double.sub (wd sn rt) Num.ONE = some (wd true ru) := by
        have ho1 := Num.rg_lt Num.ONE
        rw [Num.sub_is _ _ (by rw [Num.rg_one]; exact Num.one_lt), Num.add_exact _ _ ru (by rw [Num.rg_wd _ hr63]; exact hr1) (by rw [Num.rg_wd _ ho1, Num.rg_one]; exact Num.one_lt) hu1 (by rw [hsum, hu2, Int.natAbs_neg, Int.natAbs_natCast]), hsum]
        have hpos : 0 < (tv (rg x) + 1) * P0 := Nat.mul_pos (by omega) hp0
        rw [if_neg (by omega), decide_eq_true (by omega)]
      refine .inr ⟨by rw [decide_eq_true_eq]; omega, wd true ru, hsub, Num.wd_lt _ (Num.lt_big hu1), fun h => (by rw [hn] at h; cases h), fun h => by omega, fun _ => ⟨ru, hu1, ?_, by rw [hs]⟩⟩
      rw [hu2, hs]; unfold Num.flN; rw [decide_eq_true (by simpa using hw), Bool.and_true, if_pos rfl]
set_option maxRecDepth 100000 in
set_option maxHeartbeats 3200000 in
theorem refDown_any (x : Nat) (w : World) (hx : x < 2 ^ 64) : Calls Tryz.prog 21 #[.float .f64 x] w (DownPost x w) := by
  have HP := Lib.hid (fun (r : Nat) (w' : World) (h : DownIs x r) (hb : Below w.heap.size w w') => show DownPost x w (.returned (.float .f64 r)) w' from ⟨r, rfl, h, hb⟩)
  generalize DownPost x w = post at *
  have HN := Lib.hid (nan_any x w)
  have HF := Lib.hid (finite_any x w)
  have HBG := Lib.hid (fun w => big_any w)
  have h1 := Num.ord_eq x 0
  cases hn : nanB x
  · rw [hn] at HN
    rw [Num.eq_zero hn] at h1
    by_cases hf : rg x < infR
    · rw [decide_eq_true hf] at HF
      by_cases hz : rg x = 0
      · have HS := Lib.hid (down_self hx (.inr (.inr (.inl hz))))
        rw [decide_eq_true hz] at h1
        clear hn hf hz hx
        go_enter Tryz.func21, Tryz.ntmps21
        go_wp2_with fail
        refine HN.out.mono ?_
        rintro e w' ⟨rfl, hw⟩
        obtain rfl := hw.symm
        go_wp2_with fail
        refine HF.out.mono ?_
        rintro e wf ⟨rfl, hbf⟩
        have HBF := Lib.hid hbf
        clear hbf
        have HQ := Lib.hid (HP.out x wf HS.out HBF.out)
        go_wp2
        exact HQ.out
      · rw [decide_eq_false hz] at h1
        have h63 := Num.rg_lt x
        have h2 := (Num.cmp_ge x R53).trans (Num.ge_big hn)
        have h3 := (Num.cmp_ge (wd (!sg x) (rg x)) R53).trans (Num.ge_big (by rw [Num.neg_nan, hn]))
        rw [Num.sg_wd _ h63, Num.rg_wd _ h63, Bool.not_not, ← Num.R53_is] at h3
        rw [← Num.R53_is] at h2
        have hng := fun w => run_neg (P := Tryz.prog) x _ (Num.neg_bits hx) w
        by_cases hb : R53 ≤ rg x
        · have HS := Lib.hid (down_self hx (.inr (.inr (.inr hb))))
          rw [show decide (4845873199050653696 ≤ rg x) = true from decide_eq_true (by have := Num.R53_is; omega), Bool.and_true] at h2 h3
          clear hn hf hz hx hb h63
          cases hs : sg x
          · rw [hs] at h2
            clear hs h3 hng
            go_enter Tryz.func21, Tryz.ntmps21
            go_wp2_with fail
            refine HN.out.mono ?_
            rintro e w' ⟨rfl, hw⟩
            obtain rfl := hw.symm
            go_wp2_with fail
            refine HF.out.mono ?_
            rintro e wf ⟨rfl, hbf⟩
            have HBF := Lib.hid hbf
            clear hbf
            go_wp2_with fail
            refine (HBG.out wf).mono ?_
            rintro e w' ⟨rfl, hw⟩
            obtain rfl := hw.symm
            have HQ := Lib.hid (HP.out x wf HS.out HBF.out)
            go_wp2
            exact HQ.out
          · rw [hs] at h2 h3 hng
            clear hs
            generalize wd (!true) (rg x) = y at *
            go_enter Tryz.func21, Tryz.ntmps21
            go_wp2_with fail
            refine HN.out.mono ?_
            rintro e w' ⟨rfl, hw⟩
            obtain rfl := hw.symm
            go_wp2_with fail
            refine HF.out.mono ?_
            rintro e wf ⟨rfl, hbf⟩
            have HBF := Lib.hid hbf
            clear hbf
            go_wp2_with fail
            refine (HBG.out wf).mono ?_
            rintro e w' ⟨rfl, hw⟩
            obtain rfl := hw.symm
            go_wp2_with fail
            refine (HBG.out wf).mono ?_
            rintro e w' ⟨rfl, hw⟩
            obtain rfl := hw.symm
            have HQ := Lib.hid (HP.out x wf HS.out HBF.out)
            go_wp2
            exact HQ.out
        · have hlt : rg x < R53 := by omega
          rw [show decide (4845873199050653696 ≤ rg x) = false from decide_eq_false (by have := Num.R53_is; omega), Bool.and_false] at h2 h3
          obtain ⟨n, y, hcv, hfo, hlow⟩ := low_facts hn hx hlt hz
          have hc := fun w => run_convert_float_int (P := Tryz.prog) w 25 3 .f64 .i64 x n (by kernel_rfl) Tryz.underlying3 hcv
          have hf2 := fun w => (run_convert_int_float (P := Tryz.prog) w 3 25 .i64 .f64 n (by kernel_rfl) Tryz.underlying25).trans (by rw [hfo])
          have h4 := Num.ord_gt y x
          generalize wd (!sg x) (rg x) = yg at *
          rcases hlow with ⟨hl, hd⟩ | ⟨hl, z, hsub, hd⟩
          · rw [hl] at h4
            have HS := Lib.hid hd
            clear hn hf hz hx hb h63 hlt hcv hfo hl hd
            go_enter Tryz.func21, Tryz.ntmps21
            go_wp2_with fail
            refine HN.out.mono ?_
            rintro e w' ⟨rfl, hw⟩
            obtain rfl := hw.symm
            go_wp2_with fail
            refine HF.out.mono ?_
            rintro e wf ⟨rfl, hbf⟩
            have HBF := Lib.hid hbf
            clear hbf
            go_wp2_with fail
            refine (HBG.out wf).mono ?_
            rintro e w' ⟨rfl, hw⟩
            obtain rfl := hw.symm
            go_wp2_with fail
            refine (HBG.out wf).mono ?_
            rintro e w' ⟨rfl, hw⟩
            obtain rfl := hw.symm
            have HQ := Lib.hid (HP.out y wf HS.out HBF.out)
            go_wp2
            exact HQ.out
          · rw [hl] at h4
            have hrs := fun w => run_float_arith (P := Tryz.prog) w .sub 25 .f64 _ _ _ hsub
            have HS := Lib.hid hd
            clear hn hf hz hx hb h63 hlt hcv hfo hl hd hsub
            go_enter Tryz.func21, Tryz.ntmps21
            go_wp2_with fail
            refine HN.out.mono ?_
            rintro e w' ⟨rfl, hw⟩
            obtain rfl := hw.symm
            go_wp2_with fail
            refine HF.out.mono ?_
            rintro e wf ⟨rfl, hbf⟩
            have HBF := Lib.hid hbf
            clear hbf
            go_wp2_with fail
            refine (HBG.out wf).mono ?_
            rintro e w' ⟨rfl, hw⟩
            obtain rfl := hw.symm
            go_wp2_with fail
            refine (HBG.out wf).mono ?_
            rintro e w' ⟨rfl, hw⟩
            obtain rfl := hw.symm
            have HQ := Lib.hid (HP.out z wf HS.out HBF.out)
            go_wp2
            exact HQ.out
    · rw [decide_eq_false hf] at HF
      have HS := Lib.hid (down_self hx (.inr (.inl hf)))
      clear hn hf hx h1
      go_enter Tryz.func21, Tryz.ntmps21
      go_wp2_with fail
      refine HN.out.mono ?_
      rintro e w' ⟨rfl, hw⟩
      obtain rfl := hw.symm
      go_wp2_with fail
      refine HF.out.mono ?_
      rintro e wf ⟨rfl, hbf⟩
      have HBF := Lib.hid hbf
      clear hbf
      have HQ := Lib.hid (HP.out x wf HS.out HBF.out)
      go_wp2
      exact HQ.out
  · rw [hn] at HN
    have HQ := Lib.hid (HP.out x w (down_self hx (.inl hn)) (Below.refl _ _))
    clear hn hx h1
    go_enter Tryz.func21, Tryz.ntmps21
    go_wp2_with fail
    refine HN.out.mono ?_
    rintro e w' ⟨rfl, hw⟩
    obtain rfl := hw.symm
    go_wp2
    exact HQ.out
end Go.Proofs.YtbmmoclaijoofaaGreatDoor
