/- disk: the reference's Append. -/
import Derived.Test.YtfgbaigpmhnoaaaDmSd
set_option linter.unusedVariables false
set_option linter.unusedSimpArgs false
namespace Go.Proofs.Ytfgbaigpmhnoaaa
open Go.RowKit Go.BigFrame Go.Maps
open Dsk (Fl St Ok get put drop used)

theorem RefLeft.trans {w w1 w2 : World} {base rb : Nat} {P : Nat → Prop} {S1 S2 : St} (h : RefLeft w w1 base P rb S1) (h2 : RefLeft w1 w2 base P rb S2) : RefLeft w w2 base P rb S2 :=
  ⟨h2.ref, h.ch.trans h2.ch fun _ _ hk => hk⟩
theorem RefLeft.same {w : World} {base rb : Nat} {P : Nat → Prop} {S : St} (h : RefAt w base P rb S) : RefLeft w w base P rb S := ⟨h, Ch.refl _ _⟩
theorem RefAt.lt {w : World} {base rb : Nat} {P : Nat → Prop} {S : St} (h : RefAt w base P rb S) : rb < w.heap.size ∧ base ≤ rb := by
  obtain ⟨fv, iv, es, h⟩ := h
  exact ⟨h.lt, h.low⟩
theorem RefLeft.below {w w' : World} {base rb : Nat} {P : Nat → Prop} {S : St} (h : RefAt w base P rb S) (hb : Below w.heap.size w w') : RefLeft w w' base P rb S :=
  ⟨h.below hb, Ch.of_below hb _ fun k hk hge => by omega⟩
theorem ref_stepC {S : St} : (if S.armed = some 0 then (40 : Int) else 0) = stepC S.armed := rfl
set_option maxRecDepth 100000 in
set_option maxHeartbeats 8000000 in
theorem rappend_any {w : World} {base rb : Nat} {P : Nat → Prop} {S : St} (h : RefAt w base P rb S) (hok : Ok S) (s : ByteArray) (A : Option Addr) (m c : Nat) (l : List Nat) (hs : s.size ≤ maxLen) (hb : BAt w (fun _ => True) (.slice A m c) l)
    (hst : S.steps < 1000000000) (hsum : used S.fs + l.length ≤ 1000000000000) (hP : ∀ b, w.heap.size ≤ b → P b) :
    Calls Try.prog 28 #[.pointer (some ⟨rb, 0, none⟩), .string s, .slice A m c] w (RDone w base P rb (appendS S s l) (.int .i64 (appendC S s l))) := by
  obtain ⟨i0, hi, hz0, hz1, hz2⟩ := info_parts infoU8
  have HI := Lib.hid (And.intro hi (And.intro hz0 (And.intro hz1 hz2)))
  clear hi hz0 hz1 hz2
  obtain ⟨hml, hmc, hcm, hAc, hH⟩ := hb.holds
  subst hml
  have HP := Lib.hid (fun (cc : Int) (w' : World) (S' : St) (hc : cc = appendC S s l) (hS : S' = appendS S s l) (hl : RefLeft w w' base P rb S') => show RDone w base P rb (appendS S s l) (.int .i64 (appendC S s l)) (.returned (.int .i64 cc)) w' from ⟨by rw [hc], hS ▸ hl⟩)
  generalize RDone w base P rb (appendS S s l) (.int .i64 (appendC S s l)) = post at *
  have HA := Lib.hid (asked_any h s false hs)
  have HD := Lib.hid h
  have HOK := Lib.hid hok
  have HH := Lib.hid (And.intro hAc (And.intro hH hmc))
  have HCM := Lib.hid hcm
  have HPP := Lib.hid hP
  unfold maxLen at hcm
  by_cases hc : refC S [s] = 0
  · have hask : askC S s false = 0 := by unfold askC; rw [if_neg (by simpa using hc)]; simp
    rw [hask] at HA
    have HG := Lib.hid (rget_any h s)
    have hq0 := hok.q0
    have hq1 := hok.qm
    have hub := hok.sum
    have hfit := hok.fit
    have HFL : Hid ((getF S.fs s).sure ≤ (getF S.fs s).b.length ∧ (getF S.fs s).b.length ≤ 8388608) := Lib.hid (by
      unfold getF
      cases hg : get S.fs s with
      | none => exact ⟨Nat.le_refl _, by show (0 : Nat) ≤ _; omega⟩
      | some f => have := hok.file s f hg; exact ⟨this.1, this.2.2.1⟩)
    have hnl := HFL.out.2
    clear h hb hask hok hAc hH hP hfit
    go_enter Try.func28, Try.ntmps28
    go_wp2_with fail
    refine HA.out.mono ?_
    rintro e w1 ⟨rfl, rfl⟩
    go_wp2_with fail
    refine HG.out.mono ?_
    rintro e w1 ⟨v, rfl, hv, vs, T, hw1⟩
    obtain ⟨Av, cv, hvv, hvc, hvm⟩ := hv.slice
    subst hvv
    have HV := Lib.hid hv
    obtain ⟨f, hf⟩ : ∃ f, f = getF S.fs s := ⟨_, rfl⟩
    rw [← hf] at HV hnl hvc ⊢
    have HF := Lib.hid hf
    have hsz1 : w1.heap.size = w.heap.size + 1 := by rw [hw1]; simp
    have hb1 : Below w.heap.size w w1 := by rw [hw1]; exact (Below.refl _ _).alloc (Nat.le_refl _) _
    obtain ⟨W2, hW2⟩ : ∃ W2, W2 = w1.alloc (.cells #[.string s, .slice Av f.b.length cv, .int .i64 (f.sure : Int), .bool f.ever] 66) := ⟨_, rfl⟩
    have hsz2 : W2.heap.size = w.heap.size + 2 := by rw [hW2]; simp [hsz1]
    have hb2 : Below w.heap.size w W2 := by rw [hW2]; exact hb1.alloc (by omega) _
    have hbx : W2.heap[w1.heap.size]? = some (.cells #[.string s, .slice Av f.b.length cv, .int .i64 (f.sure : Int), .bool f.ever] 66 (0, 0)) := by rw [hW2]; exact heap_alloc_new w1 _
    have x1 : W2.cell? ⟨w1.heap.size, 1, none⟩ = some (.slice Av f.b.length cv) := by rw [blk_cell hbx]; rfl
    have HB2 := Lib.hid hb2
    have HBX := Lib.hid hbx
    have HZ := Lib.hid (And.intro hsz1 hsz2)
    clear hv hw1 hb1 hf HG HA hsz1 hsz2 hb2 hbx
    go_upto_region 5 with (fail)
    rw [← hW2]
    clear hW2
    have hRW := HD.out.below HB2.out
    by_cases hlim : 8388608 < f.b.length + l.length
    · have hd1 : decide ((8388608 : Int) - (f.b.length : Int) < (l.length : Int)) = true := decide_eq_true (by omega)
      have HQ := Lib.hid (HP.out 3 W2 S (by unfold appendC; rw [if_neg (by simpa using hc), if_pos (by rw [← HF.out]; exact hlim)]) (by unfold appendS; rw [if_neg (by simpa using hc), if_pos (by rw [← HF.out]; exact hlim)]) (RefLeft.below HD.out HB2.out))
      clear hlim HP
      go_wp2
      exact HQ.out
    · have hd1 : decide ((8388608 : Int) - (f.b.length : Int) < (l.length : Int)) = false := decide_eq_false (by omega)
      have HU := Lib.hid (fun q : Nat => (rused_any (hRW.below (below_drewN (Below.refl _ _) q)) hub).mono fun (e : Ending) w' ⟨h1, h2⟩ => (⟨h1, h2.symm⟩ : e = Ending.returned (.int .i64 (used S.fs : Int)) ∧ w' = W2.drewN q))
      obtain ⟨fv, iv, es, hri⟩ := hRW
      have c1 : W2.cell? ⟨rb, 1, none⟩ = some (.int .i64 S.quota) := hri.cells.2.1
      clear hri
      by_cases hful : S.quota < (used S.fs : Int) + (l.length : Int)
      · have hd2 : decide (S.quota - (used S.fs : Int) < (l.length : Int)) = true := decide_eq_true (by omega)
        have HQ := Lib.hid (fun q => HP.out 41 (W2.drewN q) S (by unfold appendC; rw [if_neg (by simpa using hc), if_neg (by rw [← HF.out]; exact hlim), if_pos hful]) (by unfold appendS; rw [if_neg (by simpa using hc), if_neg (by rw [← HF.out]; exact hlim), if_pos hful]) (RefLeft.below HD.out (below_drewN HB2.out q)))
        clear hlim hful HP
        generalize (used S.fs) = us at *
        generalize S.quota = qt at *
        go_wp2_with fail
        go_quiet ((go_at_call 37; exact Calls.quiet_of_same (HU.out _)))
        go_wp2
        exact HQ.out _
      · have hd2 : decide (S.quota - (used S.fs : Int) < (l.length : Int)) = false := decide_eq_false (by omega)
        have hFIN := fun (w7 : World) (hl : RefLeft w w7 base P rb (stepS (plus1 { S with fs := put S.fs s (grow1 f l) }))) => HP.out (stepC S.armed) w7 _ (by unfold appendC; rw [if_neg (by simpa using hc), if_neg (by rw [← HF.out]; exact hlim), if_neg hful]) (by unfold appendS; rw [if_neg (by simpa using hc), if_neg (by rw [← HF.out]; exact hlim), if_neg hful]; unfold appS stepEnd; rw [if_neg (by simp), ← HF.out]; rfl) hl
        have HFIN := Lib.hid hFIN
        clear hFIN hlim hful HP
        generalize hus : (used S.fs) = us at *
        generalize hqt : S.quota = qt at *
        go_wp2_with fail
        go_quiet ((go_at_call 37; exact Calls.quiet_of_same (HU.out _)))
        obtain ⟨W3, hW3⟩ : ∃ W3, W3 = W2.drewN nq := ⟨_, rfl⟩
        rw [← hW3]
        have hb3 : Below w.heap.size w W3 := by rw [hW3]; exact below_drewN HB2.out nq
        have hz3 : W3.heap.size = w.heap.size + 2 := by rw [hW3, heap_drewN]; exact HZ.out.2
        have hbx3 : W3.heap[w1.heap.size]? = some (.cells #[.string s, .slice Av f.b.length cv, .int .i64 (f.sure : Int), .bool f.ever] 66 (0, 0)) := by rw [hW3, heap_drewN]; exact HBX.out
        have y1 : W3.cell? ⟨w1.heap.size, 1, none⟩ = some (.slice Av f.b.length cv) := by rw [blk_cell hbx3]; rfl
        have hHv : Holds W3 W3.heap.size Av f.b.length (fun i => f.b.getD i 0) := (HV.out.holds.2.2.2.2.below hb3).more hb3.size
        have hHl : Holds W3 W3.heap.size A l.length (fun i => l.getD i 0) := (HH.out.2.1.below hb3).more hb3.size
        have HHV := Lib.hid hHv
        have HHL := Lib.hid hHl
        have HB3 := Lib.hid (And.intro hb3 hz3)
        have HBX3 := Lib.hid hbx3
        clear hHv hHl hb3 hz3 hbx3 hW3 x1 c1 HU HB2 HBX
        have hvA := HV.out.holds.2.2.2.1
        have HVA := Lib.hid hvA
        clear hvA
        go_wp2_with (at_builtin; refine wpList_app_holds rfl _ _ 29 rfl W3.heap.size 5 i0 Try.underlying29 HI.out.1 HI.out.2.1 HI.out.2.2.1 HI.out.2.2.2 (.slice none 0 0) 0 [] rfl (World.ownsRow_nil _ _ _ _) W3.heap.size Av f.b.length cv (fun i => f.b.getD i 0) rfl HHV.out HVA.out hvc ?b5 ?b6 (Nat.le_refl _) ?_)
        case b5 => unfold maxLen; omega
        case b6 => omega
        intro v4 w4 ho4 hg4 _
        have ec4 : cells (fun i => f.b[i]?.getD 0) f.b.length = bvs f.b := bvs_cells f.b
        rw [ec4] at ho4
        clear ec4
        obtain ⟨A4, c4, rfl⟩ := own_sl ho4
        have hb34 : Below W3.heap.size W3 w4 := (Below.refl _ _).grown hg4 (Nat.le_refl _) (fun g e => by cases e)
        have HO4 := Lib.hid ho4
        have HB34 := Lib.hid hb34
        have hz4 := hb34.size
        have hHl4 : Holds w4 w4.heap.size A l.length (fun i => l.getD i 0) := (HHL.out.below hb34).more hb34.size
        have HHL4 := Lib.hid hHl4
        clear ho4 hg4 hb34 hHl4 y1
        go_wp2_with (at_builtin; go_loud (refine wpList_app_holds rfl _ _ 29 rfl W3.heap.size 5 i0 Try.underlying29 HI.out.1 HI.out.2.1 HI.out.2.2.1 HI.out.2.2.2 (.slice A4 f.b.length c4) f.b.length (bvs f.b) rfl HO4.out w4.heap.size A l.length c (fun i => l.getD i 0) rfl HHL4.out HH.out.1 hmc ?b7 ?b8 hz4 ?_))
        case b7 => unfold maxLen; omega
        case b8 => omega
        intro v5 w5 ho5 hg5 _
        have ec5 : cells (fun i => l[i]?.getD 0) l.length = bvs l := bvs_cells l
        rw [ec5, ← bvs_app] at ho5
        obtain ⟨A5, c5, rfl⟩ := own_sl ho5
        have hb35 : Below W3.heap.size W3 w5 := HB34.out.grown hg5 hz4 (fun g e => (HO4.out.lt g e).1)
        have box5 : w5.heap[w1.heap.size]? = some (.cells #[.string s, .slice Av f.b.length cv, .int .i64 (f.sure : Int), .bool f.ever] 66 (0, 0)) := (hb35.block _ (by have := HZ.out.1; have := HB3.out.2; omega)).trans HBX3.out
        have ff := blk_free box5 1
        have yc : w5.cell? ⟨w1.heap.size, 1, none⟩ = some (.slice Av f.b.length cv) := by rw [blk_cell box5]; rfl
        obtain ⟨W6, hW6⟩ : ∃ W6, W6 = w5.setCell ⟨w1.heap.size, 1, none⟩ (.slice A5 (f.b.length + l.length) c5) := ⟨_, rfl⟩
        have box6 : W6.heap[w1.heap.size]? = some (.cells #[.string s, .slice A5 (f.b.length + l.length) c5, .int .i64 (f.sure : Int), .bool f.ever] 66 (0, 0)) := by rw [hW6, blk_set box5 1 _]; rfl
        have z0 : W6.cell? ⟨w1.heap.size, 0, none⟩ = some (.string s) := by rw [blk_cell box6]; rfl
        have z1 : W6.cell? ⟨w1.heap.size, 1, none⟩ = some (.slice A5 (f.b.length + l.length) c5) := by rw [blk_cell box6]; rfl
        have z2 : W6.cell? ⟨w1.heap.size, 2, none⟩ = some (.int .i64 (f.sure : Int)) := by rw [blk_cell box6]; rfl
        have z3 : W6.cell? ⟨w1.heap.size, 3, none⟩ = some (.bool f.ever) := by rw [blk_cell box6]; rfl
        have hb6 : Below w.heap.size w W6 := by
          rw [hW6]
          exact (HB3.out.1.trans (hb35.mono (by have := HB3.out.2; omega))).setCell (by show w.heap.size ≤ w1.heap.size; have := HZ.out.1; omega) _
        have hrow6 : W6.ownsRow W3.heap.size 5 1 (.slice A5 (f.b.length + l.length) c5) (f.b.length + l.length) (bvs (f.b ++ l)) := by
          rw [hW6]
          exact ownsRow_setCell_other ho5 (a := ⟨w1.heap.size, 1, none⟩) (fun e => by have := (ho5.lt w1.heap.size e).1; have := HZ.out.1; have := HB3.out.2; omega) _
        have hz6 : w.heap.size ≤ W6.heap.size := hb6.size
        have hr6 := HD.out.below hb6
        have HPUT := Lib.hid (rput_any hr6 s (.slice A5 (f.b.length + l.length) c5) (grow1 f l) (BAt.own hrow6 (by rw [List.length_append]) _ (fun b e => ⟨HPP.out b (by have := (hrow6.lt b e).1; have := HB3.out.2; omega), fun e2 => by have := (hrow6.lt b e).1; have := HB3.out.2; have := HD.out.lt; omega⟩)) HOK.out.sorted (Nat.le_trans HOK.out.few HOK.out.low) (fun b hb => HPP.out b (by omega)))
        have HR6 := Lib.hid (RefLeft.below HD.out hb6)
        clear ho5 hg5 hb35 box5 box6 hb6 hrow6 hz6 hr6 ec5 HHL4 HB34 HO4 HBX3 HHV HHL HVA hz4
        go_upto_region 12 with (fail)
        rw [← hW6]
        clear hW6 ff yc
        go_wp2_with fail
        refine HPUT.out.mono ?_
        rintro e w7 ⟨rfl, hl7⟩
        have HFL7 := Lib.hid (rfails_any hl7.ref hst HOK.out.arm)
        have HR7 := Lib.hid (HR6.out.trans hl7)
        clear HPUT HR6 hl7 z0 z1 z2 z3
        by_cases ha : S.armed = some 0
        · have hd0 : decide (({ S with fs := put S.fs s (grow1 f l) } : St).armed = some 0) = true := decide_eq_true ha
          rw [hd0] at HFL7
          have hc0 : stepC S.armed = 40 := by unfold stepC; rw [if_pos ha]
          rw [hc0] at HFIN
          clear hd0 ha hc0
          go_wp2_with fail
          refine HFL7.out.mono ?_
          rintro e w8 ⟨rfl, hl8⟩
          subst hqt
          have HQ := Lib.hid (HFIN.out w8 (HR7.out.trans hl8))
          clear hl8 HFIN HFL7 HR7
          go_wp2
          exact HQ.out
        · have hd0 : decide (({ S with fs := put S.fs s (grow1 f l) } : St).armed = some 0) = false := decide_eq_false ha
          rw [hd0] at HFL7
          have hc0 : stepC S.armed = 0 := by unfold stepC; rw [if_neg ha]
          rw [hc0] at HFIN
          clear hd0 ha hc0
          go_wp2_with fail
          refine HFL7.out.mono ?_
          rintro e w8 ⟨rfl, hl8⟩
          subst hqt
          have HQ := Lib.hid (HFIN.out w8 (HR7.out.trans hl8))
          clear hl8 HFIN HFL7 HR7
          go_wp2
          exact HQ.out
  · have hask : askC S s false = refC S [s] := by unfold askC; rw [if_pos hc]
    rw [hask] at HA
    have HQ := Lib.hid (HP.out (refC S [s]) w S (by unfold appendC; rw [if_pos hc]) (by unfold appendS; rw [if_pos hc]) (RefLeft.same h))
    obtain ⟨cc, hcc⟩ : ∃ cc, cc = refC S [s] := ⟨_, rfl⟩
    rw [← hcc] at HQ HA hc
    have hc1 : (cc == 0) = false := by simpa using hc
    have hc2 : (cc != 0) = true := by simpa using hc
    clear hcc HP hask h hb hok hAc hH hP
    go_enter Try.func28, Try.ntmps28
    go_wp2_with fail
    refine HA.out.mono ?_
    rintro e w1 ⟨rfl, rfl⟩
    go_wp2
    exact HQ.out
end Go.Proofs.Ytfgbaigpmhnoaaa
