/- archive: ArchiveUnlike, walked. -/
import Derived.Test.YtcleebigfbbdbaaArcU
import Derived.Test.YtcleebigfbbdbaaFilSb
import Derived.Test.YtcleebigfbbdbaaFilSc
import Derived.Test.YtcleebigfbbdbaaFilSd
import Derived.Deep.RegionHeld3
set_option linter.unusedVariables false
set_option linter.unusedSimpArgs false
namespace Go.Proofs.Ytcleebigfbbdbaa
open Go Go.RowKit Go.BigFrame
open Fil (Es Nd Sp)
open Arc (BL num4 num2 encT letK encE encN sizE sizN rfN rdN rfE rdE rdT rd2 beN)
attribute [local go_sem] Oper.semAt_some

/-- Unlike trees have unlike archives. -/
theorem unlike_eq {a b : Nd} {la lb : BL} (ha : putA a = (0, la)) (hb : putA b = (0, lb)) : ((strOf la).toList == (strOf lb).toList) = sameN a b := by
  have e1 : ∀ l : BL, (strOf l).toList = l := fun l => by rw [Lib.toList_data]; simp [strOf]
  rw [e1, e1]
  cases h : sameN a b with
  | true =>
    have := sameN_eq h
    subst this
    rw [ha] at hb
    cases hb
    exact beq_self_eq_true _
  | false =>
    rw [beq_eq_false_iff_ne]
    intro e
    subst e
    have := put_inj ha hb
    subst this
    rw [sameN_refl] at h
    cases h
set_option maxRecDepth 1000000 in
set_option maxRecDepth 100000 in
set_option maxHeartbeats 8000000 in
theorem archiveUnlike_walk (v : Value) (nd : Nd) (vx : Value) (x : Nd) (w : World) (hv : NdV w w.heap.size v nd) (hvx : NdV w w.heap.size vx x) : Calls Try.prog 6 #[v, vx] w fun e w' => e = .returned (.bool true) ∧ Below w.heap.size w w' := by
  obtain ⟨ev, rfl, hes, hd, hk⟩ := hv
  obtain ⟨A, c, rfl, hlc, hcm⟩ := hes.form
  obtain ⟨ex, rfl, hex, hdx, hkx⟩ := hvx
  obtain ⟨Ax, cx, rfl, hlcx, hcmx⟩ := hex.form
  have HWK := Lib.hid aworks_any
  go_enter Try.func6, Try.ntmps6
  obtain ⟨w1, e1, hg1, hg2, hb1, hz1⟩ := rows2 w (.cells #[.int .u8 (nd.k : Int), .string nd.d, .slice A nd.es.len c] 24) (.cells #[.int .u8 (x.k : Int), .string x.d, .slice Ax x.es.len cx] 24)
  go_upto_region 1 with (fail)
  rw [← e1]
  clear e1
  have HV := Lib.hid (fun (w' : World) (h : KeepW w1 w1.heap.size w') => show NdV w' w.heap.size (.agg #[.int .u8 (nd.k : Int), .string nd.d, .slice A nd.es.len c]) nd from ⟨_, rfl, hes.keep (below_step hb1 h.1 (by omega)), hd, hk⟩)
  have HVX := Lib.hid (fun (w' : World) (h : KeepW w1 w1.heap.size w') => show NdV w' w.heap.size (.agg #[.int .u8 (x.k : Int), .string x.d, .slice Ax x.es.len cx]) x from ⟨_, rfl, hex.keep (below_step hb1 h.1 (by omega)), hdx, hkx⟩)
  have HC := Lib.hid (fun (w' : World) (h : KeepW w1 w1.heap.size w') => show w'.cell? ⟨w.heap.size, 0, none⟩ = some (.int .u8 (nd.k : Int)) ∧ w'.cell? ⟨w.heap.size, 1, none⟩ = some (.string nd.d) ∧ w'.cell? ⟨w.heap.size, 2, none⟩ = some (.slice A nd.es.len c) from by
    have h1 := nd_box (W := w') (k := nd.k) (d := nd.d) (v := .slice A nd.es.len c) ((h.1.block w.heap.size (by omega)).trans hg1)
    exact ⟨h1.1, h1.2.1, h1.2.2.1⟩)
  have HCX := Lib.hid (fun (w' : World) (h : KeepW w1 w1.heap.size w') => show w'.cell? ⟨w.heap.size + 1, 0, none⟩ = some (.int .u8 (x.k : Int)) ∧ w'.cell? ⟨w.heap.size + 1, 1, none⟩ = some (.string x.d) ∧ w'.cell? ⟨w.heap.size + 1, 2, none⟩ = some (.slice Ax x.es.len cx) from by
    have h1 := nd_box (W := w') (k := x.k) (d := x.d) (v := .slice Ax x.es.len cx) ((h.1.block (w.heap.size + 1) (by omega)).trans hg2)
    exact ⟨h1.1, h1.2.1, h1.2.2.1⟩)
  have HB := Lib.hid (fun (w' : World) (h : KeepW w1 w1.heap.size w') => below_step hb1 h.1 (by omega))
  have HK0 := Lib.hid (KeepW.start (Nat.le_refl w1.heap.size))
  have HZ := Lib.hid hz1
  have HWE := Lib.hid (wei_calls 1500 (by decide) nd w1 w.heap.size (by omega) _ (HV.out w1 HK0.out))
  have HWX := Lib.hid (fun (w' : World) (h : KeepW w1 w1.heap.size w') => wei_calls 1500 (by decide) x w' w.heap.size (by have := h.2; have := HZ.out; omega) _ (HVX.out w' h))
  obtain ⟨hn0, hn1, hn2⟩ := HC.out w1 HK0.out
  clear hg1 hg2 hb1 hz1 hes hex
  go_wp2_with fail
  refine HWE.out.mono ?_
  rintro e W1 ⟨hb1, r, rfl, hr1, hr2, hr3⟩
  have HK1 := Lib.hid (HK0.out.step hb1)
  clear hb1 hn0 hn1 hn2
  rcases Nat.lt_or_ge 1500 r with hr | hr
  · have hrI : decide ((1500 : Int) < (r : Int)) = true := decide_eq_true (by omega)
    clear hr hr1 hr2 hr3
    go_wp2_with fail
    refine (HWK.out W1).mono ?_
    rintro e W2 ⟨rfl, hb2⟩
    have HB2 := Lib.hid (HB.out W2 (HK1.out.step hb2))
    clear hb2
    go_wp2_with fail
    go_ret
    exact ⟨rfl, HB2.out⟩
  have hrI : decide ((1500 : Int) < (r : Int)) = false := decide_eq_false (by omega)
  have hwa : weiN nd ≤ 1500 := by rw [← hr2 hr]; exact hr
  clear hr hr1 hr2 hr3
  obtain ⟨hm0, hm1, hm2⟩ := HCX.out W1 HK1.out
  go_wp2_with fail
  refine (HWX.out W1 HK1.out).mono ?_
  rintro e W2 ⟨hb2, q, rfl, hq1, hq2, hq3⟩
  have HK2 := Lib.hid (HK1.out.step hb2)
  clear hb2 hm0 hm1 hm2
  rcases Nat.lt_or_ge 1500 q with hq | hq
  · have hqI : decide ((1500 : Int) < (q : Int)) = true := decide_eq_true (by omega)
    clear hq hq1 hq2 hq3 hwa
    go_wp2_with fail
    refine (HWK.out W2).mono ?_
    rintro e W3 ⟨rfl, hb3⟩
    have HB3 := Lib.hid (HB.out W3 (HK2.out.step hb3))
    clear hb3
    go_wp2_with fail
    go_ret
    exact ⟨rfl, HB3.out⟩
  have hqI : decide ((1500 : Int) < (q : Int)) = false := decide_eq_false (by omega)
  have hwb : weiN x ≤ 1500 := by rw [← hq2 hq]; exact hq
  clear hq hq1 hq2 hq3
  have HM := Lib.hid (show nd.es.count ≤ 1500 ∧ x.es.count ≤ 1500 by
    have h1 := wei_count nd.es; have h3 := wei_count x.es
    unfold weiN at hwa hwb
    exact ⟨by omega, by omega⟩)
  clear hwa hwb
  obtain ⟨hn0, hn1, hn2⟩ := HC.out W2 HK2.out
  have HP1 := Lib.hid (putArc_any nd (by have := HM.out; omega) W2 w.heap.size (by have := HK2.out.2; have := HZ.out; omega) _ (HV.out W2 HK2.out))
  go_wp2_with fail
  refine HP1.out.mono ?_
  rintro e W3 ⟨hb3, va, rfl, hva⟩
  obtain ⟨Aa, ca, rfl, hca⟩ := hva.form
  have HK3 := Lib.hid (HK2.out.step hb3)
  have HVA := Lib.hid hva
  clear hb3 hn0 hn1 hn2 hva hca
  obtain ⟨hm0, hm1, hm2⟩ := HCX.out W3 HK3.out
  have HP2 := Lib.hid (putArc_any x (by have := HM.out; omega) W3 w.heap.size (by have := HK3.out.2; have := HZ.out; omega) _ (HVX.out W3 HK3.out))
  go_wp2_with fail
  refine HP2.out.mono ?_
  rintro e W4 ⟨hb4, vb, rfl, hvb⟩
  obtain ⟨Ab, cb, rfl, hcb⟩ := hvb.form
  have HK4 := Lib.hid (HK3.out.step hb4)
  have HVA4 := Lib.hid ((HVA.out.keep hb4).more hb4.size)
  have HVB4 := Lib.hid hvb
  clear hb4 hm0 hm1 hm2 hvb hcb
  have HKS := Lib.hid (fun (w' : World) (h : KeepW W4 W4.heap.size w') => HK4.out.step h.1)
  have HK30 := Lib.hid (KeepW.start (Nat.le_refl W4.heap.size))
  have HC3 := Lib.hid (fun (w' : World) (h : KeepW W4 W4.heap.size w') => show (w'.cell? ⟨w.heap.size, 0, none⟩ = some (.int .u8 (nd.k : Int)) ∧ w'.cell? ⟨w.heap.size, 1, none⟩ = some (.string nd.d) ∧ w'.cell? ⟨w.heap.size, 2, none⟩ = some (.slice A nd.es.len c)) ∧ (w'.cell? ⟨w.heap.size + 1, 0, none⟩ = some (.int .u8 (x.k : Int)) ∧ w'.cell? ⟨w.heap.size + 1, 1, none⟩ = some (.string x.d) ∧ w'.cell? ⟨w.heap.size + 1, 2, none⟩ = some (.slice Ax x.es.len cx)) ∧ (convert 27 9 (.slice Aa (putA nd).2.length ca)).run Try.prog w' = .ok (.string (strOf (putA nd).2)) w' ∧ (convert 27 9 (.slice Ab (putA x).2.length cb)).run Try.prog w' = .ok (.string (strOf (putA x).2)) w' from
    ⟨HC.out w' (HKS.out w' h), HCX.out w' (HKS.out w' h), (HVA4.out.keep h.1).conv, (HVB4.out.keep h.1).conv⟩)
  have H1 := Lib.hid (fun (w' : World) (h : KeepW W4 W4.heap.size w') => h.calls (refSame_any _ nd x (Nat.le_refl _) (by have := HM.out; omega) w' w.heap.size (by have := (HKS.out w' h).2; have := HZ.out; omega) _ _ (HV.out w' (HKS.out w' h)) (HVX.out w' (HKS.out w' h))))
  have H9 := Lib.hid (fun (w' : World) (h : KeepW W4 W4.heap.size w') => h.calls (aworks_any w'))
  have HUE := Lib.hid (show (putA nd).1 = 0 → (putA x).1 = 0 → ((strOf (putA nd).2).toList == (strOf (putA x).2).toList) = sameN nd x from fun h h2 => unlike_eq (la := (putA nd).2) (lb := (putA x).2) (by rw [← h]) (by rw [← h2]))
  clear HP1 HP2 HVA HVA4 HVB4 HWE HWX HV HVX HWK
  generalize strOf (putA nd).2 = ta at *
  generalize strOf (putA x).2 = tb at *
  generalize (putA nd).2.length = la at *
  generalize (putA x).2.length = lb at *
  generalize (putA nd).1 = ea at *
  generalize (putA x).1 = eb at *
  generalize sameN nd x = sm at *
  by_cases hea : ea = 0
  rotate_left
  · have hez : ((ea : Int) != 0) = true := bne_iff_ne.2 (by omega)
    clear hea HUE
    go_wp2
    refine wp_region_held (S := fun w' => (w'.cell? ⟨w.heap.size, 0, none⟩ = some (.int .u8 (nd.k : Int)) ∧ w'.cell? ⟨w.heap.size, 1, none⟩ = some (.string nd.d) ∧ w'.cell? ⟨w.heap.size, 2, none⟩ = some (.slice A nd.es.len c)) ∧ (w'.cell? ⟨w.heap.size + 1, 0, none⟩ = some (.int .u8 (x.k : Int)) ∧ w'.cell? ⟨w.heap.size + 1, 1, none⟩ = some (.string x.d) ∧ w'.cell? ⟨w.heap.size + 1, 2, none⟩ = some (.slice Ax x.es.len cx)) ∧ (convert 27 9 (.slice Aa la ca)).run Try.prog w' = .ok (.string ta) w' ∧ (convert 27 9 (.slice Ab lb cb)).run Try.prog w' = .ok (.string tb) w') (by kernel_rfl) ?_
    have hS := HC3.out _ (KeepW.drew HK30.out)
    change wpAnyH _ _ _ _ _ _ _ _ W4.drew
    refine wpAnyH_take (i := 0) rfl (by kernel_rfl) (by kernel_rfl) (by kernel_rfl) (fun _ _ _ h => h) (v := .int .i64 (ea : Int)) ?_ hS ?_
    · exact Or.inl ⟨by kernel_rfl, fun wx hSx => by (try dsimp only at hSx); go_simp⟩
    simp only [Act.put, List.getElem_toArray, List.getElem_cons_succ, List.getElem_cons_zero, List.setIfInBounds_toArray, List.set_cons_zero, List.set_cons_succ]
    refine wpAnyH_take (i := 1) rfl (by kernel_rfl) (by kernel_rfl) (by kernel_rfl) (fun _ _ _ h => h) (v := .bool true) ?_ hS ?_
    · exact Or.inl ⟨by kernel_rfl, fun wx hSx => by (try dsimp only at hSx); go_simp⟩
    simp only [Act.put, List.getElem_toArray, List.getElem_cons_succ, List.getElem_cons_zero, List.setIfInBounds_toArray, List.set_cons_zero, List.set_cons_succ]
    refine wpAnyH_take (i := 2) rfl (by kernel_rfl) (by kernel_rfl) (by kernel_rfl) (fun _ _ _ h => h) (v := .bool true) ?_ hS ?_
    · exact Or.inl ⟨by kernel_rfl, fun wx hSx => by (try dsimp only at hSx); go_simp⟩
    simp only [Act.put, List.getElem_toArray, List.getElem_cons_succ, List.getElem_cons_zero, List.setIfInBounds_toArray, List.set_cons_zero, List.set_cons_succ]
    refine wpAnyH_take (i := 3) rfl (by kernel_rfl) (by kernel_rfl) (by kernel_rfl) (fun _ _ _ h => h) (v := undef) ?_ hS ?_
    · exact Or.inr ⟨by kernel_rfl, rfl⟩
    simp only [Act.put, List.getElem_toArray, List.getElem_cons_succ, List.getElem_cons_zero, List.setIfInBounds_toArray, List.set_cons_zero, List.set_cons_succ]
    refine wpAnyH_take (i := 4) rfl (by kernel_rfl) (by kernel_rfl) (by kernel_rfl) (fun _ _ _ h => h) (v := undef) ?_ hS ?_
    · exact Or.inr ⟨by kernel_rfl, rfl⟩
    simp only [Act.put, List.getElem_toArray, List.getElem_cons_succ, List.getElem_cons_zero, List.setIfInBounds_toArray, List.set_cons_zero, List.set_cons_succ]
    refine wpAnyH_take (i := 5) rfl (by kernel_rfl) (by kernel_rfl) (by kernel_rfl) (fun _ _ _ h => h) (v := .bool true) ?_ hS ?_
    · exact Or.inl ⟨by kernel_rfl, fun wx hSx => by (try dsimp only at hSx); go_simp⟩
    simp only [Act.put, List.getElem_toArray, List.getElem_cons_succ, List.getElem_cons_zero, List.setIfInBounds_toArray, List.set_cons_zero, List.set_cons_succ]
    refine wpAnyH_take (i := 6) rfl (by kernel_rfl) (by kernel_rfl) (by kernel_rfl) (fun _ _ _ h => h) (v := .bool true) ?_ hS ?_
    · exact Or.inl ⟨by kernel_rfl, fun wx hSx => by (try dsimp only at hSx); go_simp⟩
    simp only [Act.put, List.getElem_toArray, List.getElem_cons_succ, List.getElem_cons_zero, List.setIfInBounds_toArray, List.set_cons_zero, List.set_cons_succ]
    refine wpAnyH_take (i := 7) rfl (by kernel_rfl) (by kernel_rfl) (by kernel_rfl) (fun _ _ _ h => h) (v := undef) ?_ hS ?_
    · exact Or.inr ⟨by kernel_rfl, rfl⟩
    simp only [Act.put, List.getElem_toArray, List.getElem_cons_succ, List.getElem_cons_zero, List.setIfInBounds_toArray, List.set_cons_zero, List.set_cons_succ]
    refine wpAnyH_take (i := 8) rfl (by kernel_rfl) (by kernel_rfl) (by kernel_rfl) (fun _ _ _ h => h) (v := undef) ?_ hS ?_
    · exact Or.inr ⟨by kernel_rfl, rfl⟩
    simp only [Act.put, List.getElem_toArray, List.getElem_cons_succ, List.getElem_cons_zero, List.setIfInBounds_toArray, List.set_cons_zero, List.set_cons_succ]
    refine wpAnyH_take (i := 9) rfl (by kernel_rfl) (by kernel_rfl) (by kernel_rfl) (fun _ _ _ h => h) (v := undef) ?_ hS ?_
    · exact Or.inr ⟨by kernel_rfl, rfl⟩
    simp only [Act.put, List.getElem_toArray, List.getElem_cons_succ, List.getElem_cons_zero, List.setIfInBounds_toArray, List.set_cons_zero, List.set_cons_succ]
    refine wpAnyH_take (i := 10) rfl (by kernel_rfl) (by kernel_rfl) (by kernel_rfl) (fun _ _ _ h => h) (v := undef) ?_ hS ?_
    · exact Or.inr ⟨by kernel_rfl, rfl⟩
    simp only [Act.put, List.getElem_toArray, List.getElem_cons_succ, List.getElem_cons_zero, List.setIfInBounds_toArray, List.set_cons_zero, List.set_cons_succ]
    refine wpAnyH_take (i := 11) rfl (by kernel_rfl) (by kernel_rfl) (by kernel_rfl) (fun _ _ _ h => h) (v := undef) ?_ hS ?_
    · exact Or.inr ⟨by kernel_rfl, rfl⟩
    simp only [Act.put, List.getElem_toArray, List.getElem_cons_succ, List.getElem_cons_zero, List.setIfInBounds_toArray, List.set_cons_zero, List.set_cons_succ]
    refine wpAnyH_take (i := 12) rfl (by kernel_rfl) (by kernel_rfl) (by kernel_rfl) (fun _ _ _ h => h) (v := undef) ?_ hS ?_
    · exact Or.inr ⟨by kernel_rfl, rfl⟩
    simp only [Act.put, List.getElem_toArray, List.getElem_cons_succ, List.getElem_cons_zero, List.setIfInBounds_toArray, List.set_cons_zero, List.set_cons_succ]
    refine wpAnyH_take (i := 13) rfl (by kernel_rfl) (by kernel_rfl) (by kernel_rfl) (fun _ _ _ h => h) (v := undef) ?_ hS ?_
    · exact Or.inr ⟨by kernel_rfl, rfl⟩
    simp only [Act.put, List.getElem_toArray, List.getElem_cons_succ, List.getElem_cons_zero, List.setIfInBounds_toArray, List.set_cons_zero, List.set_cons_succ]
    refine wpAnyH_take (i := 14) rfl (by kernel_rfl) (by kernel_rfl) (by kernel_rfl) (fun _ _ _ h => h) (v := undef) ?_ hS ?_
    · exact Or.inr ⟨by kernel_rfl, rfl⟩
    simp only [Act.put, List.getElem_toArray, List.getElem_cons_succ, List.getElem_cons_zero, List.setIfInBounds_toArray, List.set_cons_zero, List.set_cons_succ]
    refine wpAnyH_take (i := 15) rfl (by kernel_rfl) (by kernel_rfl) (by kernel_rfl) (fun _ _ _ h => h) (v := undef) ?_ hS ?_
    · exact Or.inr ⟨by kernel_rfl, rfl⟩
    simp only [Act.put, List.getElem_toArray, List.getElem_cons_succ, List.getElem_cons_zero, List.setIfInBounds_toArray, List.set_cons_zero, List.set_cons_succ]
    refine wpAnyH_take (i := 16) rfl (by kernel_rfl) (by kernel_rfl) (by kernel_rfl) (fun _ _ _ h => h) (v := .bool true) ?_ hS ?_
    · exact Or.inl ⟨by kernel_rfl, fun wx hSx => by (try dsimp only at hSx); go_simp⟩
    simp only [Act.put, List.getElem_toArray, List.getElem_cons_succ, List.getElem_cons_zero, List.setIfInBounds_toArray, List.set_cons_zero, List.set_cons_succ]
    refine wpAnyH_take (i := 17) rfl (by kernel_rfl) (by kernel_rfl) (by kernel_rfl) (fun _ _ _ h => h) (v := .bool true) ?_ hS ?_
    · exact Or.inl ⟨by kernel_rfl, fun wx hSx => by (try dsimp only at hSx); go_simp⟩
    simp only [Act.put, List.getElem_toArray, List.getElem_cons_succ, List.getElem_cons_zero, List.setIfInBounds_toArray, List.set_cons_zero, List.set_cons_succ]
    refine wpAnyH_ready (rs := [18]) (by kernel_rfl) (by simp) ?_
    refine AllReadyH.cons rfl (fun K hK => ?_) AllReadyH.nil
    go_simp
    refine (H9.out _ (KeepW.drew HK30.out)).mono ?_
    rintro e W6 ⟨rfl, hk6⟩
    dsimp only
    refine hK.out _ _ (HC3.out _ hk6) (fun hS6 => ?_)
    clear hK K hS
    try simp only [Act.put, List.getElem_toArray, List.getElem_cons_succ, List.getElem_cons_zero, List.setIfInBounds_toArray, List.set_cons_zero, List.set_cons_succ]
    refine wpAnyH_take (i := 19) rfl (by kernel_rfl) (by kernel_rfl) (by kernel_rfl) (fun _ _ _ h => h) (v := .bool true) ?_ hS6 ?_
    · exact Or.inl ⟨by kernel_rfl, fun wx hSx => by (try dsimp only at hSx); go_simp⟩
    simp only [Act.put, List.getElem_toArray, List.getElem_cons_succ, List.getElem_cons_zero, List.setIfInBounds_toArray, List.set_cons_zero, List.set_cons_succ]
    refine wpAnyH_take (i := 20) rfl (by kernel_rfl) (by kernel_rfl) (by kernel_rfl) (fun _ _ _ h => h) (v := .bool true) ?_ hS6 ?_
    · exact Or.inl ⟨by kernel_rfl, fun wx hSx => by (try dsimp only at hSx); go_simp⟩
    simp only [Act.put, List.getElem_toArray, List.getElem_cons_succ, List.getElem_cons_zero, List.setIfInBounds_toArray, List.set_cons_zero, List.set_cons_succ]
    refine wpAnyH_done (by kernel_rfl) ?_ _
    have HBF := Lib.hid (HB.out _ (HKS.out _ hk6))
    go_wp2_with fail
    go_ret
    refine ⟨?_, HBF.out⟩
    rfl
  have hez : ((ea : Int) != 0) = false := by rw [hea]; rfl
  by_cases heb : eb = 0
  rotate_left
  · have heq : ((eb : Int) != 0) = true := bne_iff_ne.2 (by omega)
    clear hea heb HUE
    go_wp2
    refine wp_region_held (S := fun w' => (w'.cell? ⟨w.heap.size, 0, none⟩ = some (.int .u8 (nd.k : Int)) ∧ w'.cell? ⟨w.heap.size, 1, none⟩ = some (.string nd.d) ∧ w'.cell? ⟨w.heap.size, 2, none⟩ = some (.slice A nd.es.len c)) ∧ (w'.cell? ⟨w.heap.size + 1, 0, none⟩ = some (.int .u8 (x.k : Int)) ∧ w'.cell? ⟨w.heap.size + 1, 1, none⟩ = some (.string x.d) ∧ w'.cell? ⟨w.heap.size + 1, 2, none⟩ = some (.slice Ax x.es.len cx)) ∧ (convert 27 9 (.slice Aa la ca)).run Try.prog w' = .ok (.string ta) w' ∧ (convert 27 9 (.slice Ab lb cb)).run Try.prog w' = .ok (.string tb) w') (by kernel_rfl) ?_
    have hS := HC3.out _ (KeepW.drew HK30.out)
    change wpAnyH _ _ _ _ _ _ _ _ W4.drew
    refine wpAnyH_take (i := 0) rfl (by kernel_rfl) (by kernel_rfl) (by kernel_rfl) (fun _ _ _ h => h) (v := .int .i64 (ea : Int)) ?_ hS ?_
    · exact Or.inl ⟨by kernel_rfl, fun wx hSx => by (try dsimp only at hSx); go_simp⟩
    simp only [Act.put, List.getElem_toArray, List.getElem_cons_succ, List.getElem_cons_zero, List.setIfInBounds_toArray, List.set_cons_zero, List.set_cons_succ]
    refine wpAnyH_take (i := 1) rfl (by kernel_rfl) (by kernel_rfl) (by kernel_rfl) (fun _ _ _ h => h) (v := .bool false) ?_ hS ?_
    · exact Or.inl ⟨by kernel_rfl, fun wx hSx => by (try dsimp only at hSx); go_simp⟩
    simp only [Act.put, List.getElem_toArray, List.getElem_cons_succ, List.getElem_cons_zero, List.setIfInBounds_toArray, List.set_cons_zero, List.set_cons_succ]
    refine wpAnyH_take (i := 2) rfl (by kernel_rfl) (by kernel_rfl) (by kernel_rfl) (fun _ _ _ h => h) (v := .bool false) ?_ hS ?_
    · exact Or.inl ⟨by kernel_rfl, fun wx hSx => by (try dsimp only at hSx); go_simp⟩
    simp only [Act.put, List.getElem_toArray, List.getElem_cons_succ, List.getElem_cons_zero, List.setIfInBounds_toArray, List.set_cons_zero, List.set_cons_succ]
    refine wpAnyH_take (i := 3) rfl (by kernel_rfl) (by kernel_rfl) (by kernel_rfl) (fun _ _ _ h => h) (v := .int .i64 (eb : Int)) ?_ hS ?_
    · exact Or.inl ⟨by kernel_rfl, fun wx hSx => by (try dsimp only at hSx); go_simp⟩
    simp only [Act.put, List.getElem_toArray, List.getElem_cons_succ, List.getElem_cons_zero, List.setIfInBounds_toArray, List.set_cons_zero, List.set_cons_succ]
    refine wpAnyH_take (i := 4) rfl (by kernel_rfl) (by kernel_rfl) (by kernel_rfl) (fun _ _ _ h => h) (v := .bool true) ?_ hS ?_
    · exact Or.inl ⟨by kernel_rfl, fun wx hSx => by (try dsimp only at hSx); go_simp⟩
    simp only [Act.put, List.getElem_toArray, List.getElem_cons_succ, List.getElem_cons_zero, List.setIfInBounds_toArray, List.set_cons_zero, List.set_cons_succ]
    refine wpAnyH_take (i := 5) rfl (by kernel_rfl) (by kernel_rfl) (by kernel_rfl) (fun _ _ _ h => h) (v := .bool true) ?_ hS ?_
    · exact Or.inl ⟨by kernel_rfl, fun wx hSx => by (try dsimp only at hSx); go_simp⟩
    simp only [Act.put, List.getElem_toArray, List.getElem_cons_succ, List.getElem_cons_zero, List.setIfInBounds_toArray, List.set_cons_zero, List.set_cons_succ]
    refine wpAnyH_take (i := 6) rfl (by kernel_rfl) (by kernel_rfl) (by kernel_rfl) (fun _ _ _ h => h) (v := .bool true) ?_ hS ?_
    · exact Or.inl ⟨by kernel_rfl, fun wx hSx => by (try dsimp only at hSx); go_simp⟩
    simp only [Act.put, List.getElem_toArray, List.getElem_cons_succ, List.getElem_cons_zero, List.setIfInBounds_toArray, List.set_cons_zero, List.set_cons_succ]
    refine wpAnyH_take (i := 7) rfl (by kernel_rfl) (by kernel_rfl) (by kernel_rfl) (fun _ _ _ h => h) (v := undef) ?_ hS ?_
    · exact Or.inr ⟨by kernel_rfl, rfl⟩
    simp only [Act.put, List.getElem_toArray, List.getElem_cons_succ, List.getElem_cons_zero, List.setIfInBounds_toArray, List.set_cons_zero, List.set_cons_succ]
    refine wpAnyH_take (i := 8) rfl (by kernel_rfl) (by kernel_rfl) (by kernel_rfl) (fun _ _ _ h => h) (v := undef) ?_ hS ?_
    · exact Or.inr ⟨by kernel_rfl, rfl⟩
    simp only [Act.put, List.getElem_toArray, List.getElem_cons_succ, List.getElem_cons_zero, List.setIfInBounds_toArray, List.set_cons_zero, List.set_cons_succ]
    refine wpAnyH_take (i := 9) rfl (by kernel_rfl) (by kernel_rfl) (by kernel_rfl) (fun _ _ _ h => h) (v := undef) ?_ hS ?_
    · exact Or.inr ⟨by kernel_rfl, rfl⟩
    simp only [Act.put, List.getElem_toArray, List.getElem_cons_succ, List.getElem_cons_zero, List.setIfInBounds_toArray, List.set_cons_zero, List.set_cons_succ]
    refine wpAnyH_take (i := 10) rfl (by kernel_rfl) (by kernel_rfl) (by kernel_rfl) (fun _ _ _ h => h) (v := undef) ?_ hS ?_
    · exact Or.inr ⟨by kernel_rfl, rfl⟩
    simp only [Act.put, List.getElem_toArray, List.getElem_cons_succ, List.getElem_cons_zero, List.setIfInBounds_toArray, List.set_cons_zero, List.set_cons_succ]
    refine wpAnyH_take (i := 11) rfl (by kernel_rfl) (by kernel_rfl) (by kernel_rfl) (fun _ _ _ h => h) (v := undef) ?_ hS ?_
    · exact Or.inr ⟨by kernel_rfl, rfl⟩
    simp only [Act.put, List.getElem_toArray, List.getElem_cons_succ, List.getElem_cons_zero, List.setIfInBounds_toArray, List.set_cons_zero, List.set_cons_succ]
    refine wpAnyH_take (i := 12) rfl (by kernel_rfl) (by kernel_rfl) (by kernel_rfl) (fun _ _ _ h => h) (v := undef) ?_ hS ?_
    · exact Or.inr ⟨by kernel_rfl, rfl⟩
    simp only [Act.put, List.getElem_toArray, List.getElem_cons_succ, List.getElem_cons_zero, List.setIfInBounds_toArray, List.set_cons_zero, List.set_cons_succ]
    refine wpAnyH_take (i := 13) rfl (by kernel_rfl) (by kernel_rfl) (by kernel_rfl) (fun _ _ _ h => h) (v := undef) ?_ hS ?_
    · exact Or.inr ⟨by kernel_rfl, rfl⟩
    simp only [Act.put, List.getElem_toArray, List.getElem_cons_succ, List.getElem_cons_zero, List.setIfInBounds_toArray, List.set_cons_zero, List.set_cons_succ]
    refine wpAnyH_take (i := 14) rfl (by kernel_rfl) (by kernel_rfl) (by kernel_rfl) (fun _ _ _ h => h) (v := undef) ?_ hS ?_
    · exact Or.inr ⟨by kernel_rfl, rfl⟩
    simp only [Act.put, List.getElem_toArray, List.getElem_cons_succ, List.getElem_cons_zero, List.setIfInBounds_toArray, List.set_cons_zero, List.set_cons_succ]
    refine wpAnyH_take (i := 15) rfl (by kernel_rfl) (by kernel_rfl) (by kernel_rfl) (fun _ _ _ h => h) (v := undef) ?_ hS ?_
    · exact Or.inr ⟨by kernel_rfl, rfl⟩
    simp only [Act.put, List.getElem_toArray, List.getElem_cons_succ, List.getElem_cons_zero, List.setIfInBounds_toArray, List.set_cons_zero, List.set_cons_succ]
    refine wpAnyH_take (i := 16) rfl (by kernel_rfl) (by kernel_rfl) (by kernel_rfl) (fun _ _ _ h => h) (v := .bool true) ?_ hS ?_
    · exact Or.inl ⟨by kernel_rfl, fun wx hSx => by (try dsimp only at hSx); go_simp⟩
    simp only [Act.put, List.getElem_toArray, List.getElem_cons_succ, List.getElem_cons_zero, List.setIfInBounds_toArray, List.set_cons_zero, List.set_cons_succ]
    refine wpAnyH_take (i := 17) rfl (by kernel_rfl) (by kernel_rfl) (by kernel_rfl) (fun _ _ _ h => h) (v := .bool true) ?_ hS ?_
    · exact Or.inl ⟨by kernel_rfl, fun wx hSx => by (try dsimp only at hSx); go_simp⟩
    simp only [Act.put, List.getElem_toArray, List.getElem_cons_succ, List.getElem_cons_zero, List.setIfInBounds_toArray, List.set_cons_zero, List.set_cons_succ]
    refine wpAnyH_ready (rs := [18]) (by kernel_rfl) (by simp) ?_
    refine AllReadyH.cons rfl (fun K hK => ?_) AllReadyH.nil
    go_simp
    refine (H9.out _ (KeepW.drew HK30.out)).mono ?_
    rintro e W6 ⟨rfl, hk6⟩
    dsimp only
    refine hK.out _ _ (HC3.out _ hk6) (fun hS6 => ?_)
    clear hK K hS
    try simp only [Act.put, List.getElem_toArray, List.getElem_cons_succ, List.getElem_cons_zero, List.setIfInBounds_toArray, List.set_cons_zero, List.set_cons_succ]
    refine wpAnyH_take (i := 19) rfl (by kernel_rfl) (by kernel_rfl) (by kernel_rfl) (fun _ _ _ h => h) (v := .bool true) ?_ hS6 ?_
    · exact Or.inl ⟨by kernel_rfl, fun wx hSx => by (try dsimp only at hSx); go_simp⟩
    simp only [Act.put, List.getElem_toArray, List.getElem_cons_succ, List.getElem_cons_zero, List.setIfInBounds_toArray, List.set_cons_zero, List.set_cons_succ]
    refine wpAnyH_take (i := 20) rfl (by kernel_rfl) (by kernel_rfl) (by kernel_rfl) (fun _ _ _ h => h) (v := .bool true) ?_ hS6 ?_
    · exact Or.inl ⟨by kernel_rfl, fun wx hSx => by (try dsimp only at hSx); go_simp⟩
    simp only [Act.put, List.getElem_toArray, List.getElem_cons_succ, List.getElem_cons_zero, List.setIfInBounds_toArray, List.set_cons_zero, List.set_cons_succ]
    refine wpAnyH_done (by kernel_rfl) ?_ _
    have HBF := Lib.hid (HB.out _ (HKS.out _ hk6))
    go_wp2_with fail
    go_ret
    refine ⟨?_, HBF.out⟩
    rfl
  have heq : ((eb : Int) != 0) = false := by rw [heb]; rfl
  have hue : (ta.toList == tb.toList) = sm := HUE.out hea heb
  have hsm : (sm == sm) = true := beq_self_eq_true _
  clear hea heb HUE
  go_wp2
  go_region_held3 (fun w' => (w'.cell? ⟨w.heap.size, 0, none⟩ = some (.int .u8 (nd.k : Int)) ∧ w'.cell? ⟨w.heap.size, 1, none⟩ = some (.string nd.d) ∧ w'.cell? ⟨w.heap.size, 2, none⟩ = some (.slice A nd.es.len c)) ∧ (w'.cell? ⟨w.heap.size + 1, 0, none⟩ = some (.int .u8 (x.k : Int)) ∧ w'.cell? ⟨w.heap.size + 1, 1, none⟩ = some (.string x.d) ∧ w'.cell? ⟨w.heap.size + 1, 2, none⟩ = some (.slice Ax x.es.len cx)) ∧ (convert 27 9 (.slice Aa la ca)).run Try.prog w' = .ok (.string ta) w' ∧ (convert 27 9 (.slice Ab lb cb)).run Try.prog w' = .ok (.string tb) w') (first | exact HC3.out _ (by first | assumption | exact KeepW.drew HK30.out | exact KeepW.drew (by assumption)) | go_keep) (first
    | (go_at_call 16; refine (H1.out _ (by first | assumption | exact KeepW.drew HK30.out)).mono ?_; rintro e W5 ⟨rfl, hk5⟩)
    | (go_at_call 9; refine (H9.out _ (by first | assumption | exact KeepW.drew HK30.out)).mono ?_; rintro e W5 ⟨rfl, hk5⟩))
  all_goals
    have HBF := Lib.hid (HB.out _ (HKS.out _ hk5))
    go_wp2_with fail
    go_ret
    exact ⟨rfl, HBF.out⟩
end Go.Proofs.Ytcleebigfbbdbaa
