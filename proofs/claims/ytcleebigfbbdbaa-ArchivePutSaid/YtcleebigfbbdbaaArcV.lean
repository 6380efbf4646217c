/- archive: ArchivePut, walked. -/
import Derived.Test.YtcleebigfbbdbaaArcU
import Derived.Test.YtcleebigfbbdbaaFilSb
import Derived.Test.YtcleebigfbbdbaaFilSd
import Derived.Deep.RegionHeld3
set_option linter.unusedVariables false
set_option linter.unusedSimpArgs false
namespace Go.Proofs.Ytcleebigfbbdbaa
open Go Go.RowKit Go.BigFrame
open Fil (Es Nd Sp)
open Arc (BL num4 num2 encT letK encE encN sizE sizN rfN rdN rfE rdE rdT rd2 beN)
attribute [local go_sem] Oper.semAt_some

theorem put_len {nd : Nd} {l : BL} (h : putA nd = (0, l)) : lenR nd = l.length := by
  unfold putA at h
  split at h
  · rename_i hr
    split at h
    · cases h
    · cases h
      unfold lenR
      rw [hr]
      simp [Arc.encN_len]
      omega
  · cases h
set_option maxRecDepth 1000000 in
set_option maxRecDepth 100000 in
set_option maxHeartbeats 8000000 in
theorem archivePut_walk (v : Value) (nd : Nd) (w : World) (hv : NdV w w.heap.size v nd) : Calls Try.prog 3 #[v] w fun e w' => e = .returned (.bool true) ∧ Below w.heap.size w w' := by
  obtain ⟨ev, rfl, hes, hd, hk⟩ := hv
  obtain ⟨A, c, rfl, hlc, hcm⟩ := hes.form
  have HWK := Lib.hid aworks_any
  go_enter Try.func3, Try.ntmps3
  obtain ⟨w1, e1, hg1, hb1, hz1⟩ : ∃ w1, w1 = w.alloc (.cells #[.int .u8 (nd.k : Int), .string nd.d, .slice A nd.es.len c] 24) ∧ w1.heap[w.heap.size]? = some (.cells #[.int .u8 (nd.k : Int), .string nd.d, .slice A nd.es.len c] 24 (0, 0)) ∧ Below w.heap.size w w1 ∧ w1.heap.size = w.heap.size + 1 := ⟨_, rfl, heap_alloc_new _ _, (Below.refl _ _).alloc (Nat.le_refl _) _, by simp⟩
  go_upto_region 1 with (fail)
  rw [← e1]
  clear e1
  have HV := Lib.hid (fun (w' : World) (h : KeepW w1 w1.heap.size w') => show NdV w' w.heap.size (.agg #[.int .u8 (nd.k : Int), .string nd.d, .slice A nd.es.len c]) nd from ⟨_, rfl, hes.keep (below_step hb1 h.1 (by omega)), hd, hk⟩)
  have HC := Lib.hid (fun (w' : World) (h : KeepW w1 w1.heap.size w') => show w'.cell? ⟨w.heap.size, 0, none⟩ = some (.int .u8 (nd.k : Int)) ∧ w'.cell? ⟨w.heap.size, 1, none⟩ = some (.string nd.d) ∧ w'.cell? ⟨w.heap.size, 2, none⟩ = some (.slice A nd.es.len c) from by
    have h1 := nd_box (W := w') (k := nd.k) (d := nd.d) (v := .slice A nd.es.len c) ((h.1.block w.heap.size (by omega)).trans hg1)
    exact ⟨h1.1, h1.2.1, h1.2.2.1⟩)
  have HB := Lib.hid (fun (w' : World) (h : KeepW w1 w1.heap.size w') => below_step hb1 h.1 (by omega))
  have HK0 := Lib.hid (KeepW.start (Nat.le_refl w1.heap.size))
  have HZ := Lib.hid hz1
  have HWE := Lib.hid (wei_calls 3000 (by decide) nd w1 w.heap.size (by omega) _ (HV.out w1 HK0.out))
  obtain ⟨hn0, hn1, hn2⟩ := HC.out w1 HK0.out
  clear hg1 hb1 hz1 hes
  go_wp2_with fail
  refine HWE.out.mono ?_
  rintro e W1 ⟨hb1, r, rfl, hr1, hr2, hr3⟩
  have HK1 := Lib.hid (HK0.out.step hb1)
  clear hb1 hn0 hn1 hn2
  rcases Nat.lt_or_ge 3000 r with hr | hr
  · have hrI : decide ((3000 : Int) < (r : Int)) = true := decide_eq_true (by omega)
    clear hr hr1 hr2 hr3
    go_wp2_with fail
    refine (HWK.out W1).mono ?_
    rintro e W2 ⟨rfl, hb2⟩
    have HB2 := Lib.hid (HB.out W2 (HK1.out.step hb2))
    clear hb2
    go_wp2_with fail
    go_ret
    exact ⟨rfl, HB2.out⟩
  have hrI : decide ((3000 : Int) < (r : Int)) = false := decide_eq_false (by omega)
  have hw : weiN nd ≤ 3000 := by rw [← hr2 hr]; exact hr
  have hcn : nd.es.count ≤ 3000 := by have h1 := wei_count nd.es; unfold weiN at hw; omega
  clear hr hr1 hr2 hr3 hw
  have HCN := Lib.hid hcn
  clear hcn
  -- both archives
  obtain ⟨hn0, hn1, hn2⟩ := HC.out W1 HK1.out
  have HP1 := Lib.hid (putArc_any nd (by have := HCN.out; omega) W1 w.heap.size (by have := HK1.out.2; have := HZ.out; omega) _ (HV.out W1 HK1.out))
  go_wp2_with fail
  refine HP1.out.mono ?_
  rintro e W2 ⟨hb2, va, rfl, hva⟩
  obtain ⟨Aa, ca, rfl, hca⟩ := hva.form
  have HK2 := Lib.hid (HK1.out.step hb2)
  have HVA := Lib.hid hva
  clear hb2 hn0 hn1 hn2 hva hca
  obtain ⟨hn0, hn1, hn2⟩ := HC.out W2 HK2.out
  have HP2 := Lib.hid (refPut_any nd (by have := HCN.out; omega) W2 w.heap.size (by have := HK2.out.2; have := HZ.out; omega) _ (HV.out W2 HK2.out))
  go_wp2_with fail
  refine HP2.out.mono ?_
  rintro e W3 ⟨hb3, vb, rfl, hvb⟩
  obtain ⟨Ab, cb, rfl, hcb⟩ := hvb.form
  have HK3 := Lib.hid (HK2.out.step hb3)
  have HVA3 := Lib.hid ((HVA.out.keep hb3).more hb3.size)
  have HVB3 := Lib.hid hvb
  clear hb3 hn0 hn1 hn2 hvb hcb
  have HKS := Lib.hid (fun (w' : World) (h : KeepW W3 W3.heap.size w') => HK3.out.step h.1)
  have HK30 := Lib.hid (KeepW.start (Nat.le_refl W3.heap.size))
  have HC3 := Lib.hid (fun (w' : World) (h : KeepW W3 W3.heap.size w') => show (w'.cell? ⟨w.heap.size, 0, none⟩ = some (.int .u8 (nd.k : Int)) ∧ w'.cell? ⟨w.heap.size, 1, none⟩ = some (.string nd.d) ∧ w'.cell? ⟨w.heap.size, 2, none⟩ = some (.slice A nd.es.len c)) ∧ (convert 27 9 (.slice Aa (putA nd).2.length ca)).run Try.prog w' = .ok (.string (strOf (putA nd).2)) w' ∧ (convert 27 9 (.slice Ab (putA nd).2.length cb)).run Try.prog w' = .ok (.string (strOf (putA nd).2)) w' from
    ⟨HC.out w' (HKS.out w' h), (HVA3.out.keep h.1).conv, (HVB3.out.keep h.1).conv⟩)
  have H1 := Lib.hid (fun (w' : World) (h : KeepW W3 W3.heap.size w') => h.calls (len_any nd (by have := HCN.out; omega) w' w.heap.size (by have := (HKS.out w' h).2; have := HZ.out; omega) _ (HV.out w' (HKS.out w' h))))
  have H2 := Lib.hid (fun (w' : World) (h : KeepW W3 W3.heap.size w') => h.calls (refLen_any nd (by have := HCN.out; omega) w' w.heap.size (by have := (HKS.out w' h).2; have := HZ.out; omega) _ (HV.out w' (HKS.out w' h))))
  have H9 := Lib.hid (fun (w' : World) (h : KeepW W3 W3.heap.size w') => h.calls (aworks_any w'))
  have HPL := Lib.hid (show (putA nd).1 = 0 → lenR nd = (putA nd).2.length from fun h => put_len (l := (putA nd).2) (by rw [← h]))
  clear HP1 HP2 HVA HVA3 HVB3 HWE HV HWK
  generalize strOf (putA nd).2 = tt at *
  generalize (putA nd).2.length = len at *
  generalize (putA nd).1 = ec at *
  generalize lenR nd = ln at *
  have htt : (tt.toList == tt.toList) = true := beq_self_eq_true _
  have hee : ((ec : Int) == (ec : Int)) = true := beq_self_eq_true _
  have hnn : ((ln : Int) == (ln : Int)) = true := beq_self_eq_true _
  by_cases hec : ec = 0
  · have hez : ((ec : Int) != 0) = false := by rw [hec]; rfl
    have hln : ((len : Int) == (ln : Int)) = true := by rw [HPL.out hec]; exact beq_self_eq_true _
    clear hec HPL
    go_wp2
    go_region_held3 (fun w' => (w'.cell? ⟨w.heap.size, 0, none⟩ = some (.int .u8 (nd.k : Int)) ∧ w'.cell? ⟨w.heap.size, 1, none⟩ = some (.string nd.d) ∧ w'.cell? ⟨w.heap.size, 2, none⟩ = some (.slice A nd.es.len c)) ∧ (convert 27 9 (.slice Aa len ca)).run Try.prog w' = .ok (.string tt) w' ∧ (convert 27 9 (.slice Ab len cb)).run Try.prog w' = .ok (.string tt) w') (first | exact HC3.out _ (by first | assumption | exact KeepW.drew HK30.out | exact KeepW.drew (by assumption)) | go_keep) (first
      | (go_at_call 12; refine (H1.out _ (by first | assumption | exact KeepW.drew HK30.out)).mono ?_; rintro e W4 ⟨rfl, hk4⟩)
      | (go_at_call 13; refine (H2.out _ (by first | assumption | exact KeepW.drew HK30.out)).mono ?_; rintro e W4 ⟨rfl, hk4⟩)
      | (go_at_call 9; refine (H9.out _ (by first | assumption | exact KeepW.drew HK30.out)).mono ?_; rintro e W4 ⟨rfl, hk4⟩))
    all_goals
      have HBF := Lib.hid (HB.out _ (HKS.out _ hk4))
      go_wp2_with fail
      go_ret
      exact ⟨rfl, HBF.out⟩
  · have hez : ((ec : Int) != 0) = true := bne_iff_ne.2 (by omega)
    clear hec HPL
    go_wp2
    refine wp_region_held (S := fun w' => (w'.cell? ⟨w.heap.size, 0, none⟩ = some (.int .u8 (nd.k : Int)) ∧ w'.cell? ⟨w.heap.size, 1, none⟩ = some (.string nd.d) ∧ w'.cell? ⟨w.heap.size, 2, none⟩ = some (.slice A nd.es.len c)) ∧ (convert 27 9 (.slice Aa len ca)).run Try.prog w' = .ok (.string tt) w' ∧ (convert 27 9 (.slice Ab len cb)).run Try.prog w' = .ok (.string tt) w') (by kernel_rfl) ?_
    have hS := HC3.out _ (KeepW.drew HK30.out)
    change wpAnyH _ _ _ _ _ _ _ _ W3.drew
    refine wpAnyH_take (i := 0) rfl (by kernel_rfl) (by kernel_rfl) (by kernel_rfl) (fun _ _ _ h => h) (v := .int .i64 (ec : Int)) ?_ hS ?_
    · exact Or.inl ⟨by kernel_rfl, fun wx hSx => by (try dsimp only at hSx); go_simp⟩
    simp only [Act.put, List.getElem_toArray, List.getElem_cons_succ, List.getElem_cons_zero, List.setIfInBounds_toArray, List.set_cons_zero, List.set_cons_succ]
    refine wpAnyH_take (i := 1) rfl (by kernel_rfl) (by kernel_rfl) (by kernel_rfl) (fun _ _ _ h => h) (v := .int .i64 (ec : Int)) ?_ hS ?_
    · exact Or.inl ⟨by kernel_rfl, fun wx hSx => by (try dsimp only at hSx); go_simp⟩
    simp only [Act.put, List.getElem_toArray, List.getElem_cons_succ, List.getElem_cons_zero, List.setIfInBounds_toArray, List.set_cons_zero, List.set_cons_succ]
    refine wpAnyH_take (i := 2) rfl (by kernel_rfl) (by kernel_rfl) (by kernel_rfl) (fun _ _ _ h => h) (v := .bool true) ?_ hS ?_
    · exact Or.inl ⟨by kernel_rfl, fun wx hSx => by (try dsimp only at hSx); go_simp⟩
    simp only [Act.put, List.getElem_toArray, List.getElem_cons_succ, List.getElem_cons_zero, List.setIfInBounds_toArray, List.set_cons_zero, List.set_cons_succ]
    refine wpAnyH_take (i := 3) rfl (by kernel_rfl) (by kernel_rfl) (by kernel_rfl) (fun _ _ _ h => h) (v := .bool true) ?_ hS ?_
    · exact Or.inl ⟨by kernel_rfl, fun wx hSx => by (try dsimp only at hSx); go_simp⟩
    simp only [Act.put, List.getElem_toArray, List.getElem_cons_succ, List.getElem_cons_zero, List.setIfInBounds_toArray, List.set_cons_zero, List.set_cons_succ]
    refine wpAnyH_take (i := 4) rfl (by kernel_rfl) (by kernel_rfl) (by kernel_rfl) (fun _ _ _ h => h) (v := .slice Aa len ca) ?_ hS ?_
    · exact Or.inl ⟨by kernel_rfl, fun wx hSx => by (try dsimp only at hSx); go_simp⟩
    simp only [Act.put, List.getElem_toArray, List.getElem_cons_succ, List.getElem_cons_zero, List.setIfInBounds_toArray, List.set_cons_zero, List.set_cons_succ]
    refine wpAnyH_take (i := 5) rfl (by kernel_rfl) (by kernel_rfl) (by kernel_rfl) (fun _ _ _ h => h) (v := .string tt) ?_ hS ?_
    · exact Or.inl ⟨by kernel_rfl, fun wx hSx => by (try dsimp only at hSx); go_simp⟩
    simp only [Act.put, List.getElem_toArray, List.getElem_cons_succ, List.getElem_cons_zero, List.setIfInBounds_toArray, List.set_cons_zero, List.set_cons_succ]
    refine wpAnyH_take (i := 6) rfl (by kernel_rfl) (by kernel_rfl) (by kernel_rfl) (fun _ _ _ h => h) (v := .slice Ab len cb) ?_ hS ?_
    · exact Or.inl ⟨by kernel_rfl, fun wx hSx => by (try dsimp only at hSx); go_simp⟩
    simp only [Act.put, List.getElem_toArray, List.getElem_cons_succ, List.getElem_cons_zero, List.setIfInBounds_toArray, List.set_cons_zero, List.set_cons_succ]
    refine wpAnyH_take (i := 7) rfl (by kernel_rfl) (by kernel_rfl) (by kernel_rfl) (fun _ _ _ h => h) (v := .string tt) ?_ hS ?_
    · exact Or.inl ⟨by kernel_rfl, fun wx hSx => by (try dsimp only at hSx); go_simp⟩
    simp only [Act.put, List.getElem_toArray, List.getElem_cons_succ, List.getElem_cons_zero, List.setIfInBounds_toArray, List.set_cons_zero, List.set_cons_succ]
    refine wpAnyH_take (i := 8) rfl (by kernel_rfl) (by kernel_rfl) (by kernel_rfl) (fun _ _ _ h => h) (v := .bool true) ?_ hS ?_
    · exact Or.inl ⟨by kernel_rfl, fun wx hSx => by (try dsimp only at hSx); go_simp⟩
    simp only [Act.put, List.getElem_toArray, List.getElem_cons_succ, List.getElem_cons_zero, List.setIfInBounds_toArray, List.set_cons_zero, List.set_cons_succ]
    refine wpAnyH_take (i := 9) rfl (by kernel_rfl) (by kernel_rfl) (by kernel_rfl) (fun _ _ _ h => h) (v := .bool true) ?_ hS ?_
    · exact Or.inl ⟨by kernel_rfl, fun wx hSx => by (try dsimp only at hSx); go_simp⟩
    simp only [Act.put, List.getElem_toArray, List.getElem_cons_succ, List.getElem_cons_zero, List.setIfInBounds_toArray, List.set_cons_zero, List.set_cons_succ]
    refine wpAnyH_take (i := 10) rfl (by kernel_rfl) (by kernel_rfl) (by kernel_rfl) (fun _ _ _ h => h) (v := .bool true) ?_ hS ?_
    · exact Or.inl ⟨by kernel_rfl, fun wx hSx => by (try dsimp only at hSx); go_simp⟩
    simp only [Act.put, List.getElem_toArray, List.getElem_cons_succ, List.getElem_cons_zero, List.setIfInBounds_toArray, List.set_cons_zero, List.set_cons_succ]
    refine wpAnyH_take (i := 11) rfl (by kernel_rfl) (by kernel_rfl) (by kernel_rfl) (fun _ _ _ h => h) (v := .agg #[.int .u8 (nd.k : Int), .string nd.d, .slice A nd.es.len c]) ?_ hS ?_
    · exact Or.inl ⟨by kernel_rfl, fun wx hSx => by (try dsimp only at hSx); go_simp⟩
    simp only [Act.put, List.getElem_toArray, List.getElem_cons_succ, List.getElem_cons_zero, List.setIfInBounds_toArray, List.set_cons_zero, List.set_cons_succ]
    refine wpAnyH_take (i := 13) rfl (by kernel_rfl) (by kernel_rfl) (by kernel_rfl) (fun _ _ _ h => h) (v := .agg #[.int .u8 (nd.k : Int), .string nd.d, .slice A nd.es.len c]) ?_ hS ?_
    · exact Or.inl ⟨by kernel_rfl, fun wx hSx => by (try dsimp only at hSx); go_simp⟩
    simp only [Act.put, List.getElem_toArray, List.getElem_cons_succ, List.getElem_cons_zero, List.setIfInBounds_toArray, List.set_cons_zero, List.set_cons_succ]
    refine wpAnyH_ready (rs := [12]) (by kernel_rfl) (by simp) ?_
    refine AllReadyH.cons rfl (fun K hK => ?_) AllReadyH.nil
    go_simp
    refine (H1.out _ (KeepW.drew HK30.out)).mono ?_
    rintro e W4 ⟨rfl, hk4⟩
    dsimp only
    refine hK.out _ _ (HC3.out _ hk4) (fun hS4 => ?_)
    clear hK K hS
    try simp only [Act.put, List.getElem_toArray, List.getElem_cons_succ, List.getElem_cons_zero, List.setIfInBounds_toArray, List.set_cons_zero, List.set_cons_succ]
    refine wpAnyH_ready (rs := [14]) (by kernel_rfl) (by simp) ?_
    refine AllReadyH.cons rfl (fun K hK => ?_) AllReadyH.nil
    go_simp
    refine (H2.out _ (hk4)).mono ?_
    rintro e W5 ⟨rfl, hk5⟩
    dsimp only
    refine hK.out _ _ (HC3.out _ hk5) (fun hS5 => ?_)
    clear hK K hS4
    try simp only [Act.put, List.getElem_toArray, List.getElem_cons_succ, List.getElem_cons_zero, List.setIfInBounds_toArray, List.set_cons_zero, List.set_cons_succ]
    refine wpAnyH_take (i := 15) rfl (by kernel_rfl) (by kernel_rfl) (by kernel_rfl) (fun _ _ _ h => h) (v := .bool true) ?_ hS5 ?_
    · exact Or.inl ⟨by kernel_rfl, fun wx hSx => by (try dsimp only at hSx); go_simp⟩
    simp only [Act.put, List.getElem_toArray, List.getElem_cons_succ, List.getElem_cons_zero, List.setIfInBounds_toArray, List.set_cons_zero, List.set_cons_succ]
    refine wpAnyH_take (i := 16) rfl (by kernel_rfl) (by kernel_rfl) (by kernel_rfl) (fun _ _ _ h => h) (v := .bool true) ?_ hS5 ?_
    · exact Or.inl ⟨by kernel_rfl, fun wx hSx => by (try dsimp only at hSx); go_simp⟩
    simp only [Act.put, List.getElem_toArray, List.getElem_cons_succ, List.getElem_cons_zero, List.setIfInBounds_toArray, List.set_cons_zero, List.set_cons_succ]
    refine wpAnyH_take (i := 17) rfl (by kernel_rfl) (by kernel_rfl) (by kernel_rfl) (fun _ _ _ h => h) (v := .bool true) ?_ hS5 ?_
    · exact Or.inl ⟨by kernel_rfl, fun wx hSx => by (try dsimp only at hSx); go_simp⟩
    simp only [Act.put, List.getElem_toArray, List.getElem_cons_succ, List.getElem_cons_zero, List.setIfInBounds_toArray, List.set_cons_zero, List.set_cons_succ]
    refine wpAnyH_take (i := 18) rfl (by kernel_rfl) (by kernel_rfl) (by kernel_rfl) (fun _ _ _ h => h) (v := .int .i64 (ec : Int)) ?_ hS5 ?_
    · exact Or.inl ⟨by kernel_rfl, fun wx hSx => by (try dsimp only at hSx); go_simp⟩
    simp only [Act.put, List.getElem_toArray, List.getElem_cons_succ, List.getElem_cons_zero, List.setIfInBounds_toArray, List.set_cons_zero, List.set_cons_succ]
    refine wpAnyH_take (i := 19) rfl (by kernel_rfl) (by kernel_rfl) (by kernel_rfl) (fun _ _ _ h => h) (v := .bool true) ?_ hS5 ?_
    · exact Or.inl ⟨by kernel_rfl, fun wx hSx => by (try dsimp only at hSx); go_simp⟩
    simp only [Act.put, List.getElem_toArray, List.getElem_cons_succ, List.getElem_cons_zero, List.setIfInBounds_toArray, List.set_cons_zero, List.set_cons_succ]
    refine wpAnyH_take (i := 20) rfl (by kernel_rfl) (by kernel_rfl) (by kernel_rfl) (fun _ _ _ h => h) (v := .bool true) ?_ hS5 ?_
    · exact Or.inl ⟨by kernel_rfl, fun wx hSx => by (try dsimp only at hSx); go_simp⟩
    simp only [Act.put, List.getElem_toArray, List.getElem_cons_succ, List.getElem_cons_zero, List.setIfInBounds_toArray, List.set_cons_zero, List.set_cons_succ]
    refine wpAnyH_take (i := 21) rfl (by kernel_rfl) (by kernel_rfl) (by kernel_rfl) (fun _ _ _ h => h) (v := undef) ?_ hS5 ?_
    · exact Or.inr ⟨by kernel_rfl, rfl⟩
    simp only [Act.put, List.getElem_toArray, List.getElem_cons_succ, List.getElem_cons_zero, List.setIfInBounds_toArray, List.set_cons_zero, List.set_cons_succ]
    refine wpAnyH_take (i := 22) rfl (by kernel_rfl) (by kernel_rfl) (by kernel_rfl) (fun _ _ _ h => h) (v := undef) ?_ hS5 ?_
    · exact Or.inr ⟨by kernel_rfl, rfl⟩
    simp only [Act.put, List.getElem_toArray, List.getElem_cons_succ, List.getElem_cons_zero, List.setIfInBounds_toArray, List.set_cons_zero, List.set_cons_succ]
    refine wpAnyH_take (i := 23) rfl (by kernel_rfl) (by kernel_rfl) (by kernel_rfl) (fun _ _ _ h => h) (v := undef) ?_ hS5 ?_
    · exact Or.inr ⟨by kernel_rfl, rfl⟩
    simp only [Act.put, List.getElem_toArray, List.getElem_cons_succ, List.getElem_cons_zero, List.setIfInBounds_toArray, List.set_cons_zero, List.set_cons_succ]
    refine wpAnyH_take (i := 24) rfl (by kernel_rfl) (by kernel_rfl) (by kernel_rfl) (fun _ _ _ h => h) (v := undef) ?_ hS5 ?_
    · exact Or.inr ⟨by kernel_rfl, rfl⟩
    simp only [Act.put, List.getElem_toArray, List.getElem_cons_succ, List.getElem_cons_zero, List.setIfInBounds_toArray, List.set_cons_zero, List.set_cons_succ]
    refine wpAnyH_take (i := 25) rfl (by kernel_rfl) (by kernel_rfl) (by kernel_rfl) (fun _ _ _ h => h) (v := undef) ?_ hS5 ?_
    · exact Or.inr ⟨by kernel_rfl, rfl⟩
    simp only [Act.put, List.getElem_toArray, List.getElem_cons_succ, List.getElem_cons_zero, List.setIfInBounds_toArray, List.set_cons_zero, List.set_cons_succ]
    refine wpAnyH_take (i := 26) rfl (by kernel_rfl) (by kernel_rfl) (by kernel_rfl) (fun _ _ _ h => h) (v := .bool true) ?_ hS5 ?_
    · exact Or.inl ⟨by kernel_rfl, fun wx hSx => by (try dsimp only at hSx); go_simp⟩
    simp only [Act.put, List.getElem_toArray, List.getElem_cons_succ, List.getElem_cons_zero, List.setIfInBounds_toArray, List.set_cons_zero, List.set_cons_succ]
    refine wpAnyH_take (i := 27) rfl (by kernel_rfl) (by kernel_rfl) (by kernel_rfl) (fun _ _ _ h => h) (v := .bool true) ?_ hS5 ?_
    · exact Or.inl ⟨by kernel_rfl, fun wx hSx => by (try dsimp only at hSx); go_simp⟩
    simp only [Act.put, List.getElem_toArray, List.getElem_cons_succ, List.getElem_cons_zero, List.setIfInBounds_toArray, List.set_cons_zero, List.set_cons_succ]
    refine wpAnyH_take (i := 28) rfl (by kernel_rfl) (by kernel_rfl) (by kernel_rfl) (fun _ _ _ h => h) (v := .bool true) ?_ hS5 ?_
    · exact Or.inl ⟨by kernel_rfl, fun wx hSx => by (try dsimp only at hSx); go_simp⟩
    simp only [Act.put, List.getElem_toArray, List.getElem_cons_succ, List.getElem_cons_zero, List.setIfInBounds_toArray, List.set_cons_zero, List.set_cons_succ]
    refine wpAnyH_ready (rs := [29]) (by kernel_rfl) (by simp) ?_
    refine AllReadyH.cons rfl (fun K hK => ?_) AllReadyH.nil
    go_simp
    refine (H9.out _ (by assumption)).mono ?_
    rintro e W6 ⟨rfl, hk6⟩
    dsimp only
    refine hK.out _ _ (HC3.out _ hk6) (fun hS6 => ?_)
    clear hK K hS5
    try simp only [Act.put, List.getElem_toArray, List.getElem_cons_succ, List.getElem_cons_zero, List.setIfInBounds_toArray, List.set_cons_zero, List.set_cons_succ]
    refine wpAnyH_take (i := 30) rfl (by kernel_rfl) (by kernel_rfl) (by kernel_rfl) (fun _ _ _ h => h) (v := .bool true) ?_ hS6 ?_
    · exact Or.inl ⟨by kernel_rfl, fun wx hSx => by (try dsimp only at hSx); go_simp⟩
    simp only [Act.put, List.getElem_toArray, List.getElem_cons_succ, List.getElem_cons_zero, List.setIfInBounds_toArray, List.set_cons_zero, List.set_cons_succ]
    refine wpAnyH_take (i := 31) rfl (by kernel_rfl) (by kernel_rfl) (by kernel_rfl) (fun _ _ _ h => h) (v := .bool true) ?_ hS6 ?_
    · exact Or.inl ⟨by kernel_rfl, fun wx hSx => by (try dsimp only at hSx); go_simp⟩
    simp only [Act.put, List.getElem_toArray, List.getElem_cons_succ, List.getElem_cons_zero, List.setIfInBounds_toArray, List.set_cons_zero, List.set_cons_succ]
    refine wpAnyH_done (by kernel_rfl) ?_ _
    have HBF := Lib.hid (HB.out _ (HKS.out _ hk6))
    go_wp2_with fail
    go_ret
    refine ⟨?_, HBF.out⟩
    rfl
end Go.Proofs.Ytcleebigfbbdbaa
