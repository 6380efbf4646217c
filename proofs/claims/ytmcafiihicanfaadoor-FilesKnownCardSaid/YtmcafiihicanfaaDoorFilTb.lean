/- The walk of the law FilesPaths. -/
import Derived.Test.YtmcafiihicanfaaDoorFilTa
import Derived.Test.YtmcafiihicanfaaDoorFilSp
import Derived.Deep.DeepCutAuto
set_option linter.unusedVariables false
set_option linter.unusedSimpArgs false
namespace Go.Proofs.YtmcafiihicanfaaDoor
open Go Go.RowKit Go.BigFrame
open Fil (Es Nd Sp)

set_option maxRecDepth 1000000 in
set_option maxRecDepth 100000 in
set_option maxHeartbeats 8000000 in
theorem filesPaths_walk (v : Value) (nd : Nd) (k : Int) (vx : Value) (x : Nd) (w : World) (_ : True) (hv : NdV w w.heap.size v nd) (hki : (Lit.int .i64 k).wf = true) (hvx : NdV w w.heap.size vx x) : Calls Tryd.prog 8 #[v, .int .i64 k, vx] w fun e w' => e = .returned (.bool true) ∧ Below w.heap.size w w' := by
  obtain ⟨ev, rfl, hes, hd, hk⟩ := hv
  obtain ⟨A, c, rfl, hlc, hcm⟩ := hes.form
  obtain ⟨ex, rfl, hex, hdx, hkx⟩ := hvx
  obtain ⟨Ax, cx, rfl, hlcx, hcmx⟩ := hex.form
  have HKI := Lib.hid (bounds_i64 hki)
  clear hki
  have HWK := Lib.hid works_any
  go_enter Tryd.func8, Tryd.ntmps8
  obtain ⟨w1, e1, hg1, hg2, hb1, hz1⟩ := rows2 w (.cells #[.int .u8 (nd.k : Int), .string nd.d, .slice A nd.es.len c] 26) (.cells #[.int .u8 (x.k : Int), .string x.d, .slice Ax x.es.len cx] 26)
  go_upto_region 1 with (fail)
  rw [← e1]
  clear e1
  have HV := Lib.hid (fun (w' : World) (h : KeepW w1 w1.heap.size w') => show NdV w' w.heap.size (.agg #[.int .u8 (nd.k : Int), .string nd.d, .slice A nd.es.len c]) nd from ⟨_, rfl, hes.keep (below_step hb1 h.1 (by omega)), hd, hk⟩)
  have HVX := Lib.hid (fun (w' : World) (h : KeepW w1 w1.heap.size w') => show NdV w' w.heap.size (.agg #[.int .u8 (x.k : Int), .string x.d, .slice Ax x.es.len cx]) x from ⟨_, rfl, hex.keep (below_step hb1 h.1 (by omega)), hdx, hkx⟩)
  have HC := Lib.hid (fun (w' : World) (h : KeepW w1 w1.heap.size w') => nd_box (W := w') (k := nd.k) (d := nd.d) (v := .slice A nd.es.len c) ((h.1.block w.heap.size (by omega)).trans hg1))
  have HCX := Lib.hid (fun (w' : World) (h : KeepW w1 w1.heap.size w') => nd_box (W := w') (k := x.k) (d := x.d) (v := .slice Ax x.es.len cx) ((h.1.block (w.heap.size + 1) (by omega)).trans hg2))
  have HB := Lib.hid (fun (w' : World) (h : KeepW w1 w1.heap.size w') => below_step hb1 h.1 (by omega))
  have HK0 := Lib.hid (KeepW.start (Nat.le_refl w1.heap.size))
  have HZ := Lib.hid hz1
  have HWE := Lib.hid (wei_calls 600 (by decide) nd w1 w.heap.size (by omega) _ (HV.out w1 HK0.out))
  have HWX := Lib.hid (fun (w' : World) (h : KeepW w1 w1.heap.size w') => wei_calls 600 (by decide) x w' w.heap.size (by have := h.2; have := HZ.out; omega) _ (HVX.out w' h))
  obtain ⟨hn0, hn1, hn2, _⟩ := HC.out w1 HK0.out
  clear hg1 hg2 hb1 hz1 hes hex
  go_wp2_with fail
  refine HWE.out.mono ?_
  rintro e W1 ⟨hb, r, rfl, hr1, hr2, hr3⟩
  have HK1 := Lib.hid (HK0.out.step hb)
  clear hb hn0 hn1 hn2
  rcases Nat.lt_or_ge 600 r with hr | hr
  · have hrI : decide ((600 : Int) < (r : Int)) = true := decide_eq_true (by omega)
    clear hr hr1 hr2 hr3
    go_wp2_with fail
    refine (HWK.out W1).mono ?_
    rintro e W1w ⟨rfl, hbw⟩
    have HBw := Lib.hid (HB.out W1w (HK1.out.step hbw))
    clear hbw
    go_wp2_with fail
    go_ret
    exact ⟨rfl, HBw.out⟩
  have hrI : decide ((600 : Int) < (r : Int)) = false := decide_eq_false (by omega)
  have hwa : weiN nd ≤ 600 := by rw [← hr2 hr]; exact hr
  clear hr hr1 hr2 hr3
  obtain ⟨hm0, hm1, hm2, _⟩ := HCX.out W1 HK1.out
  go_wp2_with fail
  refine (HWX.out W1 HK1.out).mono ?_
  rintro e W2 ⟨hb, q, rfl, hr1, hr2, hr3⟩
  have HK2 := Lib.hid (HK1.out.step hb)
  clear hb hm0 hm1 hm2
  rcases Nat.lt_or_ge 600 q with hr | hr
  · have hrI : decide ((600 : Int) < (q : Int)) = true := decide_eq_true (by omega)
    clear hr hr1 hr2 hr3
    go_wp2_with fail
    refine (HWK.out W2).mono ?_
    rintro e W2w ⟨rfl, hbw⟩
    have HBw := Lib.hid (HB.out W2w (HK2.out.step hbw))
    clear hbw
    go_wp2_with fail
    go_ret
    exact ⟨rfl, HBw.out⟩
  have hrI : decide ((600 : Int) < (q : Int)) = false := decide_eq_false (by omega)
  have hwb : weiN x ≤ 600 := by rw [← hr2 hr]; exact hr
  clear hr hr1 hr2 hr3
  have HM := Lib.hid (show weiE nd.es ≤ 600 ∧ nd.es.count ≤ 600 ∧ x.es.count ≤ 600 by
    have h1 := wei_count nd.es; have h3 := wei_count x.es
    unfold weiN at hwa hwb
    exact ⟨by omega, by omega, by omega⟩)
  have hfl : nd.flat.length ≤ 1000000000 := by rw [Fil.Nd.flat_len]; unfold Fil.Nd.count; have := HM.out.2.1; omega
  have HFL := Lib.hid hfl
  clear hwa hwb hfl
  have HPP := Lib.hid (fun (w' : World) (h : KeepW w1 w1.heap.size w') => callsIn_wide.1 (paths_any 6 (Nat.le_refl _) _ nd w' ((HV.out w' h).more (by have := h.2; have := HZ.out; omega)) HFL.out))
  have HPA := Lib.hid (fun (w' : World) (h : KeepW w1 w1.heap.size w') => refPaths_any w' w.heap.size (by have := h.2; have := HZ.out; omega) _ nd (HV.out w' h) (by have := HM.out.1; omega))
  have HCO := Lib.hid (fun (w' : World) (h : KeepW w1 w1.heap.size w') => callsIn_wide.1 (count_any 3 (Nat.le_refl _) _ nd w' ((HV.out w' h).more (by have := h.2; have := HZ.out; omega)) HFL.out))
  rw [pathsQ_R] at HPA
  unfold PathsPost at HPP
  obtain ⟨L, hL⟩ : ∃ L, L = pathsR nd := ⟨_, rfl⟩
  rw [← hL] at HPP HPA
  have HL := Lib.hid hL
  clear hL
  obtain ⟨hn0, hn1, hn2, _⟩ := HC.out W2 HK2.out
  go_wp2_with fail
  refine (HPP.out W2 HK2.out).mono ?_
  rintro e W3 ⟨hb3, v3, rfl, hown3⟩
  have HRD3 := Lib.hid (show RdT.Reads W3 W3.heap.size v3 (RdT.strs L) from RdT.Reads.own hown3)
  obtain ⟨htx, gr, cap, rfl⟩ := txc_of_own hown3
  have hcap : L.length ≤ cap := by
    obtain ⟨A', cp, e, h1, _⟩ := HRD3.out
    injection e with _ _ e3
    rw [RdT.strs_len] at h1
    omega
  have HTX := Lib.hid htx
  have HK3 := Lib.hid (HK2.out.step hb3)
  clear hb3 hown3 hn0 hn1 hn2 htx
  obtain ⟨hn0, hn1, hn2, _⟩ := HC.out W3 HK3.out
  go_wp2_with fail
  refine (HPA.out W3 HK3.out).mono ?_
  rintro e W4 ⟨hb4, v4, rfl, hown4⟩
  have HR4 := Lib.hid ((KeepW.start (Nat.le_refl W3.heap.size)).step hb4)
  have HK4 := Lib.hid (HK3.out.step hb4)
  have HST := Lib.hid ((RdT.sameTexts_any (.slice gr L.length cap) v4 L L W4.heap.size W4 ((HRD3.out.below HR4.out.1).more HR4.out.2) (RdT.Reads.own hown4)).mono (fun e W hq => (show e = .returned (.bool true) ∧ Below W4.heap.size W4 W from by
    obtain ⟨h1, nq, h2⟩ := hq
    rw [h2]
    exact ⟨by rw [h1]; simp, below_drewN (Below.refl _ _) nq⟩)))
  clear hb4 hown4 hn0 hn1 hn2
  go_wp2_with fail
  refine HST.out.mono ?_
  rintro e W5 ⟨rfl, hb5⟩
  have HR5 := Lib.hid (HR4.out.step hb5)
  have HK5 := Lib.hid (HK4.out.step hb5)
  clear hb5
  rcases Nat.eq_zero_or_pos L.length with hz | hz
  · have hzI : ((L.length : Int) == 0) = true := by rw [hz]; rfl
    clear hz
    go_wp2_with fail
    refine (HWK.out W5).mono ?_
    rintro e W5w ⟨rfl, hbw⟩
    have HBw := Lib.hid (HB.out W5w (HK5.out.step hbw))
    clear hbw
    go_wp2_with fail
    go_ret
    exact ⟨rfl, HBw.out⟩
  have hzI : ((L.length : Int) == 0) = false := beq_eq_false_iff_ne.2 (by omega)
  have HRT := Lib.hid (show nd.right = true by
    have h := HL.out
    unfold pathsR at h
    cases hr : nd.right with
    | true => rfl
    | false => rw [hr, if_neg Bool.false_ne_true] at h; rw [h] at hz; exact absurd hz (Nat.lt_irrefl 0))
  have HLP := Lib.hid (show L = nd.paths by have h := HL.out; unfold pathsR at h; rw [HRT.out, if_pos rfl] at h; exact h)
  have HLC := Lib.hid (show L.length = nd.count by rw [HLP.out]; exact paths_len nd)
  have hlm : L.length ≤ 601 := by have := HLC.out; unfold Fil.Nd.count at this; have := HM.out.2.1; omega
  go_wp2_with fail
  refine (pick_any k L.length HKI.out.1 HKI.out.2 (by omega) W5).mono ?_
  rintro e W5' ⟨hw5, j, rfl, hj⟩
  obtain rfl : W5 = W5' := hw5.symm
  have hjl := hj hz
  clear hj
  obtain ⟨p, hp⟩ : ∃ p, L[j]? = some p := ⟨_, List.getElem?_eq_getElem hjl⟩
  obtain ⟨gg, cap', hgg, hge, hcp⟩ := txc_cell (txc_keep HTX.out (fun g _ hg => HR5.out.1.block g hg)) hp
  injection hge with hge1 _ hge2
  subst hge1
  subst hge2
  have hjI : (j : Int) < (L.length : Int) := by omega
  have hj0 : (0 : Int) ≤ (j : Int) := by omega
  have HPM := Lib.hid (show p ∈ nd.paths by rw [← HLP.out]; exact List.mem_of_getElem? hp)
  have HPS := Lib.hid (path_facts HRT.out HPM.out).1
  have HPU := Lib.hid (fun (w' : World) (h : KeepW w1 w1.heap.size w') => put_any w' w.heap.size (by have := h.2; have := HZ.out; omega) _ _ nd x (HV.out w' h) (HVX.out w' h) p (by have := HPS.out; omega) (by have := HM.out.2.1; omega) (by have := HM.out.2.2; omega))
  unfold PutPost at HPU
  obtain ⟨r1, y, hry⟩ : ∃ r1 y, putR nd p x = (r1, y) := ⟨_, _, rfl⟩
  have HYC := Lib.hid (show y.es.count ≤ 1201 by have h1 : y.es.count ≤ _ := (by have h := putR_count nd x p; rw [hry] at h; exact h); have := HM.out.2.1; have := HM.out.2.2; omega)
  rw [hry] at HPU
  have HRY := Lib.hid hry
  clear hry hp hzI
  obtain ⟨hn0, hn1, hn2, _⟩ := HC.out W5 HK5.out
  obtain ⟨hm0, hm1, hm2, _⟩ := HCX.out W5 HK5.out
  go_wp2_with fail
  refine (HPU.out W5 HK5.out).mono ?_
  rintro e W6 ⟨hb6, v6, rfl, ev6, rfl, hes6, hd6, hk6⟩
  obtain ⟨A6, c6, rfl, _, _⟩ := hes6.form
  obtain ⟨w6, e6, hg6, hb66⟩ : ∃ w6, w6 = W6.alloc (.cells #[.int .u8 (y.k : Int), .string y.d, .slice A6 y.es.len c6] 26) ∧ w6.heap[W6.heap.size]? = some (.cells #[.int .u8 (y.k : Int), .string y.d, .slice A6 y.es.len c6] 26 (0, 0)) ∧ Below W6.heap.size W6 w6 := ⟨_, rfl, heap_alloc_new _ _, (Below.refl _ _).alloc (Nat.le_refl _) _⟩
  have HK6 := Lib.hid ((HK5.out.step hb6).step hb66)
  have HR6 := Lib.hid ((HR5.out.step hb6).step hb66)
  have HY6 := Lib.hid (show NdV w6 w6.heap.size (.agg #[.int .u8 (y.k : Int), .string y.d, .slice A6 y.es.len c6]) y from ⟨_, rfl, (hes6.keep hb66).more hb66.size, hd6, hk6⟩)
  have HG6 := Lib.hid hg6
  clear hn0 hn1 hn2 hm0 hm1 hm2 hb6 hes6 hb66 hg6 hcp hjI hj0
  go_upto_region 10 with (fail)
  rw [← e6]
  clear e6
  generalize W6.heap.size = g6 at *
  have HKK := Lib.hid (fun (w' : World) (h : KeepW w6 w6.heap.size w') => show KeepW w1 w1.heap.size w' from ⟨below_step HK6.out.1 h.1 HK6.out.2, Nat.le_trans HK6.out.2 h.2⟩)
  have HC6 := Lib.hid (fun (w' : World) (h : KeepW w6 w6.heap.size w') => nd_box (W := w') (k := y.k) (d := y.d) (v := .slice A6 y.es.len c6) ((h.1.block g6 (block_lt HG6.out)).trans HG6.out))
  have HT6 := Lib.hid (fun (w' : World) (h : KeepW w6 w6.heap.size w') => show TxC w' W2.heap.size (.slice (some ⟨gg, 0, none⟩) L.length cap) L from txc_keep HTX.out (fun g _ hg => (h.1.block g (by have := HR6.out.2; omega)).trans (HR6.out.1.block g hg)))
  have HNL := Lib.hid (show L.Nodup by rw [HLP.out]; exact paths_nodup (may_parts HRT.out))
  have hcm2 : cap ≤ maxLen := by
    obtain ⟨A', cp, e, _, h1, _⟩ := HRD3.out
    injection e with _ _ e3
    omega
  go_wp2
  go_loopg [11] L.length (fun g u11 wx => ∃ i : Nat, u11 = .int .i64 (i : Int) ∧ i + g = L.length ∧ Hid (KeepW w6 w6.heap.size wx))
  case atStart => exact ⟨0, rfl, by omega, KeepW.start (Nat.le_refl _)⟩
  case round =>
    obtain ⟨i, rfl, hig, HW⟩ := hrel
    cases gk with
    | zero =>
      obtain rfl : i = L.length := by omega
      by_cases hr0 : r1 = 0
      rotate_left
      · have hr0I : ((r1 : Int) == 0) = false := beq_eq_false_iff_ne.2 (by omega)
        go_wp2_with fail
        refine (HWK.out wr).mono ?_
        rintro e wrw ⟨rfl, hbw⟩
        have HBw := Lib.hid (HB.out wrw ((HKK.out _ HW.out).step hbw))
        clear hbw
        go_wp2_with fail
        go_ret
        exact ⟨rfl, HBw.out⟩
      have hr0I : ((r1 : Int) == 0) = true := by rw [hr0]; rfl
      have HPF := Lib.hid (put_facts HRT.out HPM.out (by rw [HRY.out, hr0]))
      have hr0H := Lib.hid hr0
      clear hr0
      have HAT := Lib.hid (at_any wr w6.heap.size HW.out.2 _ y (HY6.out.keep HW.out.1) p (by have := HPS.out; omega))
      unfold AtPost at HAT
      rw [HPF.out.2.1] at HAT
      obtain ⟨hn0, hn1, hn2, _⟩ := HC6.out wr HW.out
      go_wp2_with fail
      refine HAT.out.mono ?_
      rintro e W7 ⟨hb7, v7, rfl, ev7, rfl, hes7, hd7, hk7⟩
      obtain ⟨A7, c7, rfl, _, _⟩ := hes7.form
      obtain ⟨w8, e8, hg8, hb8⟩ : ∃ w8, w8 = W7.alloc (.cells #[.int .u8 (x.k : Int), .string x.d, .slice A7 x.es.len c7] 26) ∧ w8.heap[W7.heap.size]? = some (.cells #[.int .u8 (x.k : Int), .string x.d, .slice A7 x.es.len c7] 26 (0, 0)) ∧ Below W7.heap.size W7 w8 := ⟨_, rfl, heap_alloc_new _ _, (Below.refl _ _).alloc (Nat.le_refl _) _⟩
      have HW8 := Lib.hid ((HW.out.step hb7).step hb8)
      have HG8 := Lib.hid hg8
      have HSA := Lib.hid (same_any x x (by have := HM.out.2.2; omega) w8 w8.heap.size (Nat.le_refl _) _ _ (show NdV w8 w8.heap.size (.agg #[.int .u8 (x.k : Int), .string x.d, .slice A7 x.es.len c7]) x from ⟨_, rfl, (hes7.keep (hb8.mono (Nat.le_trans HW.out.2 hb7.size))).more HW8.out.2, hd7, hk7⟩) ((HVX.out w8 (HKK.out _ HW8.out)).more (by have := HW8.out.2; have := HK6.out.2; have := HZ.out; omega)))
      rw [sameN_refl] at HSA
      clear hn0 hn1 hn2 hb7 hes7 hb8 hg8
      go_upto_region 22 with (fail)
      rw [← e8]
      clear e8
      generalize W7.heap.size = g8 at *
      obtain ⟨hx0, hx1, hx2, _⟩ := nd_box (W := w8) (k := x.k) (d := x.d) (v := .slice A7 x.es.len c7) HG8.out
      obtain ⟨hm0, hm1, hm2, _⟩ := HCX.out w8 (HKK.out _ HW8.out)
      go_wp2_with fail
      refine HSA.out.mono ?_
      rintro e W9 ⟨rfl, hb9⟩
      have HW9 := Lib.hid (HW8.out.step hb9)
      clear hb9 hx0 hx1 hx2 hm0 hm1 hm2
      obtain ⟨hn0, hn1, hn2, _⟩ := HC6.out W9 HW9.out
      have HRG := Lib.hid (right_calls _ y W9 ((HY6.out.keep HW9.out.1).more HW9.out.2) (by have := HYC.out; omega))
      rw [HPF.out.1] at HRG
      go_wp2_with fail
      refine HRG.out.mono ?_
      rintro e W10 ⟨rfl, hb10⟩
      have HW10 := Lib.hid (HW9.out.step hb10)
      clear hb10 hn0 hn1 hn2
      go_wp2_with fail
      refine (HWK.out W10).mono ?_
      rintro e W10w ⟨rfl, hbw⟩
      have HBw := Lib.hid (HB.out W10w ((HKK.out _ HW10.out).step hbw))
      clear hbw
      go_wp2_with fail
      go_ret
      exact ⟨rfl, HBw.out⟩
    | succ g =>
      have hil : i < L.length := by omega
      obtain ⟨q, hq⟩ : ∃ q, L[i]? = some q := ⟨_, List.getElem?_eq_getElem hil⟩
      have HQ := Lib.hid hq
      have HQM := Lib.hid (show q ∈ nd.paths by rw [← HLP.out]; exact List.mem_of_getElem? hq)
      have HQS := Lib.hid (path_facts HRT.out HQM.out).1
      obtain ⟨z, hz2⟩ := (path_facts HRT.out HQM.out).2
      have HQC := Lib.hid (fun (w' : World) (h : KeepW w6 w6.heap.size w') => show w'.cell? ⟨gg, i, none⟩ = some (.string q) from by
        obtain ⟨g', cap', _, e, hc⟩ := txc_cell (HT6.out w' h) HQ.out
        injection e with e1 _ _
        injection e1 with e1
        injection e1 with e1
        rw [e1]; exact hc)
      have HZC := Lib.hid (show z.es.count ≤ 600 by have h1 : z.es.count ≤ _ := (by have h := at_count nd q; rw [hz2] at h; exact h); have := HM.out.2.1; omega)
      have HZ2 := Lib.hid hz2
      have hilI : (i : Int) < (L.length : Int) := by omega
      have hi0I : (0 : Int) ≤ (i : Int) := by omega
      have hic : (i : Int) ≤ (cap : Int) := by omega
      clear hq hz2
      have HKW := Lib.hid (fun (w' : World) (h : KeepW wr wr.heap.size w') => show KeepW w6 w6.heap.size w' from ⟨below_step HW.out.1 h.1 HW.out.2, Nat.le_trans HW.out.2 h.2⟩)
      have HS7 := Lib.hid (fun (w' : World) (h : KeepW wr wr.heap.size w') => show (w'.cell? ⟨w.heap.size, 0, none⟩ = some (.int .u8 (nd.k : Int)) ∧ w'.cell? ⟨w.heap.size, 1, none⟩ = some (.string nd.d) ∧ w'.cell? ⟨w.heap.size, 2, none⟩ = some (.slice A nd.es.len c)) ∧ w'.cell? ⟨gg, i, none⟩ = some (.string q) from by
        have h1 := HC.out w' (HKK.out w' (HKW.out w' h))
        exact ⟨⟨h1.1, h1.2.1, h1.2.2.1⟩, HQC.out w' (HKW.out w' h)⟩)
      have HAT := Lib.hid (fun (w' : World) (h : KeepW wr wr.heap.size w') => (at_any w' w.heap.size (by have := (HKK.out w' (HKW.out w' h)).2; have := HZ.out; omega) _ nd (HV.out w' (HKK.out w' (HKW.out w' h))) q (by have := HQS.out; omega)).mono (fun e W hp => (show KeepW wr wr.heap.size W ∧ Below w'.heap.size w' W ∧ ∃ A c, e = .returned (.tuple #[.agg #[.int .u8 (z.k : Int), .string z.d, .slice A z.es.len c], .int .i64 0]) ∧ NdV W w.heap.size (.agg #[.int .u8 (z.k : Int), .string z.d, .slice A z.es.len c]) z from by
        obtain ⟨hb, v, he, hv⟩ := hp
        rw [HZ2.out] at he hv
        obtain ⟨ev, rfl, hes, hd, hk⟩ := hv
        obtain ⟨A', c', rfl, _, _⟩ := hes.form
        exact ⟨h.step hb, hb, A', c', he, _, rfl, hes, hd, hk⟩)))
      have HBW7 := Lib.hid (show w.heap.size ≤ wr.heap.size by have := (HKK.out wr HW.out).2; have := HZ.out; omega)
      obtain ⟨⟨hn0, hn1, hn2⟩, hcq⟩ := HS7.out wr (KeepW.start (Nat.le_refl _))
      go_upto_region 13 with (fail)
      go_cut [12, 13] (fun s12 s13 wx => s13 = .int .i64 0 ∧ Hid (BoxNd wx wr.heap.size s12 z ∧ KeepW wr wr.heap.size wx))
      case first =>
        have HKr := Lib.hid (KeepW.start (Nat.le_refl wr.heap.size))
        skip
        go_region_held3 (fun w' => (w'.cell? ⟨w.heap.size, 0, none⟩ = some (.int .u8 (nd.k : Int)) ∧ w'.cell? ⟨w.heap.size, 1, none⟩ = some (.string nd.d) ∧ w'.cell? ⟨w.heap.size, 2, none⟩ = some (.slice A nd.es.len c)) ∧ w'.cell? ⟨gg, i, none⟩ = some (.string q)) (first | exact HS7.out _ (by first | exact KeepW.set3 hk7 (Nat.le_refl _) _ _ _ | exact KeepW.set3 (KeepW.alloc hk7 _) hk7.2 _ _ _) | exact HS7.out _ (by first | assumption | exact KeepW.drew HKr.out | exact KeepW.drew (by assumption) | exact KeepW.alloc (by assumption) _ | exact KeepW.alloc (KeepW.drew HKr.out) _) | go_keep) (first | (go_at_call 24; refine (HAT.out _ (by first | assumption | exact KeepW.drew HKr.out | exact KeepW.alloc (by assumption) _ | exact KeepW.alloc (KeepW.drew HKr.out) _)).mono ?_; rintro e V7 ⟨hk7, hb7, A7, c7, rfl, hv7⟩; (first | (have hnw7 : V7.heap[wr.heap.size]? = some (.cells #[.int .u8 0, .string ⟨#[]⟩, .slice none 0 0] 26 (0, 0)) := (hb7.block wr.heap.size (by simp)).trans (heap_alloc_new wr.drew _); obtain ⟨hy07, hy17, hy27, hy37, hy47, hy57⟩ := nd_box (W := V7) (k := 0) (d := ⟨#[]⟩) (v := .slice none 0 0) hnw7) | skip)))
        all_goals
          obtain ⟨ev7, eq7, hes7, hd7, hkk7⟩ := hv7
          obtain rfl : ev7 = .slice A7 z.es.len c7 := by simpa using eq7.symm
          first
          | (obtain ⟨U7, e5⟩ : ∃ U7, U7 = set3 V7 wr.heap.size (.int .u8 (z.k : Int)) (.string z.d) (.slice A7 z.es.len c7) := ⟨_, rfl⟩
             obtain ⟨g7, e10⟩ : ∃ g, g = wr.heap.size := ⟨_, rfl⟩
             have hr7 : U7.heap[g7]? = some (.cells #[.int .u8 (z.k : Int), .string z.d, .slice A7 z.es.len c7] 26 (0, 0)) := by rw [e5, e10]; exact set3_row _ _ _ hnw7
             have hku7 : KeepW wr wr.heap.size U7 := by rw [e5]; exact KeepW.set3 hk7 (Nat.le_refl _) _ _ _
             have hesu7 : EsAt U7 U7.heap.size (.slice A7 z.es.len c7) z.es := by rw [e5]; exact (hes7.box hnw7 (fun k hk => set3_block V7 wr.heap.size _ _ _ hk)).more (by have := hk7.2; have := HBW7.out; simp [set3]; omega)
             have hgg7 : wr.heap.size ≤ g7 := by rw [e10]; exact Nat.le_refl _
             unfold set3 at e5
             rw [← e5, ← e10]
             clear e5 e10)
          | (obtain ⟨U7, e5⟩ : ∃ U7, U7 = V7.alloc (.cells #[.int .u8 (z.k : Int), .string z.d, .slice A7 z.es.len c7] 26) := ⟨_, rfl⟩
             obtain ⟨g7, e10⟩ : ∃ g, g = V7.heap.size := ⟨_, rfl⟩
             have hr7 : U7.heap[g7]? = some (.cells #[.int .u8 (z.k : Int), .string z.d, .slice A7 z.es.len c7] 26 (0, 0)) := by rw [e5, e10]; exact heap_alloc_new V7 _
             have hku7 : KeepW wr wr.heap.size U7 := by rw [e5]; exact KeepW.alloc hk7 _
             have hesu7 : EsAt U7 U7.heap.size (.slice A7 z.es.len c7) z.es := by rw [e5]; exact (hes7.keep ((Below.refl _ _).alloc (by have := hk7.2; have := HBW7.out; omega) _)).more (by have := hk7.2; have := HBW7.out; simp; omega)
             have hgg7 : wr.heap.size ≤ g7 := by rw [e10]; exact hk7.2
             rw [← e5, ← e10]
             clear e5 e10)
          have HU7 := Lib.hid (And.intro hku7 (And.intro hr7 (And.intro hesu7 (And.intro hd7 (And.intro hkk7 hgg7)))))
          clear hgg7 hku7 hr7 hesu7 hes7 hd7 hkk7 hk7 hb7 eq7 HKr
          try clear hnw7 hy07 hy17 hy27 hy37 hy47 hy57
          go_wp2_with fail
          go_meet
          exact ⟨rfl, ⟨g7, rfl, HU7.out.2.2.2.2.2, A7, c7, HU7.out.2.1, HU7.out.2.2.1, HU7.out.2.2.2.1, HU7.out.2.2.2.2.1⟩, HU7.out.1⟩
      case rest =>
        obtain ⟨rfl, HR7⟩ := hcut
        obtain ⟨U7, hU7⟩ : ∃ U7, U7 = wc := ⟨_, rfl⟩
        subst hU7
        obtain ⟨⟨g7, rfl, hgg7, A7, c7, hr7, hesu7, hd7, hkk7⟩, hku7⟩ := HR7.out
        have HU7 := Lib.hid (And.intro hku7 (And.intro hr7 (And.intro hesu7 (And.intro hd7 hkk7))))
        clear HR7 hgg7 hr7 hesu7 hd7 hkk7 hku7 hn0 hn1 hn2 hcq HAT

        have HW7 := Lib.hid (show KeepW w6 w6.heap.size U7 from HKW.out _ HU7.out.1)
        have HS14 := Lib.hid (fun (w' : World) (h : KeepW U7 U7.heap.size w') => show (w'.cell? ⟨w.heap.size, 0, none⟩ = some (.int .u8 (nd.k : Int)) ∧ w'.cell? ⟨w.heap.size, 1, none⟩ = some (.string nd.d) ∧ w'.cell? ⟨w.heap.size, 2, none⟩ = some (.slice A nd.es.len c)) ∧ w'.cell? ⟨gg, i, none⟩ = some (.string q) from HS7.out w' ⟨below_step HU7.out.1.1 h.1 HU7.out.1.2, Nat.le_trans HU7.out.1.2 h.2⟩)
        have HK7 := Lib.hid (KeepW.start (Nat.le_refl U7.heap.size))
        have HCT := Lib.hid (fun (w' : World) (h : KeepW U7 U7.heap.size w') => h.calls (HCO.out w' (HKK.out w' ⟨below_step HW7.out.1 h.1 HW7.out.2, Nat.le_trans HW7.out.2 h.2⟩)))
        have hcne : ((L.length : Int) != (nd.count : Int)) = false := by rw [HLC.out]; exact bne_self_eq_false _
        obtain ⟨⟨hn0, hn1, hn2⟩, hcq⟩ := HS14.out U7 HK7.out
        go_upto_region 14 with (fail)
        go_cut [89] (fun s89 wx => s89 = .bool false ∧ Hid (KeepW U7 U7.heap.size wx))
        case first =>
          rcases Nat.eq_zero_or_pos i with hi | hi
          · have hi00 : decide ((0 : Int) < (i : Int)) = false := decide_eq_false (by omega)
            have hiH := Lib.hid hi
            clear hi
            refine wp_region_held (S := fun w' => (w'.cell? ⟨w.heap.size, 0, none⟩ = some (.int .u8 (nd.k : Int)) ∧ w'.cell? ⟨w.heap.size, 1, none⟩ = some (.string nd.d) ∧ w'.cell? ⟨w.heap.size, 2, none⟩ = some (.slice A nd.es.len c)) ∧ w'.cell? ⟨gg, i, none⟩ = some (.string q)) (by kernel_rfl) ?_
            have hS := HS14.out _ (KeepW.drew HK7.out)
            change wpAnyH _ _ _ _ _ _ _ _ U7.drew
            refine wpAnyH_take (i := 0) rfl (by kernel_rfl) (by kernel_rfl) (by kernel_rfl) (fun _ _ _ h => h) (v := .int .i64 0) ?_ hS ?_
            · exact Or.inl ⟨by kernel_rfl, fun wx hSx => by (try dsimp only at hSx); go_simp⟩
            simp only [Act.put, List.setIfInBounds_toArray, List.set_cons_zero, List.set_cons_succ]
            refine wpAnyH_take (i := 1) rfl (by kernel_rfl) (by kernel_rfl) (by kernel_rfl) (fun _ _ _ h => h) (v := .bool false) ?_ hS ?_
            · exact Or.inl ⟨by kernel_rfl, fun wx hSx => by (try dsimp only at hSx); go_simp⟩
            simp only [Act.put, List.setIfInBounds_toArray, List.set_cons_zero, List.set_cons_succ]
            refine wpAnyH_take (i := 2) rfl (by kernel_rfl) (by kernel_rfl) (by kernel_rfl) (fun _ _ _ h => h) (v := .bool false) ?_ hS ?_
            · exact Or.inl ⟨by kernel_rfl, fun wx hSx => by (try dsimp only at hSx); go_simp⟩
            simp only [Act.put, List.setIfInBounds_toArray, List.set_cons_zero, List.set_cons_succ]
            refine wpAnyH_take (i := 3) rfl (by kernel_rfl) (by kernel_rfl) (by kernel_rfl) (fun _ _ _ h => h) (v := .slice (some ⟨gg, 0, none⟩) L.length cap) ?_ hS ?_
            · exact Or.inl ⟨by kernel_rfl, fun wx hSx => by (try dsimp only at hSx); go_simp⟩
            simp only [Act.put, List.setIfInBounds_toArray, List.set_cons_zero, List.set_cons_succ]
            refine wpAnyH_take (i := 4) rfl (by kernel_rfl) (by kernel_rfl) (by kernel_rfl) (fun _ _ _ h => h) (v := .int .i64 (L.length : Int)) ?_ hS ?_
            · exact Or.inl ⟨by kernel_rfl, fun wx hSx => by (try dsimp only at hSx); go_simp⟩
            simp only [Act.put, List.setIfInBounds_toArray, List.set_cons_zero, List.set_cons_succ]
            refine wpAnyH_take (i := 5) rfl (by kernel_rfl) (by kernel_rfl) (by kernel_rfl) (fun _ _ _ h => h) (v := .agg #[.int .u8 (nd.k : Int), .string nd.d, .slice A nd.es.len c]) ?_ hS ?_
            · exact Or.inl ⟨by kernel_rfl, fun wx hSx => by (try dsimp only at hSx); go_simp⟩
            simp only [Act.put, List.setIfInBounds_toArray, List.set_cons_zero, List.set_cons_succ]
            refine wpAnyH_ready (rs := [6]) (by kernel_rfl) (by simp) ?_
            refine AllReadyH.cons rfl (fun K hK => ?_) AllReadyH.nil
            go_simp
            refine (HCT.out _ (KeepW.drew HK7.out)).mono ?_
            rintro e W9 ⟨rfl, hk9⟩
            dsimp only
            refine hK.out _ _ (HS14.out _ hk9) (fun hS2 => ?_)
            clear hK K hS
            try simp only [Act.put, List.setIfInBounds_toArray, List.set_cons_zero, List.set_cons_succ]
            refine wpAnyH_take (i := 7) rfl (by kernel_rfl) (by kernel_rfl) (by kernel_rfl) (fun _ _ _ h => h) (v := .bool false) ?_ hS2 ?_
            · exact Or.inl ⟨by kernel_rfl, fun wx hSx => by (try dsimp only at hSx); go_simp⟩
            simp only [Act.put, List.setIfInBounds_toArray, List.set_cons_zero, List.set_cons_succ]
            refine wpAnyH_take (i := 8) rfl (by kernel_rfl) (by kernel_rfl) (by kernel_rfl) (fun _ _ _ h => h) (v := .bool false) ?_ hS2 ?_
            · exact Or.inl ⟨by kernel_rfl, fun wx hSx => by (try dsimp only at hSx); go_simp⟩
            simp only [Act.put, List.setIfInBounds_toArray, List.set_cons_zero, List.set_cons_succ]
            refine wpAnyH_take (i := 9) rfl (by kernel_rfl) (by kernel_rfl) (by kernel_rfl) (fun _ _ _ h => h) (v := .bool false) ?_ hS2 ?_
            · exact Or.inl ⟨by kernel_rfl, fun wx hSx => by (try dsimp only at hSx); go_simp⟩
            simp only [Act.put, List.setIfInBounds_toArray, List.set_cons_zero, List.set_cons_succ]
            refine wpAnyH_take (i := 10) rfl (by kernel_rfl) (by kernel_rfl) (by kernel_rfl) (fun _ _ _ h => h) (v := .int .i64 (i : Int)) ?_ hS2 ?_
            · exact Or.inl ⟨by kernel_rfl, fun wx hSx => by (try dsimp only at hSx); go_simp⟩
            simp only [Act.put, List.setIfInBounds_toArray, List.set_cons_zero, List.set_cons_succ]
            refine wpAnyH_take (i := 11) rfl (by kernel_rfl) (by kernel_rfl) (by kernel_rfl) (fun _ _ _ h => h) (v := .bool false) ?_ hS2 ?_
            · exact Or.inl ⟨by kernel_rfl, fun wx hSx => by (try dsimp only at hSx); (go_simp; exact hiH.out)⟩
            simp only [Act.put, List.setIfInBounds_toArray, List.set_cons_zero, List.set_cons_succ]
            refine wpAnyH_take (i := 12) rfl (by kernel_rfl) (by kernel_rfl) (by kernel_rfl) (fun _ _ _ h => h) (v := .bool false) ?_ hS2 ?_
            · exact Or.inl ⟨by kernel_rfl, fun wx hSx => by (try dsimp only at hSx); go_simp⟩
            simp only [Act.put, List.setIfInBounds_toArray, List.set_cons_zero, List.set_cons_succ]
            refine wpAnyH_take (i := 13) rfl (by kernel_rfl) (by kernel_rfl) (by kernel_rfl) (fun _ _ _ h => h) (v := undef) ?_ hS2 ?_
            · exact Or.inr ⟨by kernel_rfl, rfl⟩
            simp only [Act.put, List.setIfInBounds_toArray, List.set_cons_zero, List.set_cons_succ]
            refine wpAnyH_take (i := 14) rfl (by kernel_rfl) (by kernel_rfl) (by kernel_rfl) (fun _ _ _ h => h) (v := undef) ?_ hS2 ?_
            · exact Or.inr ⟨by kernel_rfl, rfl⟩
            simp only [Act.put, List.setIfInBounds_toArray, List.set_cons_zero, List.set_cons_succ]
            refine wpAnyH_take (i := 15) rfl (by kernel_rfl) (by kernel_rfl) (by kernel_rfl) (fun _ _ _ h => h) (v := undef) ?_ hS2 ?_
            · exact Or.inr ⟨by kernel_rfl, rfl⟩
            simp only [Act.put, List.setIfInBounds_toArray, List.set_cons_zero, List.set_cons_succ]
            refine wpAnyH_take (i := 16) rfl (by kernel_rfl) (by kernel_rfl) (by kernel_rfl) (fun _ _ _ h => h) (v := undef) ?_ hS2 ?_
            · exact Or.inr ⟨by kernel_rfl, rfl⟩
            simp only [Act.put, List.setIfInBounds_toArray, List.set_cons_zero, List.set_cons_succ]
            refine wpAnyH_take (i := 17) rfl (by kernel_rfl) (by kernel_rfl) (by kernel_rfl) (fun _ _ _ h => h) (v := undef) ?_ hS2 ?_
            · exact Or.inr ⟨by kernel_rfl, rfl⟩
            simp only [Act.put, List.setIfInBounds_toArray, List.set_cons_zero, List.set_cons_succ]
            refine wpAnyH_take (i := 18) rfl (by kernel_rfl) (by kernel_rfl) (by kernel_rfl) (fun _ _ _ h => h) (v := undef) ?_ hS2 ?_
            · exact Or.inr ⟨by kernel_rfl, rfl⟩
            simp only [Act.put, List.setIfInBounds_toArray, List.set_cons_zero, List.set_cons_succ]
            refine wpAnyH_take (i := 19) rfl (by kernel_rfl) (by kernel_rfl) (by kernel_rfl) (fun _ _ _ h => h) (v := undef) ?_ hS2 ?_
            · exact Or.inr ⟨by kernel_rfl, rfl⟩
            simp only [Act.put, List.setIfInBounds_toArray, List.set_cons_zero, List.set_cons_succ]
            refine wpAnyH_take (i := 20) rfl (by kernel_rfl) (by kernel_rfl) (by kernel_rfl) (fun _ _ _ h => h) (v := undef) ?_ hS2 ?_
            · exact Or.inr ⟨by kernel_rfl, rfl⟩
            simp only [Act.put, List.setIfInBounds_toArray, List.set_cons_zero, List.set_cons_succ]
            refine wpAnyH_take (i := 21) rfl (by kernel_rfl) (by kernel_rfl) (by kernel_rfl) (fun _ _ _ h => h) (v := .bool false) ?_ hS2 ?_
            · exact Or.inl ⟨by kernel_rfl, fun wx hSx => by (try dsimp only at hSx); go_simp⟩
            simp only [Act.put, List.setIfInBounds_toArray, List.set_cons_zero, List.set_cons_succ]
            refine wpAnyH_take (i := 22) rfl (by kernel_rfl) (by kernel_rfl) (by kernel_rfl) (fun _ _ _ h => h) (v := .bool false) ?_ hS2 ?_
            · exact Or.inl ⟨by kernel_rfl, fun wx hSx => by (try dsimp only at hSx); go_simp⟩
            simp only [Act.put, List.setIfInBounds_toArray, List.set_cons_zero, List.set_cons_succ]
            refine wpAnyH_done (by kernel_rfl) ?_ _
            all_goals
              have HK9 := Lib.hid hk9
              try simp only [Act.put, List.getElem_toArray, List.getElem_cons_succ, List.getElem_cons_zero, List.setIfInBounds_toArray, List.set_cons_zero, List.set_cons_succ]
              go_wp2_with fail
              go_meet
              exact ⟨rfl, HK9.out⟩
          · have hiI : decide ((0 : Int) < (i : Int)) = true := decide_eq_true (by omega)
            have HHA := Lib.hid (fun (w' : World) (h : KeepW U7 U7.heap.size w') => (show Calls Tryd.prog 32 #[.slice (some ⟨gg, 0, none⟩) i cap, .string q] w' fun e W => e = .returned (.bool false) ∧ KeepW U7 U7.heap.size W from by
              have h1 := has_any (some ⟨gg, 0, none⟩) cap W2.heap.size (L.take i) q w' (txc_take (HT6.out w' ⟨below_step HW7.out.1 h.1 HW7.out.2, Nat.le_trans HW7.out.2 h.2⟩) (by omega)) (by rw [List.length_take]; omega)
              rw [List.length_take, Nat.min_eq_left (by omega), has_not HNL.out HQ.out] at h1
              refine h1.mono ?_
              rintro e W ⟨rfl, rfl⟩
              exact ⟨rfl, h⟩))
            go_region_held3 (fun w' => (w'.cell? ⟨w.heap.size, 0, none⟩ = some (.int .u8 (nd.k : Int)) ∧ w'.cell? ⟨w.heap.size, 1, none⟩ = some (.string nd.d) ∧ w'.cell? ⟨w.heap.size, 2, none⟩ = some (.slice A nd.es.len c)) ∧ w'.cell? ⟨gg, i, none⟩ = some (.string q)) (first | exact HS14.out _ (by first | assumption | exact KeepW.drew HK7.out | exact KeepW.drew (by assumption)) | go_keep) (first
              | (go_at_call 16; refine (HCT.out _ (by first | assumption | exact KeepW.drew HK7.out)).mono ?_; rintro e W9 ⟨rfl, hk9⟩)
              | (go_at_call 32; refine (HHA.out _ (by first | assumption | exact KeepW.drew HK7.out)).mono ?_; rintro e W9 ⟨rfl, hk9⟩))
            all_goals
              have HK9 := Lib.hid (show KeepW U7 U7.heap.size _ from hk9)
              go_wp2_with fail
              go_meet
              exact ⟨rfl, HK9.out⟩
        case rest =>
          obtain ⟨rfl, HK9⟩ := hcut
          obtain ⟨W9, hW9⟩ : ∃ W9, W9 = wc := ⟨_, rfl⟩
          subst hW9
          clear hn0 hn1 hn2 hcq
          have HW9 := Lib.hid (show KeepW w6 w6.heap.size W9 from ⟨below_step HW7.out.1 HK9.out.1 HW7.out.2, Nat.le_trans HW7.out.2 HK9.out.2⟩)
          have hw1 : IntKind.i64.wrap ((i : Int) + 1) = (i : Int) + 1 := IntWalk.i64_in _ (by omega)
          have hcq := (HS14.out W9 HK9.out).2
          by_cases hr0 : r1 = 0
          rotate_left
          · have hr0N : ((r1 : Int) != 0) = true := bne_iff_ne.2 (by omega)
            go_wp2
            go_roundg g
            case measure => omega
            case rel => exact ⟨i + 1, by simp, by omega, HW9⟩
          have hr0N : ((r1 : Int) != 0) = false := by rw [hr0]; rfl
          have HPF := Lib.hid (put_facts HRT.out HPM.out (by rw [HRY.out, hr0]))
          have hr0H := Lib.hid hr0
          clear hr0
          have HBL1 := Lib.hid (below_any p q (by have := HPS.out; unfold maxLen; omega) (by have := HQS.out; unfold maxLen; omega) W9)
          have HBL2 := Lib.hid (below_any q p (by have := HQS.out; unfold maxLen; omega) (by have := HPS.out; unfold maxLen; omega) W9)
          have HPQ := Lib.hid (HPF.out.2.2 q HQM.out)
          rcases Bool.eq_false_or_eq_true (belowB p q) with hbl1 | hbl1
          · rw [hbl1] at HBL1
            go_wp2_with fail
            refine HBL1.out.mono ?_
            rintro e W9b ⟨hwb, rfl⟩
            obtain rfl : W9 = W9b := hwb.symm
            clear hwb
            go_wp2
            go_roundg g
            case measure => omega
            case rel => exact ⟨i + 1, by simp, by omega, HW9⟩
          rw [hbl1] at HBL1
          go_wp2_with fail
          refine HBL1.out.mono ?_
          rintro e W9b ⟨hwb, rfl⟩
          obtain rfl : W9 = W9b := hwb.symm
          clear hwb
          rcases Bool.eq_false_or_eq_true (belowB q p) with hbl2 | hbl2
          · rw [hbl2] at HBL2
            go_wp2_with fail
            refine HBL2.out.mono ?_
            rintro e W9b ⟨hwb, rfl⟩
            obtain rfl : W9 = W9b := hwb.symm
            clear hwb
            go_wp2
            go_roundg g
            case measure => omega
            case rel => exact ⟨i + 1, by simp, by omega, HW9⟩
          rw [hbl2] at HBL2
          have HZY := Lib.hid (show atR y q = (0, z) by rw [HPQ.out hbl1 hbl2, HZ2.out])
          go_wp2_with fail
          refine HBL2.out.mono ?_
          rintro e W9b ⟨hwb, rfl⟩
          obtain rfl : W9 = W9b := hwb.symm
          clear hwb hcq hbl1 hbl2 HBL1 HBL2
          have HKW9 := Lib.hid (fun (w' : World) (h : KeepW W9 W9.heap.size w') => show KeepW w6 w6.heap.size w' from ⟨below_step HW9.out.1 h.1 HW9.out.2, Nat.le_trans HW9.out.2 h.2⟩)
          have HS17 := Lib.hid (fun (w' : World) (h : KeepW W9 W9.heap.size w') => show (w'.cell? ⟨g6, 0, none⟩ = some (.int .u8 (y.k : Int)) ∧ w'.cell? ⟨g6, 1, none⟩ = some (.string y.d) ∧ w'.cell? ⟨g6, 2, none⟩ = some (.slice A6 y.es.len c6)) ∧ w'.cell? ⟨gg, i, none⟩ = some (.string q) from by
            have h1 := HC6.out w' (HKW9.out w' h)
            exact ⟨⟨h1.1, h1.2.1, h1.2.2.1⟩, HQC.out w' (HKW9.out w' h)⟩)
          have HAT2 := Lib.hid (fun (w' : World) (h : KeepW W9 W9.heap.size w') => (at_any w' w6.heap.size (HKW9.out w' h).2 _ y (HY6.out.keep (HKW9.out w' h).1) q (by have := HQS.out; omega)).mono (fun e W hp => (show KeepW W9 W9.heap.size W ∧ Below w'.heap.size w' W ∧ ∃ A c, e = .returned (.tuple #[.agg #[.int .u8 (z.k : Int), .string z.d, .slice A z.es.len c], .int .i64 0]) ∧ NdV W w6.heap.size (.agg #[.int .u8 (z.k : Int), .string z.d, .slice A z.es.len c]) z from by
            obtain ⟨hb, v, he, hv⟩ := hp
            rw [HZY.out] at he hv
            obtain ⟨ev, rfl, hes, hd, hk⟩ := hv
            obtain ⟨A', c', rfl, _, _⟩ := hes.form
            exact ⟨h.step hb, hb, A', c', he, _, rfl, hes, hd, hk⟩)))
          have HBW8 := Lib.hid (show w6.heap.size ≤ W9.heap.size from HW9.out.2)
          obtain ⟨⟨hn0, hn1, hn2⟩, hcq⟩ := HS17.out W9 (KeepW.start (Nat.le_refl _))
          have HKr := Lib.hid (KeepW.start (Nat.le_refl W9.heap.size))
          go_wp2
          go_region_held3 (fun w' => (w'.cell? ⟨g6, 0, none⟩ = some (.int .u8 (y.k : Int)) ∧ w'.cell? ⟨g6, 1, none⟩ = some (.string y.d) ∧ w'.cell? ⟨g6, 2, none⟩ = some (.slice A6 y.es.len c6)) ∧ w'.cell? ⟨gg, i, none⟩ = some (.string q)) (first | exact HS17.out _ (by first | exact KeepW.set3 hk8 (Nat.le_refl _) _ _ _ | exact KeepW.set3 (KeepW.alloc hk8 _) hk8.2 _ _ _) | exact HS17.out _ (by first | assumption | exact KeepW.drew HKr.out | exact KeepW.drew (by assumption) | exact KeepW.alloc (by assumption) _ | exact KeepW.alloc (KeepW.drew HKr.out) _) | go_keep) (first | (go_at_call 24; refine (HAT2.out _ (by first | assumption | exact KeepW.drew HKr.out | exact KeepW.alloc (by assumption) _ | exact KeepW.alloc (KeepW.drew HKr.out) _)).mono ?_; rintro e V8 ⟨hk8, hb8, A8, c8, rfl, hv8⟩; (first | (have hnw8 : V8.heap[W9.heap.size]? = some (.cells #[.int .u8 0, .string ⟨#[]⟩, .slice none 0 0] 26 (0, 0)) := (hb8.block W9.heap.size (by simp)).trans (heap_alloc_new W9.drew _); obtain ⟨hy08, hy18, hy28, hy38, hy48, hy58⟩ := nd_box (W := V8) (k := 0) (d := ⟨#[]⟩) (v := .slice none 0 0) hnw8) | skip)))
          all_goals
            obtain ⟨ev8, eq8, hes8, hd8, hkk8⟩ := hv8
            obtain rfl : ev8 = .slice A8 z.es.len c8 := by simpa using eq8.symm
            first
            | (obtain ⟨U8, e5⟩ : ∃ U8, U8 = set3 V8 W9.heap.size (.int .u8 (z.k : Int)) (.string z.d) (.slice A8 z.es.len c8) := ⟨_, rfl⟩
               obtain ⟨g8, e10⟩ : ∃ g, g = W9.heap.size := ⟨_, rfl⟩
               have hr8 : U8.heap[g8]? = some (.cells #[.int .u8 (z.k : Int), .string z.d, .slice A8 z.es.len c8] 26 (0, 0)) := by rw [e5, e10]; exact set3_row _ _ _ hnw8
               have hku8 : KeepW W9 W9.heap.size U8 := by rw [e5]; exact KeepW.set3 hk8 (Nat.le_refl _) _ _ _
               have hesu8 : EsAt U8 U8.heap.size (.slice A8 z.es.len c8) z.es := by rw [e5]; exact (hes8.box hnw8 (fun k hk => set3_block V8 W9.heap.size _ _ _ hk)).more (by have := hk8.2; have := HBW8.out; simp [set3]; omega)
               have hgg8 : W9.heap.size ≤ g8 := by rw [e10]; exact Nat.le_refl _
               unfold set3 at e5
               rw [← e5, ← e10]
               clear e5 e10)
            | (obtain ⟨U8, e5⟩ : ∃ U8, U8 = V8.alloc (.cells #[.int .u8 (z.k : Int), .string z.d, .slice A8 z.es.len c8] 26) := ⟨_, rfl⟩
               obtain ⟨g8, e10⟩ : ∃ g, g = V8.heap.size := ⟨_, rfl⟩
               have hr8 : U8.heap[g8]? = some (.cells #[.int .u8 (z.k : Int), .string z.d, .slice A8 z.es.len c8] 26 (0, 0)) := by rw [e5, e10]; exact heap_alloc_new V8 _
               have hku8 : KeepW W9 W9.heap.size U8 := by rw [e5]; exact KeepW.alloc hk8 _
               have hesu8 : EsAt U8 U8.heap.size (.slice A8 z.es.len c8) z.es := by rw [e5]; exact (hes8.keep ((Below.refl _ _).alloc (by have := hk8.2; have := HBW8.out; omega) _)).more (by have := hk8.2; have := HBW8.out; simp; omega)
               have hgg8 : W9.heap.size ≤ g8 := by rw [e10]; exact hk8.2
               rw [← e5, ← e10]
               clear e5 e10)
            have HU8 := Lib.hid (And.intro hku8 (And.intro hr8 (And.intro hesu8 (And.intro hd8 (And.intro hkk8 hgg8)))))
            clear hgg8 hku8 hr8 hesu8 hes8 hd8 hkk8 hk8 hb8 eq8 HKr
            try clear hnw8 hy08 hy18 hy28 hy38 hy48 hy58
            have HW8 := Lib.hid (show KeepW w6 w6.heap.size U8 from HKW9.out _ HU8.out.1)
            have HG7 := Lib.hid (show U8.heap[g7]? = some (.cells #[.int .u8 (z.k : Int), .string z.d, .slice A7 z.es.len c7] 26 (0, 0)) from (HU8.out.1.1.block g7 (by have := block_lt HU7.out.2.1; have := HK9.out.2; omega)).trans ((HK9.out.1.block g7 (block_lt HU7.out.2.1)).trans HU7.out.2.1))
            have HSA := Lib.hid (same_any z z (by have := HZC.out; omega) U8 U8.heap.size (Nat.le_refl _) (.agg #[.int .u8 (z.k : Int), .string z.d, .slice A7 z.es.len c7]) (.agg #[.int .u8 (z.k : Int), .string z.d, .slice A8 z.es.len c8]) ⟨_, rfl, (HU7.out.2.2.1.keep (HK9.out.1)).keep (HU8.out.1.1.mono HK9.out.2) |>.more (by have := HU8.out.1.2; have := HK9.out.2; omega), HU7.out.2.2.2.1, HU7.out.2.2.2.2⟩ ⟨_, rfl, HU8.out.2.2.1, HU8.out.2.2.2.1, HU8.out.2.2.2.2.1⟩)
            rw [sameN_refl] at HSA
            clear hn0 hn1 hn2 hcq
            obtain ⟨hx0, hx1, hx2, _⟩ := nd_box (W := U8) (k := z.k) (d := z.d) (v := .slice A7 z.es.len c7) HG7.out
            obtain ⟨hy0, hy1, hy2, _⟩ := nd_box (W := U8) (k := z.k) (d := z.d) (v := .slice A8 z.es.len c8) HU8.out.2.1
            go_wp2_with fail
            refine HSA.out.mono ?_
            rintro e W10 ⟨rfl, hb10⟩
            have HW10 := Lib.hid (HW8.out.step hb10)
            clear hb10 hx0 hx1 hx2 hy0 hy1 hy2
            go_wp2
            go_roundg g
            case measure => omega
            case rel => exact ⟨i + 1, by simp, by omega, HW10⟩
end Go.Proofs.YtmcafiihicanfaaDoor
