/- The walk of the law FilesPut. -/
import Derived.Test.YtmcafiihicanfaaDoorFilSo
import Derived.Test.YtmcafiihicanfaaDoorFilSf
import Derived.Test.YtmcafiihicanfaaDoorFmSk
set_option linter.unusedVariables false
set_option linter.unusedSimpArgs false
namespace Go.Proofs.YtmcafiihicanfaaDoor
open Go Go.RowKit Go.BigFrame
open Fil (Es Nd Sp)

theorem putR_count (nd x : Nd) (s : ByteArray) : (putR nd s x).2.es.count ≤ nd.es.count + 1 + x.es.count := by
  unfold putR
  split
  · split
    · exact Nat.zero_le _
    · rename_i l _
      split
      · exact Nat.zero_le _
      · rename_i y hy
        split
        · exact with_count l nd x y hy
        · exact Nat.zero_le _
  · exact Nat.zero_le _
set_option maxRecDepth 1000000 in
set_option maxRecDepth 100000 in
set_option maxHeartbeats 4000000 in
theorem filesPut_walk (v : Value) (nd : Nd) (s : ByteArray) (vx : Value) (x : Nd) (w : World) (_ : True) (hv : NdV w w.heap.size v nd) (hs : s.size ≤ maxLen) (hvx : NdV w w.heap.size vx x) : Calls Tryd.prog 7 #[v, .string s, vx] w fun e w' => e = .returned (.bool true) ∧ Below w.heap.size w w' := by
  unfold maxLen at hs
  obtain ⟨ev, rfl, hes, hd, hk⟩ := hv
  obtain ⟨A, c, rfl, hlc, hcm⟩ := hes.form
  obtain ⟨ex, rfl, hex, hdx, hkx⟩ := hvx
  obtain ⟨Ax, cx, rfl, hlcx, hcmx⟩ := hex.form
  have HWK := Lib.hid works_any
  go_enter Tryd.func7, Tryd.ntmps7
  obtain ⟨w1, e1, hg1, hg2, hb1, hz1⟩ := rows2 w (.cells #[.int .u8 (nd.k : Int), .string nd.d, .slice A nd.es.len c] 26) (.cells #[.int .u8 (x.k : Int), .string x.d, .slice Ax x.es.len cx] 26)
  go_upto_region 1 with (fail)
  rw [← e1]
  clear e1
  have HV := Lib.hid (fun (w' : World) (h : KeepW w1 w1.heap.size w') => show NdV w' w.heap.size (.agg #[.int .u8 (nd.k : Int), .string nd.d, .slice A nd.es.len c]) nd from ⟨_, rfl, hes.keep (below_step hb1 h.1 (by omega)), hd, hk⟩)
  have HVX := Lib.hid (fun (w' : World) (h : KeepW w1 w1.heap.size w') => show NdV w' w.heap.size (.agg #[.int .u8 (x.k : Int), .string x.d, .slice Ax x.es.len cx]) x from ⟨_, rfl, hex.keep (below_step hb1 h.1 (by omega)), hdx, hkx⟩)
  have HC := Lib.hid (fun (w' : World) (h : KeepW w1 w1.heap.size w') => nd_box (W := w') (k := nd.k) (d := nd.d) (v := .slice A nd.es.len c) ((h.1.block w.heap.size (by omega)).trans hg1))
  have HCX := Lib.hid (fun (w' : World) (h : KeepW w1 w1.heap.size w') => nd_box (W := w') (k := x.k) (d := x.d) (v := .slice Ax x.es.len cx) ((h.1.block (w.heap.size + 1) (by omega)).trans hg2))
  have HB := Lib.hid (fun (w' : World) (h : KeepW w1 w1.heap.size w') => below_step hb1 h.1 (by omega))
  have HK0 := Lib.hid (KeepW.start (Nat.le_refl w1.heap.size))
  have HZ := Lib.hid hz1
  have HWE := Lib.hid (wei_calls 1000 (by decide) nd w1 w.heap.size (by omega) _ (HV.out w1 HK0.out))
  have HWX := Lib.hid (fun (w' : World) (h : KeepW w1 w1.heap.size w') => wei_calls 1000 (by decide) x w' w.heap.size (by have := h.2; have := HZ.out; omega) _ (HVX.out w' h))
  obtain ⟨hn0, hn1, hn2, _⟩ := HC.out w1 HK0.out
  clear hg1 hg2 hb1 hz1 hes hex
  go_wp2_with fail
  refine HWE.out.mono ?_
  rintro e W1 ⟨hb1, r, rfl, hr1, hr2, hr3⟩
  have HK1 := Lib.hid (HK0.out.step hb1)
  clear hb1 hn0 hn1 hn2
  rcases Nat.lt_or_ge 1000 r with hr | hr
  · have hrI : decide ((1000 : Int) < (r : Int)) = true := decide_eq_true (by omega)
    clear hr hr1 hr2 hr3
    go_wp2_with fail
    refine (HWK.out W1).mono ?_
    rintro e W2 ⟨rfl, hb2⟩
    have HB2 := Lib.hid (HB.out W2 (HK1.out.step hb2))
    clear hb2
    go_wp2_with fail
    go_ret
    exact ⟨rfl, HB2.out⟩
  have hrI : decide ((1000 : Int) < (r : Int)) = false := decide_eq_false (by omega)
  have hwa : weiN nd ≤ 1000 := by rw [← hr2 hr]; exact hr
  clear hr hr1 hr2 hr3
  obtain ⟨hm0, hm1, hm2, _⟩ := HCX.out W1 HK1.out
  go_wp2_with fail
  refine (HWX.out W1 HK1.out).mono ?_
  rintro e W2 ⟨hb2, q, rfl, hq1, hq2, hq3⟩
  have HK2 := Lib.hid (HK1.out.step hb2)
  clear hb2 hm0 hm1 hm2
  rcases Nat.lt_or_ge 1000 q with hq | hq
  · have hqI : decide ((1000 : Int) < (q : Int)) = true := decide_eq_true (by omega)
    clear hq hq1 hq2 hq3 hwa
    go_wp2_with fail
    refine (HWK.out W2).mono ?_
    rintro e W3 ⟨rfl, hb3⟩
    have HB3 := Lib.hid (HB.out W3 (HK2.out.step hb3))
    clear hb3
    go_wp2_with fail
    go_ret
    exact ⟨rfl, HB3.out⟩
  have hqI : decide ((1000 : Int) < (q : Int)) = false := decide_eq_false (by omega)
  have hwb : weiN x ≤ 1000 := by rw [← hq2 hq]; exact hq
  clear hq hq1 hq2 hq3
  by_cases hsl : s.size ≤ 1000
  rotate_left
  · have hsI : decide ((1000 : Int) < (s.size : Int)) = true := decide_eq_true (by omega)
    clear hsl hwa hwb
    go_wp2_with fail
    refine (HWK.out W2).mono ?_
    rintro e W3 ⟨rfl, hb3⟩
    have HB3 := Lib.hid (HB.out W3 (HK2.out.step hb3))
    clear hb3
    go_wp2_with fail
    go_ret
    exact ⟨rfl, HB3.out⟩
  have hsI : decide ((1000 : Int) < (s.size : Int)) = false := decide_eq_false (by omega)
  have HM := Lib.hid (show weiE nd.es ≤ 1000 ∧ nd.es.count ≤ 1000 ∧ nd.size ≤ 1000 ∧ x.es.count ≤ 1000 ∧ s.size ≤ 1000 by
    have h1 := wei_count nd.es; have h2 := wei_size nd.es; have h3 := wei_count x.es
    unfold weiN at hwa hwb
    refine ⟨by omega, by omega, ?_, by omega, hsl⟩
    show nd.d.size + nd.es.size ≤ _; omega)
  clear hwa hwb hsl hs
  have HPA := Lib.hid (fun (w' : World) (h : KeepW w1 w1.heap.size w') => refPaths_any w' w.heap.size (by have := h.2; have := HZ.out; omega) _ nd (HV.out w' h) (by have := HM.out.1; omega))
  have HSZ := Lib.hid (fun (w' : World) (h : KeepW w1 w1.heap.size w') => refSize_any _ nd (Nat.le_refl _) (by have := HM.out.2.1; have := HM.out.2.2.1; omega) w' w.heap.size (by have := h.2; have := HZ.out; omega) _ (HV.out w' h))
  have HPU := Lib.hid (fun (w' : World) (h : KeepW w1 w1.heap.size w') => put_any w' w.heap.size (by have := h.2; have := HZ.out; omega) _ _ nd x (HV.out w' h) (HVX.out w' h) s (by have := HM.out.2.2.2.2; omega) (by have := HM.out.2.1; omega) (by have := HM.out.2.2.2.1; omega))
  have HPR := Lib.hid (fun (w' : World) (h : KeepW w1 w1.heap.size w') => refPut_any w' w.heap.size (by have := h.2; have := HZ.out; omega) _ _ nd x (HV.out w' h) (HVX.out w' h) s (by have := HM.out.2.2.2.2; omega) (by have := HM.out.2.1; omega) (by have := HM.out.2.2.2.1; omega))
  have HYC := Lib.hid (show (putR nd s x).2.es.count ≤ 1000000000 by have h1 := putR_count nd x s; have := HM.out.2.1; have := HM.out.2.2.2.1; omega)
  unfold PutPost at HPU HPR
  generalize (putR nd s x).2 = y at *
  generalize (putR nd s x).1 = r2 at *
  generalize nd.size = sz at *
  have hss : ((sz : Int) == (sz : Int)) = true := by simp
  have hrr : ((r2 : Int) == (r2 : Int)) = true := by simp
  obtain ⟨hn0, hn1, hn2, _⟩ := HC.out W2 HK2.out
  go_wp2_with fail
  refine (HPA.out W2 HK2.out).mono ?_
  rintro e W3 ⟨hb3, v3, rfl, hown3⟩
  have HRD3 := Lib.hid (show RdT.Reads W3 W3.heap.size v3 (RdT.strs (pathsQ nd)) from RdT.Reads.own hown3)
  have HK3 := Lib.hid (HK2.out.step hb3)
  clear hb3 hown3 hn0 hn1 hn2
  obtain ⟨hn0, hn1, hn2, _⟩ := HC.out W3 HK3.out
  go_wp2_with fail
  refine (HSZ.out W3 HK3.out).mono ?_
  rintro e W4 ⟨rfl, hb4⟩
  have HK4 := Lib.hid (HK3.out.step hb4)
  have HR4 := Lib.hid ((KeepW.start (Nat.le_refl W3.heap.size)).step hb4)
  clear hb4 hn0 hn1 hn2
  obtain ⟨hn0, hn1, hn2, _⟩ := HC.out W4 HK4.out
  obtain ⟨hm0, hm1, hm2, _⟩ := HCX.out W4 HK4.out
  go_wp2_with fail
  refine (HPU.out W4 HK4.out).mono ?_
  rintro e W5 ⟨hb5, v5, rfl, ev5, rfl, hes5, hd5, hk5⟩
  obtain ⟨A5, c5, rfl, _, _⟩ := hes5.form
  obtain ⟨w6, e6, hg6, hb6⟩ : ∃ w6, w6 = W5.alloc (.cells #[.int .u8 (y.k : Int), .string y.d, .slice A5 y.es.len c5] 26) ∧ w6.heap[W5.heap.size]? = some (.cells #[.int .u8 (y.k : Int), .string y.d, .slice A5 y.es.len c5] 26 (0, 0)) ∧ Below W5.heap.size W5 w6 := ⟨_, rfl, heap_alloc_new _ _, (Below.refl _ _).alloc (Nat.le_refl _) _⟩
  have HK6 := Lib.hid ((HK4.out.step hb5).step hb6)
  have HR6 := Lib.hid ((HR4.out.step hb5).step hb6)
  have HY6 := Lib.hid (show NdV w6 w6.heap.size (.agg #[.int .u8 (y.k : Int), .string y.d, .slice A5 y.es.len c5]) y from ⟨_, rfl, (hes5.keep hb6).more hb6.size, hd5, hk5⟩)
  have HG6 := Lib.hid hg6
  clear hn0 hn1 hn2 hm0 hm1 hm2 hb5 hes5 hb6 hg6
  go_upto_region 6 with (fail)
  rw [← e6]
  clear e6
  generalize W5.heap.size = g6 at *
  obtain ⟨hn0, hn1, hn2, _⟩ := HC.out w6 HK6.out
  obtain ⟨hm0, hm1, hm2, _⟩ := HCX.out w6 HK6.out
  go_wp2_with fail
  refine (HPR.out w6 HK6.out).mono ?_
  rintro e W7 ⟨hb7, v7, rfl, ev7, rfl, hes7, hd7, hk7⟩
  obtain ⟨A7, c7, rfl, _, _⟩ := hes7.form
  obtain ⟨w8, e8, hg8, hb8⟩ : ∃ w8, w8 = W7.alloc (.cells #[.int .u8 (y.k : Int), .string y.d, .slice A7 y.es.len c7] 26) ∧ w8.heap[W7.heap.size]? = some (.cells #[.int .u8 (y.k : Int), .string y.d, .slice A7 y.es.len c7] 26 (0, 0)) ∧ Below W7.heap.size W7 w8 := ⟨_, rfl, heap_alloc_new _ _, (Below.refl _ _).alloc (Nat.le_refl _) _⟩
  have hk68 : KeepW w6 w6.heap.size w8 := ((KeepW.start (Nat.le_refl _)).step hb7).step hb8
  have HK8 := Lib.hid ((HK6.out.step hb7).step hb8)
  have HR8 := Lib.hid ((HR6.out.step hb7).step hb8)
  have HG8 := Lib.hid (And.intro ((hk68.1.block g6 (block_lt HG6.out)).trans HG6.out) hg8)
  have HSA := Lib.hid (refSame_any _ y y (Nat.le_refl _) HYC.out w8 w8.heap.size (Nat.le_refl _) _ _ (HY6.out.below hk68.1) (show NdV w8 w8.heap.size (.agg #[.int .u8 (y.k : Int), .string y.d, .slice A7 y.es.len c7]) y from ⟨_, rfl, (hes7.keep hb8).more hb8.size, hd7, hk7⟩))
  clear hn0 hn1 hn2 hm0 hm1 hm2 hb7 hes7 hb8 hg8 hk68
  go_upto_region 7 with (fail)
  rw [← e8]
  clear e8
  generalize W7.heap.size = g8 at *
  obtain ⟨hx0, hx1, hx2, _⟩ := nd_box (W := w8) (k := y.k) (d := y.d) (v := .slice A5 y.es.len c5) HG8.out.1
  obtain ⟨hy0, hy1, hy2, _⟩ := nd_box (W := w8) (k := y.k) (d := y.d) (v := .slice A7 y.es.len c7) HG8.out.2
  rw [sameN_refl] at HSA
  go_wp2_with fail
  refine HSA.out.mono ?_
  rintro e W9 ⟨rfl, hb9⟩
  have HK9 := Lib.hid (HK8.out.step hb9)
  have HR9 := Lib.hid (HR8.out.step hb9)
  clear hb9 hx0 hx1 hx2 hy0 hy1 hy2
  obtain ⟨hn0, hn1, hn2, _⟩ := HC.out W9 HK9.out
  go_wp2_with fail
  refine (HPA.out W9 HK9.out).mono ?_
  rintro e W10 ⟨hb10, v10, rfl, hown10⟩
  have HR10 := Lib.hid (HR9.out.step hb10)
  have HK10 := Lib.hid (HK9.out.step hb10)
  have HST := Lib.hid ((RdT.sameTexts_any v3 v10 (pathsQ nd) (pathsQ nd) W10.heap.size W10 ((HRD3.out.below HR10.out.1).more HR10.out.2) (RdT.Reads.own hown10)).mono (fun e W hq => (show e = .returned (.bool true) ∧ Below W10.heap.size W10 W from by
    obtain ⟨h1, nq, h2⟩ := hq
    rw [h2]
    exact ⟨by rw [h1]; simp, below_drewN (Below.refl _ _) nq⟩)))
  clear hb10 hown10 hn0 hn1 hn2
  go_wp2_with fail
  refine HST.out.mono ?_
  rintro e W11 ⟨rfl, hb11⟩
  have HK11 := Lib.hid (HK10.out.step hb11)
  clear hb11
  obtain ⟨hn0, hn1, hn2, _⟩ := HC.out W11 HK11.out
  go_wp2_with fail
  refine (HSZ.out W11 HK11.out).mono ?_
  rintro e W12 ⟨rfl, hb12⟩
  have HK12 := Lib.hid (HK11.out.step hb12)
  clear hb12 hn0 hn1 hn2
  go_wp2_with fail
  refine (HWK.out W12).mono ?_
  rintro e W13 ⟨rfl, hb13⟩
  have HB13 := Lib.hid (HB.out W13 (HK12.out.step hb13))
  clear hb13
  go_wp2_with fail
  go_ret
  exact ⟨rfl, HB13.out⟩
end Go.Proofs.YtmcafiihicanfaaDoor
