/- files: the reference's Right; the walk of the law FilesRight. -/
import Derived.Test.YtmcafiihicanfaaDoorFilSh
import Derived.Test.YtmcafiihicanfaaDoorFilSd
set_option linter.unusedVariables false
set_option linter.unusedSimpArgs false
namespace Go.Proofs.YtmcafiihicanfaaDoor
open Go Go.RowKit Go.BigFrame
open Fil (Es Nd Sp)

set_option maxRecDepth 1000000 in
set_option maxRecDepth 100000 in
set_option maxHeartbeats 4000000 in
theorem refRight_any (w : World) (B : Nat) (hB : B ≤ w.heap.size) (v : Value) (nd : Nd) (hv : NdV w B v nd) (hc : nd.es.count ≤ 1000000) :
    Calls Tryd.prog 15 #[v] w fun e W => e = .returned (.bool nd.right) ∧ Below w.heap.size w W := by
  obtain ⟨ev, rfl, hes, hd, hk⟩ := hv
  obtain ⟨A, c, rfl, hlc, hcm⟩ := hes.form
  have HR := Lib.hid (show nd.right = (decide ((nd.count : Int) ≤ 4096) && decide ((nd.depth : Int) ≤ 32) && nd.may) by
    unfold Nd.right
    have e1 : decide (nd.count ≤ 4096) = decide ((nd.count : Int) ≤ 4096) := by rw [decide_eq_decide]; omega
    have e2 : decide (nd.depth ≤ 32) = decide ((nd.depth : Int) ≤ 32) := by rw [decide_eq_decide]; omega
    rw [e1, e2])
  go_enter Tryd.func15, Tryd.ntmps15
  obtain ⟨w1, e1, hg1, hb1, hz1⟩ : ∃ w1, w1 = w.alloc (.cells #[.int .u8 (nd.k : Int), .string nd.d, .slice A nd.es.len c] 26) ∧ w1.heap[w.heap.size]? = some (.cells #[.int .u8 (nd.k : Int), .string nd.d, .slice A nd.es.len c] 26 (0, 0)) ∧ Below w.heap.size w w1 ∧ w1.heap.size = w.heap.size + 1 := ⟨_, rfl, heap_alloc_new _ _, (Below.refl _ _).alloc (Nat.le_refl _) _, by simp⟩
  go_upto_region 1 with (fail)
  rw [← e1]
  clear e1
  have HV := Lib.hid (fun (w' : World) (h : KeepW w1 w1.heap.size w') => show NdV w' B (.agg #[.int .u8 (nd.k : Int), .string nd.d, .slice A nd.es.len c]) nd from ⟨_, rfl, hes.keep ((below_step hb1 h.1 (by omega)).mono hB), hd, hk⟩)
  have HC := Lib.hid (fun (w' : World) (h : KeepW w1 w1.heap.size w') => nd_box (W := w') (k := nd.k) (d := nd.d) (v := .slice A nd.es.len c) ((h.1.block w.heap.size (by omega)).trans hg1))
  have HB := Lib.hid (fun (w' : World) (h : KeepW w1 w1.heap.size w') => below_step hb1 h.1 (by omega))
  have HK0 := Lib.hid (KeepW.start (Nat.le_refl w1.heap.size))
  have HZ := Lib.hid hz1
  have hdc := count_depth nd.es
  have HCO := Lib.hid (fun (w' : World) (h : KeepW w1 w1.heap.size w') => h.calls (refCount_any _ nd (Nat.le_refl _) (by omega) w' B (by have := h.2; have := HZ.out; omega) _ (HV.out w' h)))
  have HDE := Lib.hid (fun (w' : World) (h : KeepW w1 w1.heap.size w') => h.calls (refDepth_any _ nd (Nat.le_refl _) (by show nd.es.depth ≤ _; omega) w' B (by have := h.2; have := HZ.out; omega) _ (HV.out w' h)))
  have HMA := Lib.hid (fun (w' : World) (h : KeepW w1 w1.heap.size w') => h.calls (refMay_any _ nd (Nat.le_refl _) (by omega) w' B (by have := h.2; have := HZ.out; omega) _ (HV.out w' h)))
  obtain ⟨hn0, hn1, hn2, _⟩ := HC.out w1 HK0.out
  clear hg1 hb1 hz1 hes hdc
  go_wp2_with fail
  refine (HCO.out w1 HK0.out).mono ?_
  rintro e W1 ⟨rfl, hk1⟩
  have HK1 := Lib.hid hk1
  clear hk1 hn0 hn1 hn2
  rcases Bool.eq_false_or_eq_true (decide ((nd.count : Int) ≤ 4096)) with h1 | h1
  rotate_left
  · have HF := Lib.hid (show nd.right = false by rw [HR.out, h1]; rfl)
    go_wp2_with fail
    go_ret
    exact ⟨by rw [HF.out]; rfl, HB.out _ HK1.out⟩
  obtain ⟨hn0, hn1, hn2, _⟩ := HC.out W1 HK1.out
  go_wp2_with fail
  refine (HDE.out W1 HK1.out).mono ?_
  rintro e W2 ⟨rfl, hk2⟩
  have HK2 := Lib.hid hk2
  clear hk2 hn0 hn1 hn2
  rcases Bool.eq_false_or_eq_true (decide ((nd.depth : Int) ≤ 32)) with h2 | h2
  rotate_left
  · have HF := Lib.hid (show nd.right = false by rw [HR.out, h1, h2]; rfl)
    go_wp2_with fail
    go_ret
    exact ⟨by rw [HF.out]; rfl, HB.out _ HK2.out⟩
  obtain ⟨hn0, hn1, hn2, _⟩ := HC.out W2 HK2.out
  go_wp2_with fail
  refine (HMA.out W2 HK2.out).mono ?_
  rintro e W3 ⟨rfl, hk3⟩
  have HK3 := Lib.hid hk3
  clear hk3 hn0 hn1 hn2
  have HF := Lib.hid (show nd.right = nd.may by rw [HR.out, h1, h2]; rfl)
  cases hm : nd.may
  all_goals
    go_wp2_with fail
    go_ret
    exact ⟨by rw [HF.out, hm]; rfl, HB.out _ HK3.out⟩
set_option maxRecDepth 1000000 in
set_option maxRecDepth 100000 in
set_option maxHeartbeats 4000000 in
theorem filesRight_walk (v : Value) (nd : Nd) (w : World) (_ : True) (hv : NdV w w.heap.size v nd) : Calls Tryd.prog 4 #[v] w fun e w' => e = .returned (.bool true) ∧ Below w.heap.size w w' := by
  obtain ⟨ev, rfl, hes, hd, hk⟩ := hv
  obtain ⟨A, c, rfl, hlc, hcm⟩ := hes.form
  have HWK := Lib.hid works_any
  go_enter Tryd.func4, Tryd.ntmps4
  obtain ⟨w1, e1, hg1, hb1, hz1⟩ : ∃ w1, w1 = w.alloc (.cells #[.int .u8 (nd.k : Int), .string nd.d, .slice A nd.es.len c] 26) ∧ w1.heap[w.heap.size]? = some (.cells #[.int .u8 (nd.k : Int), .string nd.d, .slice A nd.es.len c] 26 (0, 0)) ∧ Below w.heap.size w w1 ∧ w1.heap.size = w.heap.size + 1 := ⟨_, rfl, heap_alloc_new _ _, (Below.refl _ _).alloc (Nat.le_refl _) _, by simp⟩
  go_upto_region 1 with (fail)
  rw [← e1]
  clear e1
  have HV := Lib.hid (fun (w' : World) (h : KeepW w1 w1.heap.size w') => show NdV w' w.heap.size (.agg #[.int .u8 (nd.k : Int), .string nd.d, .slice A nd.es.len c]) nd from ⟨_, rfl, hes.keep (below_step hb1 h.1 (by omega)), hd, hk⟩)
  have HC := Lib.hid (fun (w' : World) (h : KeepW w1 w1.heap.size w') => show w'.cell? ⟨w.heap.size, 0, none⟩ = some (.int .u8 (nd.k : Int)) ∧ w'.cell? ⟨w.heap.size, 1, none⟩ = some (.string nd.d) ∧ w'.cell? ⟨w.heap.size, 2, none⟩ = some (.slice A nd.es.len c) from by
    have h1 := nd_box (W := w') (k := nd.k) (d := nd.d) (v := .slice A nd.es.len c) ((h.1.block w.heap.size (by omega)).trans hg1)
    exact ⟨h1.1, h1.2.1, h1.2.2.1⟩)
  have HB := Lib.hid (fun (w' : World) (h : KeepW w1 w1.heap.size w') => below_step hb1 h.1 (by omega))
  have HK0 := Lib.hid (KeepW.start (Nat.le_refl w1.heap.size))
  have HZ := Lib.hid hz1
  have HWE := Lib.hid (wei_calls 2000 (by decide) nd w1 w.heap.size (by omega) _ (HV.out w1 HK0.out))
  obtain ⟨hn0, hn1, hn2⟩ := HC.out w1 HK0.out
  clear hg1 hb1 hz1 hes
  go_wp2_with fail
  refine HWE.out.mono ?_
  rintro e W1 ⟨hb1, r, rfl, hr1, hr2, hr3⟩
  have HK1 := Lib.hid (HK0.out.step hb1)
  clear hb1 hn0 hn1 hn2
  rcases Nat.lt_or_ge 2000 r with hr | hr
  · have hrI : decide ((2000 : Int) < (r : Int)) = true := decide_eq_true (by omega)
    clear hr hr1 hr2 hr3
    go_wp2_with fail
    refine (HWK.out W1).mono ?_
    rintro e W2 ⟨rfl, hb2⟩
    have HB2 := Lib.hid (HB.out W2 (HK1.out.step hb2))
    clear hb2
    go_wp2_with fail
    go_ret
    exact ⟨rfl, HB2.out⟩
  have hrI : decide ((2000 : Int) < (r : Int)) = false := decide_eq_false (by omega)
  have hw : weiN nd ≤ 2000 := by rw [← hr2 hr]; exact hr
  have hcn : nd.es.count ≤ 2000 := by have h1 := wei_count nd.es; unfold weiN at hw; omega
  have hsn : nd.size ≤ 2000 := by have h1 := wei_size nd.es; unfold weiN at hw; show nd.d.size + nd.es.size ≤ _; omega
  have hdn : nd.depth ≤ 2000 := by have h1 := count_depth nd.es; show nd.es.depth ≤ _; omega
  clear hr hr1 hr2 hr3 hw
  have hfl : nd.flat.length ≤ 1000000000 := by rw [Fil.Nd.flat_len]; unfold Fil.Nd.count; omega
  have H1 := Lib.hid (fun (w' : World) (h : KeepW w1 w1.heap.size w') => h.calls (right_calls _ nd w' ((HV.out w' h).more (by have := h.2; have := HZ.out; omega)) (by omega)))
  have H2 := Lib.hid (fun (w' : World) (h : KeepW w1 w1.heap.size w') => h.calls (refRight_any w' w.heap.size (by have := h.2; have := HZ.out; omega) _ nd (HV.out w' h) (by omega)))
  have H3 := Lib.hid (fun (w' : World) (h : KeepW w1 w1.heap.size w') => h.calls (callsIn_wide.1 (count_any 3 (Nat.le_refl _) _ nd w' ((HV.out w' h).more (by have := h.2; have := HZ.out; omega)) hfl)))
  have H4 := Lib.hid (fun (w' : World) (h : KeepW w1 w1.heap.size w') => h.calls (refCount_any _ nd (Nat.le_refl _) (by omega) w' w.heap.size (by have := h.2; have := HZ.out; omega) _ (HV.out w' h)))
  have H5 := Lib.hid (fun (w' : World) (h : KeepW w1 w1.heap.size w') => h.calls (callsIn_wide.1 (depth_any 3 (Nat.le_refl _) _ nd w' ((HV.out w' h).more (by have := h.2; have := HZ.out; omega)) hfl)))
  have H6 := Lib.hid (fun (w' : World) (h : KeepW w1 w1.heap.size w') => h.calls (refDepth_any _ nd (Nat.le_refl _) (by omega) w' w.heap.size (by have := h.2; have := HZ.out; omega) _ (HV.out w' h)))
  have H7 := Lib.hid (fun (w' : World) (h : KeepW w1 w1.heap.size w') => h.calls (callsIn_wide.1 (size_any 3 (Nat.le_refl _) _ nd w' ((HV.out w' h).more (by have := h.2; have := HZ.out; omega)) hfl (by omega))))
  have H8 := Lib.hid (fun (w' : World) (h : KeepW w1 w1.heap.size w') => h.calls (refSize_any _ nd (Nat.le_refl _) (by omega) w' w.heap.size (by have := h.2; have := HZ.out; omega) _ (HV.out w' h)))
  have H9 := Lib.hid (fun (w' : World) (h : KeepW w1 w1.heap.size w') => h.calls (works_any w'))
  clear hcn hsn hdn hfl
  generalize nd.right = rr at *
  generalize nd.count = cc at *
  generalize nd.depth = dd at *
  generalize nd.size = ss at *
  have hrr : (rr == rr) = true := by simp
  have hcc : ((cc : Int) == (cc : Int)) = true := by simp
  have hdd : ((dd : Int) == (dd : Int)) = true := by simp
  have hss : ((ss : Int) == (ss : Int)) = true := by simp
  go_wp2
  go_region_held3 (fun w' => w'.cell? ⟨w.heap.size, 0, none⟩ = some (.int .u8 (nd.k : Int)) ∧ w'.cell? ⟨w.heap.size, 1, none⟩ = some (.string nd.d) ∧ w'.cell? ⟨w.heap.size, 2, none⟩ = some (.slice A nd.es.len c)) (first | exact HC.out _ (by first | assumption | exact KeepW.drew HK1.out | exact KeepW.drew (by assumption)) | go_keep) (first
    | (go_at_call 14; refine (H1.out _ (by first | assumption | exact KeepW.drew HK1.out)).mono ?_; rintro e W3 ⟨rfl, hk3⟩)
    | (go_at_call 15; refine (H2.out _ (by first | assumption | exact KeepW.drew HK1.out)).mono ?_; rintro e W3 ⟨rfl, hk3⟩)
    | (go_at_call 16; refine (H3.out _ (by first | assumption | exact KeepW.drew HK1.out)).mono ?_; rintro e W3 ⟨rfl, hk3⟩)
    | (go_at_call 17; refine (H4.out _ (by first | assumption | exact KeepW.drew HK1.out)).mono ?_; rintro e W3 ⟨rfl, hk3⟩)
    | (go_at_call 18; refine (H5.out _ (by first | assumption | exact KeepW.drew HK1.out)).mono ?_; rintro e W3 ⟨rfl, hk3⟩)
    | (go_at_call 19; refine (H6.out _ (by first | assumption | exact KeepW.drew HK1.out)).mono ?_; rintro e W3 ⟨rfl, hk3⟩)
    | (go_at_call 20; refine (H7.out _ (by first | assumption | exact KeepW.drew HK1.out)).mono ?_; rintro e W3 ⟨rfl, hk3⟩)
    | (go_at_call 21; refine (H8.out _ (by first | assumption | exact KeepW.drew HK1.out)).mono ?_; rintro e W3 ⟨rfl, hk3⟩)
    | (go_at_call 12; refine (H9.out _ (by first | assumption | exact KeepW.drew HK1.out)).mono ?_; rintro e W3 ⟨rfl, hk3⟩))
  all_goals
    have HBF := Lib.hid (HB.out _ hk3)
    go_wp2_with fail
    go_ret
    exact ⟨rfl, HBF.out⟩
end Go.Proofs.YtmcafiihicanfaaDoor
