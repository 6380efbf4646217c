/- files: the reference's Right; the walk of the law FilesRight. -/
import Derived.Test.YtadlimfpcfdgcaaFilSh
set_option linter.unusedVariables false
set_option linter.unusedSimpArgs false
namespace Go.Proofs.Ytadlimfpcfdgcaa
open Go Go.RowKit Go.BigFrame
open Fil (Es Nd Sp)

theorem count_depth : ∀ es : Es, es.depth ≤ es.count
  | .nil => Nat.le_refl _
  | .cons _ _ _ s nx => by have h1 := count_depth s; have h2 := count_depth nx; simp only [Es.depth, Es.count]; omega
set_option maxRecDepth 1000000 in
set_option maxRecDepth 100000 in
set_option maxHeartbeats 4000000 in
theorem refRight_any (w : World) (B : Nat) (hB : B ≤ w.heap.size) (v : Value) (nd : Nd) (hv : NdV w B v nd) (hc : nd.es.count ≤ 1000000) :
    Calls Try.prog 37 #[v] w fun e W => e = .returned (.bool nd.right) ∧ Below w.heap.size w W := by
  obtain ⟨ev, rfl, hes, hd, hk⟩ := hv
  obtain ⟨A, c, rfl, hlc, hcm⟩ := hes.form
  have HR := Lib.hid (show nd.right = (decide ((nd.count : Int) ≤ 4096) && decide ((nd.depth : Int) ≤ 32) && nd.may) by
    unfold Nd.right
    have e1 : decide (nd.count ≤ 4096) = decide ((nd.count : Int) ≤ 4096) := by rw [decide_eq_decide]; omega
    have e2 : decide (nd.depth ≤ 32) = decide ((nd.depth : Int) ≤ 32) := by rw [decide_eq_decide]; omega
    rw [e1, e2])
  go_enter Try.func37, Try.ntmps37
  obtain ⟨w1, e1, hg1, hb1, hz1⟩ : ∃ w1, w1 = w.alloc (.cells #[.int .u8 (nd.k : Int), .string nd.d, .slice A nd.es.len c] 40) ∧ w1.heap[w.heap.size]? = some (.cells #[.int .u8 (nd.k : Int), .string nd.d, .slice A nd.es.len c] 40 (0, 0)) ∧ Below w.heap.size w w1 ∧ w1.heap.size = w.heap.size + 1 := ⟨_, rfl, heap_alloc_new _ _, (Below.refl _ _).alloc (Nat.le_refl _) _, by simp⟩
  go_upto_region 1 with (fail)
  rw [← e1]
  clear e1
  have HV := Lib.hid (fun (w' : World) (h : KeepW w1 w1.heap.size w') => show NdV w' B (.agg #[.int .u8 (nd.k : Int), .string nd.d, .slice A nd.es.len c]) nd from ⟨_, rfl, hes.keep ((below_step hb1 h.1 (by omega)).mono hB), hd, hk⟩)
  have HC := Lib.hid (fun (w' : World) (h : KeepW w1 w1.heap.size w') => nd_box (W := w') (k := nd.k) (d := nd.d) (v := .slice A nd.es.len c) ((h.1.block w.heap.size (by omega)).trans hg1))
  have HB := Lib.hid (fun (w' : World) (h : KeepW w1 w1.heap.size w') => below_step hb1 h.1 (by omega))
  have HK0 := Lib.hid (KeepW.start (Nat.le_refl w1.heap.size))
  have HZ := Lib.hid hz1
  have hdc := count_depth nd.es
  have HCO := Lib.hid (fun (w' : World) (h : KeepW w1 w1.heap.size w') => h.calls (refCount_any _ nd (Nat.le_refl _) (by omega) w' B (by have := h.2; have := HZ.out; omega) _ (HV.out w' h)))
  have HDE := Lib.hid (fun (w' : World) (h : KeepW w1 w1.heap.size w') => h.calls (refDepth_any _ nd (Nat.le_refl _) (by show nd.es.depth ≤ _; omega) w' B (by have := h.2; have := HZ.out; omega) _ (HV.out w' h)))
  have HMA := Lib.hid (fun (w' : World) (h : KeepW w1 w1.heap.size w') => h.calls (refMay_any _ nd (Nat.le_refl _) (by omega) w' B (by have := h.2; have := HZ.out; omega) _ (HV.out w' h)))
  obtain ⟨hn0, hn1, hn2, _⟩ := HC.out w1 HK0.out
  clear hg1 hb1 hz1 hes hdc
  go_wp2_with fail
  refine (HCO.out w1 HK0.out).mono ?_
  rintro e W1 ⟨rfl, hk1⟩
  have HK1 := Lib.hid hk1
  clear hk1 hn0 hn1 hn2
  rcases Bool.eq_false_or_eq_true (decide ((nd.count : Int) ≤ 4096)) with h1 | h1
  rotate_left
  · have HF := Lib.hid (show nd.right = false by rw [HR.out, h1]; rfl)
    go_wp2_with fail
    go_ret
    exact ⟨by rw [HF.out]; rfl, HB.out _ HK1.out⟩
  obtain ⟨hn0, hn1, hn2, _⟩ := HC.out W1 HK1.out
  go_wp2_with fail
  refine (HDE.out W1 HK1.out).mono ?_
  rintro e W2 ⟨rfl, hk2⟩
  have HK2 := Lib.hid hk2
  clear hk2 hn0 hn1 hn2
  rcases Bool.eq_false_or_eq_true (decide ((nd.depth : Int) ≤ 32)) with h2 | h2
  rotate_left
  · have HF := Lib.hid (show nd.right = false by rw [HR.out, h1, h2]; rfl)
    go_wp2_with fail
    go_ret
    exact ⟨by rw [HF.out]; rfl, HB.out _ HK2.out⟩
  obtain ⟨hn0, hn1, hn2, _⟩ := HC.out W2 HK2.out
  go_wp2_with fail
  refine (HMA.out W2 HK2.out).mono ?_
  rintro e W3 ⟨rfl, hk3⟩
  have HK3 := Lib.hid hk3
  clear hk3 hn0 hn1 hn2
  have HF := Lib.hid (show nd.right = nd.may by rw [HR.out, h1, h2]; rfl)
  cases hm : nd.may
  all_goals
    go_wp2_with fail
    go_ret
    exact ⟨by rw [HF.out, hm]; rfl, HB.out _ HK3.out⟩
end Go.Proofs.Ytadlimfpcfdgcaa
