/- The walk of the law FilesAt. -/
import Derived.Test.YtmcafiihicanfaaDoorFmSa
import Derived.Test.YtmcafiihicanfaaDoorFilSc
set_option linter.unusedVariables false
set_option linter.unusedSimpArgs false
namespace Go.Proofs.YtmcafiihicanfaaDoor
open Go Go.RowKit Go.BigFrame
open Fil (Es Nd Sp)

theorem wei_count : ∀ es : Es, es.count ≤ weiE es
  | .nil => Nat.le_refl _
  | .cons _ _ _ s nx => by have h1 := wei_count s; have h2 := wei_count nx; simp only [Es.count, weiE]; omega
theorem wei_size : ∀ es : Es, es.size ≤ weiE es
  | .nil => Nat.le_refl _
  | .cons _ _ _ s nx => by have h1 := wei_size s; have h2 := wei_size nx; simp only [Es.size, weiE]; omega
theorem count_depth : ∀ es : Es, es.depth ≤ es.count
  | .nil => Nat.le_refl _
  | .cons _ _ _ s nx => by have h1 := count_depth s; have h2 := count_depth nx; simp only [Es.depth, Es.count]; omega
theorem atN_count : ∀ (l : List ByteArray) (nd x : Nd), atN nd l = some x → x.es.count ≤ nd.es.count
  | [], nd, x, h => by cases h; exact Nat.le_refl _
  | nm :: l, nd, x, h => by
    unfold atN at h
    split at h
    · rename_i hp
      have h1 := atN_count l _ x h
      have h2 := kid_count nd.es _ (placeN_lt hp)
      omega
    · cases h
theorem at_count (nd : Nd) (s : ByteArray) : (atR nd s).2.es.count ≤ nd.es.count := by
  unfold atR
  split
  · exact Nat.zero_le _
  · split
    · exact Nat.zero_le _
    · rename_i l _ x hx
      exact atN_count _ nd _ hx
/-- What Weight tells, in a law. -/
theorem wei_calls (top : Nat) (ht : top ≤ 1000000) (nd : Nd) (w : World) (B : Nat) (hB : B ≤ w.heap.size) (v : Value) (hv : NdV w B v nd) : Calls Tryd.prog 13 #[v, .int .i64 (top : Int)] w (WeiPost w nd top) :=
  weight_any _ nd (Nat.le_refl _) top ht w B hB v hv
set_option maxRecDepth 1000000 in
set_option maxRecDepth 100000 in
set_option maxHeartbeats 4000000 in
theorem filesAt_walk (v : Value) (nd : Nd) (s : ByteArray) (w : World) (_ : True) (hv : NdV w w.heap.size v nd) (hs : s.size ≤ maxLen) : Calls Tryd.prog 6 #[v, .string s] w fun e w' => e = .returned (.bool true) ∧ Below w.heap.size w w' := by
  unfold maxLen at hs
  obtain ⟨ev, rfl, hes, hd, hk⟩ := hv
  obtain ⟨A, c, rfl, hlc, hcm⟩ := hes.form
  have HWK := Lib.hid works_any
  go_enter Tryd.func6, Tryd.ntmps6
  obtain ⟨w1, e1, hg1, hb1, hz1⟩ : ∃ w1, w1 = w.alloc (.cells #[.int .u8 (nd.k : Int), .string nd.d, .slice A nd.es.len c] 26) ∧ w1.heap[w.heap.size]? = some (.cells #[.int .u8 (nd.k : Int), .string nd.d, .slice A nd.es.len c] 26 (0, 0)) ∧ Below w.heap.size w w1 ∧ w1.heap.size = w.heap.size + 1 := ⟨_, rfl, heap_alloc_new _ _, (Below.refl _ _).alloc (Nat.le_refl _) _, by simp⟩
  go_upto_region 1 with (fail)
  rw [← e1]
  clear e1
  have HV := Lib.hid (fun (w' : World) (h : KeepW w1 w1.heap.size w') => show NdV w' w.heap.size (.agg #[.int .u8 (nd.k : Int), .string nd.d, .slice A nd.es.len c]) nd from ⟨_, rfl, hes.keep (below_step hb1 h.1 (by omega)), hd, hk⟩)
  have HC := Lib.hid (fun (w' : World) (h : KeepW w1 w1.heap.size w') => nd_box (W := w') (k := nd.k) (d := nd.d) (v := .slice A nd.es.len c) ((h.1.block w.heap.size (by omega)).trans hg1))
  have HB := Lib.hid (fun (w' : World) (h : KeepW w1 w1.heap.size w') => below_step hb1 h.1 (by omega))
  have HK0 := Lib.hid (KeepW.start (Nat.le_refl w1.heap.size))
  have HZ := Lib.hid hz1
  have HWE := Lib.hid (wei_calls 2000 (by decide) nd w1 w.heap.size (by omega) _ (HV.out w1 HK0.out))
  obtain ⟨hn0, hn1, hn2, _⟩ := HC.out w1 HK0.out
  clear hg1 hb1 hz1 hes
  go_wp2_with fail
  refine HWE.out.mono ?_
  rintro e W1 ⟨hb1, r, rfl, hr1, hr2, hr3⟩
  have HK1 := Lib.hid (HK0.out.step hb1)
  clear hb1 hn0 hn1 hn2
  rcases Nat.lt_or_ge 2000 r with hr | hr
  · have hrI : decide ((2000 : Int) < (r : Int)) = true := decide_eq_true (by omega)
    clear hr hr1 hr2 hr3
    go_wp2_with fail
    refine (HWK.out W1).mono ?_
    rintro e W2 ⟨rfl, hb2⟩
    have HB2 := Lib.hid (HB.out W2 (HK1.out.step hb2))
    clear hb2
    go_wp2_with fail
    go_ret
    exact ⟨rfl, HB2.out⟩
  have hrI : decide ((2000 : Int) < (r : Int)) = false := decide_eq_false (by omega)
  have hw : weiN nd ≤ 2000 := by rw [← hr2 hr]; exact hr
  clear hr hr1 hr2 hr3
  by_cases hsl : s.size ≤ 1000
  rotate_left
  · have hsI : decide ((1000 : Int) < (s.size : Int)) = true := decide_eq_true (by omega)
    clear hsl hw
    go_wp2_with fail
    refine (HWK.out W1).mono ?_
    rintro e W2 ⟨rfl, hb2⟩
    have HB2 := Lib.hid (HB.out W2 (HK1.out.step hb2))
    clear hb2
    go_wp2_with fail
    go_ret
    exact ⟨rfl, HB2.out⟩
  have hsI : decide ((1000 : Int) < (s.size : Int)) = false := decide_eq_false (by omega)
  have HA := Lib.hid (at_any W1 w.heap.size (by have := HK1.out.2; have := HZ.out; omega) _ nd (HV.out W1 HK1.out) s (by omega))
  have HA2 := Lib.hid (fun (w' : World) (h : KeepW w1 w1.heap.size w') => refAt_any w' w.heap.size (by have := h.2; have := HZ.out; omega) _ nd (HV.out w' h) s (by omega))
  have hxc : (atR nd s).2.es.count ≤ 1000000000 := by
    have h1 := wei_count nd.es
    have h2 := at_count nd s
    unfold weiN at hw
    omega
  clear hsl hw
  unfold AtPost at HA HA2
  generalize (atR nd s).2 = x at *
  generalize (atR nd s).1 = r2 at *
  have HXC := Lib.hid hxc
  clear hxc
  obtain ⟨hn0, hn1, hn2, _⟩ := HC.out W1 HK1.out
  go_wp2_with fail
  refine HA.out.mono ?_
  rintro e W2 ⟨hb2, v2, rfl, ev2, rfl, hes2, hd2, hk2⟩
  obtain ⟨A2, c2, rfl, _, _⟩ := hes2.form
  obtain ⟨w3, e3, hg3, hb3⟩ : ∃ w3, w3 = W2.alloc (.cells #[.int .u8 (x.k : Int), .string x.d, .slice A2 x.es.len c2] 26) ∧ w3.heap[W2.heap.size]? = some (.cells #[.int .u8 (x.k : Int), .string x.d, .slice A2 x.es.len c2] 26 (0, 0)) ∧ Below W2.heap.size W2 w3 := ⟨_, rfl, heap_alloc_new _ _, (Below.refl _ _).alloc (Nat.le_refl _) _⟩
  have HK3 := Lib.hid ((HK1.out.step hb2).step hb3)
  have HX3 := Lib.hid (show NdV w3 w.heap.size (.agg #[.int .u8 (x.k : Int), .string x.d, .slice A2 x.es.len c2]) x from ⟨_, rfl, hes2.keep (hb3.mono (by have := (HK1.out.step hb2).2; have := HZ.out; omega)), hd2, hk2⟩)
  have HG3 := Lib.hid hg3
  clear hn0 hn1 hn2 hb2 hes2 hb3 hg3
  go_upto_region 4 with (fail)
  rw [← e3]
  clear e3
  generalize W2.heap.size = g3 at *
  obtain ⟨hn0, hn1, hn2, _⟩ := HC.out w3 HK3.out
  go_wp2_with fail
  refine (HA2.out w3 HK3.out).mono ?_
  rintro e W4 ⟨hb4, v4, rfl, ev4, rfl, hes4, hd4, hk4⟩
  obtain ⟨A4, c4, rfl, _, _⟩ := hes4.form
  obtain ⟨w5, e5, hg5, hb5⟩ : ∃ w5, w5 = W4.alloc (.cells #[.int .u8 (x.k : Int), .string x.d, .slice A4 x.es.len c4] 26) ∧ w5.heap[W4.heap.size]? = some (.cells #[.int .u8 (x.k : Int), .string x.d, .slice A4 x.es.len c4] 26 (0, 0)) ∧ Below W4.heap.size W4 w5 := ⟨_, rfl, heap_alloc_new _ _, (Below.refl _ _).alloc (Nat.le_refl _) _⟩
  have hk35 : KeepW w3 w3.heap.size w5 := ((KeepW.start (Nat.le_refl _)).step hb4).step hb5
  have HK5 := Lib.hid ((HK3.out.step hb4).step hb5)
  have hg35 := (hk35.1.block g3 (block_lt HG3.out)).trans HG3.out
  have HX5 := Lib.hid (show NdV w5 w.heap.size (.agg #[.int .u8 (x.k : Int), .string x.d, .slice A2 x.es.len c2]) x from HX3.out.keep (hk35.1.mono (by have := HK3.out.2; have := HZ.out; omega)))
  have HY5 := Lib.hid (show NdV w5 w.heap.size (.agg #[.int .u8 (x.k : Int), .string x.d, .slice A4 x.es.len c4]) x from ⟨_, rfl, hes4.keep (hb5.mono (by have := (HK3.out.step hb4).2; have := HZ.out; omega)), hd4, hk4⟩)
  have HSA := Lib.hid (refSame_any _ x x (Nat.le_refl _) HXC.out w5 w.heap.size (by have := HK5.out.2; have := HZ.out; omega) _ _ HX5.out HY5.out)
  have HG5 := Lib.hid (And.intro hg35 hg5)
  clear hn0 hn1 hn2 hb4 hes4 hb5 hg5 hg35 hk35
  go_upto_region 5 with (fail)
  rw [← e5]
  clear e5
  generalize W4.heap.size = g5 at *
  obtain ⟨hx0, hx1, hx2, _⟩ := nd_box (W := w5) (k := x.k) (d := x.d) (v := .slice A2 x.es.len c2) HG5.out.1
  obtain ⟨hy0, hy1, hy2, _⟩ := nd_box (W := w5) (k := x.k) (d := x.d) (v := .slice A4 x.es.len c4) HG5.out.2
  have hrr : ((r2 : Int) == (r2 : Int)) = true := by simp
  rw [sameN_refl] at HSA
  go_wp2_with fail
  refine HSA.out.mono ?_
  rintro e W6 ⟨rfl, hb6⟩
  have HK6 := Lib.hid (HK5.out.step hb6)
  clear hb6 hx0 hx1 hx2 hy0 hy1 hy2
  go_wp2_with fail
  refine (HWK.out W6).mono ?_
  rintro e W7 ⟨rfl, hb7⟩
  have HB7 := Lib.hid (HB.out W7 (HK6.out.step hb7))
  clear hb7
  go_wp2_with fail
  go_ret
  exact ⟨rfl, HB7.out⟩
end Go.Proofs.YtmcafiihicanfaaDoor
