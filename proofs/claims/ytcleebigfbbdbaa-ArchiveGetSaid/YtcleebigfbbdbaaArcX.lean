/- archive: ArchiveBack, walked. -/
import Derived.Test.YtcleebigfbbdbaaArcU
import Derived.Test.YtcleebigfbbdbaaFilSb
import Derived.Test.YtcleebigfbbdbaaFilSc
import Derived.Test.YtcleebigfbbdbaaFilSd
import Derived.Test.YtcleebigfbbdbaaFilSi
set_option linter.unusedVariables false
set_option linter.unusedSimpArgs false
namespace Go.Proofs.Ytcleebigfbbdbaa
open Go Go.RowKit Go.BigFrame
open Fil (Es Nd Sp)
open Arc (BL num4 num2 encT letK encE encN sizE sizN rfN rdN rfE rdE rdT rd2 beN)
attribute [local go_sem] Oper.semAt_some

/-- Bytes that came in. -/
theorem open_bytA {H : Type} {enc : TypeId × Value → H} {w : World} {base : Nat} {sp : Nat → Bool} {held : Bool} {r : Reach} {b0 : Nat} {v : Value} {x : DataW H} {ps : List MemPlace} (lt : ∀ x ∈ ps, x.block < w.heap.size)
    (hval : Value.okWide Try.prog w r b0 27 v) (hd : DataW.Trod enc Try.prog w base sp held 27 v x ps) :
    ∃ (a : Value) (l : BL), BytAt w w.heap.size a l ∧ a = v := by
  obtain ⟨d, n, cap, A, h1, h2, h3, h4, h5, rfl⟩ := open_byteslice Try.underlying27 Try.underlying5 (by kernel_rfl) lt hval hd
  refine ⟨_, txt d n, ⟨A, cap, by rw [txt_len], by rw [txt_len]; exact h2, h3, h5, fun hp => ?_⟩, rfl⟩
  rw [txt_len] at hp
  obtain ⟨ad, e, hb, hc⟩ := h4 hp
  refine ⟨ad, e, hb, fun i hi => ?_⟩
  rw [txt_len] at hi
  rw [hc i hi]
  simp [dOf, txt, hi]
  have := h1 i
  omega
theorem right_count {y : Nd} (h : y.right = true) : y.es.count ≤ 4096 := by
  unfold Fil.Nd.right at h
  simp only [Bool.and_eq_true, decide_eq_true_eq] at h
  have : y.count = 1 + y.es.count := rfl
  omega
/-- A node, in a box of its own. -/
def BoxAt (W : World) (b : Nat) (y : Nd) (A : Option Addr) (c : Nat) : Prop :=
  W.heap[b]? = some (.cells #[.int .u8 (y.k : Int), .string y.d, .slice A y.es.len c] 24 (0, 0)) ∧ NdV W b (.agg #[.int .u8 (y.k : Int), .string y.d, .slice A y.es.len c]) y
theorem BoxAt.keep {W W' : World} {b : Nat} {y : Nd} {A : Option Addr} {c : Nat} (h : BoxAt W b y A c) (hb : Below W.heap.size W W') : BoxAt W' b y A c := by
  have hlt := block_lt h.1
  refine ⟨(hb.block _ hlt).trans h.1, ?_⟩
  obtain ⟨ev, e, hes, hd, hk⟩ := h.2
  exact ⟨ev, e, hes.keep (hb.mono (by omega)), hd, hk⟩
theorem BoxAt.new {w W : World} {y : Nd} {A : Option Addr} {c : Nat} (h : NdS W (Nw w W) (.agg #[.int .u8 (y.k : Int), .string y.d, .slice A y.es.len c]) y) :
    BoxAt (W.alloc (.cells #[.int .u8 (y.k : Int), .string y.d, .slice A y.es.len c] 24)) W.heap.size y A c := by
  refine ⟨heap_alloc_new _ _, ?_⟩
  have hx := NdS.keep (S' := fun b => b < W.heap.size) (w' := W.alloc (.cells #[.int .u8 (y.k : Int), .string y.d, .slice A y.es.len c] 24)) (fun b hb => ⟨hb.2, old_block _ _ _ hb.2⟩) h
  exact hx.at (fun b hb => hb)
theorem get_ex (l : BL) (w : World) (v : Value) (hv : BytAt w w.heap.size v l) : Calls Try.prog 14 #[v] w fun e W =>
    Below w.heap.size w W ∧ ∃ A c, e = .returned (.tuple #[.agg #[.int .u8 ((getR l).2.k : Int), .string (getR l).2.d, .slice A (getR l).2.es.len c], .int .i64 ((getR l).1 : Int)]) ∧ NdS W (Nw w W) (.agg #[.int .u8 ((getR l).2.k : Int), .string (getR l).2.d, .slice A (getR l).2.es.len c]) (getR l).2 := by
  refine (getArc_any l w w.heap.size (Nat.le_refl _) v hv).mono ?_
  rintro e W ⟨hb, v, he, hv⟩
  obtain ⟨ev, rfl, hes, hd, hk⟩ := hv
  obtain ⟨A, c, rfl, _⟩ := hes.form
  exact ⟨hb, A, c, he, _, rfl, hes, hd, hk⟩
theorem put_of (nd : Nd) (hN : nd.es.count ≤ 1000000) (w : World) (v : Value) (hv : NdV w w.heap.size v nd) : Calls Try.prog 10 #[v] w fun e W =>
    Below w.heap.size w W ∧ ∃ A cap, e = .returned (.tuple #[.slice A (putA nd).2.length cap, .int .i64 ((putA nd).1 : Int)]) ∧ BytAt W W.heap.size (.slice A (putA nd).2.length cap) (putA nd).2 := by
  refine (putArc_any nd hN w w.heap.size (Nat.le_refl _) v hv).mono ?_
  rintro e W ⟨hb, v, he, hv⟩
  obtain ⟨A, cap, rfl, _⟩ := hv.form
  exact ⟨hb, A, cap, he, hv⟩
set_option maxRecDepth 1000000 in
set_option maxRecDepth 100000 in
set_option maxHeartbeats 8000000 in
/-- From the second Get on: the frame of the law from there is the same on each way. -/
theorem archiveBack_walk (v : Value) (nd : Nd) (vb : Value) (l : BL) (w : World) (hv : NdV w w.heap.size v nd) (hvb : BytAt w w.heap.size vb l) : Calls Try.prog 5 #[v, vb] w fun e w' => e = .returned (.bool true) ∧ Below w.heap.size w w' := by
  obtain ⟨ev, rfl, hes, hd, hk⟩ := hv
  obtain ⟨A, c, rfl, hlc, hcm⟩ := hes.form
  have hVB := hvb
  obtain ⟨Ab, cb, rfl, hcb⟩ := hvb.form
  have HWK := Lib.hid aworks_any
  clear hvb
  go_enter Try.func5, Try.ntmps5
  obtain ⟨w1, e1, hg1, hb1, hz1⟩ : ∃ w1, w1 = w.alloc (.cells #[.int .u8 (nd.k : Int), .string nd.d, .slice A nd.es.len c] 24) ∧ w1.heap[w.heap.size]? = some (.cells #[.int .u8 (nd.k : Int), .string nd.d, .slice A nd.es.len c] 24 (0, 0)) ∧ Below w.heap.size w w1 ∧ w1.heap.size = w.heap.size + 1 := ⟨_, rfl, heap_alloc_new _ _, (Below.refl _ _).alloc (Nat.le_refl _) _, by simp⟩
  go_upto_region 1 with (fail)
  rw [← e1]
  clear e1
  have HV := Lib.hid (fun (w' : World) (h : KeepW w1 w1.heap.size w') => show NdV w' w.heap.size (.agg #[.int .u8 (nd.k : Int), .string nd.d, .slice A nd.es.len c]) nd from ⟨_, rfl, hes.keep (below_step hb1 h.1 (by omega)), hd, hk⟩)
  have HVB := Lib.hid (fun (w' : World) (h : KeepW w1 w1.heap.size w') => show BytAt w' w'.heap.size (.slice Ab l.length cb) l from (hVB.keep (below_step hb1 h.1 (by omega))).more (by have := h.2; omega))
  have HC := Lib.hid (fun (w' : World) (h : KeepW w1 w1.heap.size w') => show w'.cell? ⟨w.heap.size, 0, none⟩ = some (.int .u8 (nd.k : Int)) ∧ w'.cell? ⟨w.heap.size, 1, none⟩ = some (.string nd.d) ∧ w'.cell? ⟨w.heap.size, 2, none⟩ = some (.slice A nd.es.len c) from by
    have h1 := nd_box (W := w') (k := nd.k) (d := nd.d) (v := .slice A nd.es.len c) ((h.1.block w.heap.size (by omega)).trans hg1)
    exact ⟨h1.1, h1.2.1, h1.2.2.1⟩)
  have HB := Lib.hid (fun (w' : World) (h : KeepW w1 w1.heap.size w') => below_step hb1 h.1 (by omega))
  have HK0 := Lib.hid (KeepW.start (Nat.le_refl w1.heap.size))
  have HZ := Lib.hid hz1
  have HWE := Lib.hid (wei_calls 3000 (by decide) nd w1 w.heap.size (by omega) _ (HV.out w1 HK0.out))
  obtain ⟨hn0, hn1, hn2⟩ := HC.out w1 HK0.out
  clear hg1 hb1 hz1 hes hVB
  go_wp2_with fail
  refine HWE.out.mono ?_
  rintro e W1 ⟨hb1, r, rfl, hr1, hr2, hr3⟩
  have HK1 := Lib.hid (HK0.out.step hb1)
  clear hb1 hn0 hn1 hn2
  rcases Nat.lt_or_ge 3000 r with hr | hr
  · have hrI : decide ((3000 : Int) < (r : Int)) = true := decide_eq_true (by omega)
    clear hr hr1 hr2 hr3
    go_wp2_with fail
    refine (HWK.out W1).mono ?_
    rintro e W2 ⟨rfl, hb2⟩
    have HB2 := Lib.hid (HB.out W2 (HK1.out.step hb2))
    clear hb2
    go_wp2_with fail
    go_ret
    exact ⟨rfl, HB2.out⟩
  have hrI : decide ((3000 : Int) < (r : Int)) = false := decide_eq_false (by omega)
  have HCN := Lib.hid (show nd.es.count ≤ 3000 by
    have hw : weiN nd ≤ 3000 := by rw [← hr2 hr]; exact hr
    have h1 := wei_count nd.es; unfold weiN at hw; omega)
  clear hr hr1 hr2 hr3
  rcases Nat.lt_or_ge 3000 l.length with hl | hl
  · have hlI : decide ((3000 : Int) < (l.length : Int)) = true := decide_eq_true (by omega)
    clear hl
    go_wp2_with fail
    refine (HWK.out W1).mono ?_
    rintro e W2 ⟨rfl, hb2⟩
    have HB2 := Lib.hid (HB.out W2 (HK1.out.step hb2))
    clear hb2
    go_wp2_with fail
    go_ret
    exact ⟨rfl, HB2.out⟩
  have hlI : decide ((3000 : Int) < (l.length : Int)) = false := decide_eq_false (by omega)
  obtain ⟨hn0, hn1, hn2⟩ := HC.out W1 HK1.out
  have HP1 := Lib.hid (put_of nd (by have := HCN.out; omega) W1 _ ((HV.out W1 HK1.out).more (by have := HK1.out.2; have := HZ.out; omega)))
  go_wp2_with fail
  refine HP1.out.mono ?_
  rintro e W2 ⟨hb2, Aa, ca, rfl, hva⟩
  have HK2 := Lib.hid (HK1.out.step hb2)
  have HVA := Lib.hid hva
  have HGP := Lib.hid (show (putA nd).1 = 0 → getR (putA nd).2 = (0, nd) from fun h => (get_put (l := (putA nd).2) (by rw [← h])).1)
  clear hb2 hn0 hn1 hn2 hva
  generalize (putA nd).1 = ea at *
  generalize (putA nd).2 = la at *
  by_cases hea : ea = 0
  · have hez : ((ea : Int) == 0) = true := by rw [hea]; rfl
    have HGX := Lib.hid (get_ex la W2 _ HVA.out)
    rw [HGP.out hea] at HGX
    clear hea HGP
    go_wp2_with fail
    refine HGX.out.mono ?_
    rintro e W3 ⟨hb3, Am, cm, rfl, hvm⟩
    (try dsimp only at hvm)
    have HBM := Lib.hid (BoxAt.new hvm)
    obtain ⟨W4, e4⟩ : ∃ W4, W4 = W3.alloc (.cells #[.int .u8 (nd.k : Int), .string nd.d, .slice Am nd.es.len cm] 24) := ⟨_, rfl⟩
    have hb4 : Below W3.heap.size W3 W4 := by rw [e4]; exact (Below.refl _ _).alloc (Nat.le_refl _) _
    have HK4 := Lib.hid ((HK2.out.step hb3).step hb4)
    rw [← e4] at HBM
    have hz4 : W3.heap.size < W4.heap.size := block_lt HBM.out.1
    have HSM := Lib.hid (refSame_any _ nd nd (Nat.le_refl _) (by have := HCN.out; omega) W4 W4.heap.size (Nat.le_refl _) _ _ (HBM.out.2.more (by omega)) ((HV.out W4 HK4.out).more (by have := HK4.out.2; have := HZ.out; omega)))
    rw [sameN_refl] at HSM
    obtain ⟨hn0, hn1, hn2⟩ := HC.out W4 HK4.out
    obtain ⟨hm0, hm1, hm2, _⟩ := nd_box (k := nd.k) (d := nd.d) (v := .slice Am nd.es.len cm) HBM.out.1
    rw [e4] at hn0 hn1 hn2 hm0 hm1 hm2
    clear hb3 hvm hb4 hz4
    go_wp2_with fail
    rw [← e4]
    refine HSM.out.mono ?_
    rintro e W5 ⟨rfl, hb5⟩
    have HK5 := Lib.hid (HK4.out.step hb5)
    clear hb5 hn0 hn1 hn2 hm0 hm1 hm2 e4 HBM HK4 HSM HGX
    have HGB := Lib.hid (get_ex l W5 _ (HVB.out W5 HK5.out))
    have HPG := Lib.hid (show (getR l).1 = 0 → putA (getR l).2 = (0, l) ∧ (getR l).2.right = true from fun h => put_get (b := l) (nd := (getR l).2) (by rw [← h]))
    go_wp2_with fail
    refine HGB.out.mono ?_
    rintro e W6 ⟨hb6, Ax, cx, rfl, hvx⟩
    generalize (getR l).2 = x at *
    generalize (getR l).1 = ex at *
    have HBX := Lib.hid (BoxAt.new hvx)
    obtain ⟨W7, e7⟩ : ∃ W7, W7 = W6.alloc (.cells #[.int .u8 (x.k : Int), .string x.d, .slice Ax x.es.len cx] 24) := ⟨_, rfl⟩
    have hb7 : Below W6.heap.size W6 W7 := by rw [e7]; exact (Below.refl _ _).alloc (Nat.le_refl _) _
    have HK7 := Lib.hid ((HK5.out.step hb6).step hb7)
    rw [← e7] at HBX
    have hz7 : W6.heap.size < W7.heap.size := block_lt HBX.out.1
    by_cases hex : ex = 0
    rotate_left
    · have hxz : ((ex : Int) != 0) = true := bne_iff_ne.2 (by omega)
      clear hex HPG hb6 hvx hb7 hz7
      go_wp2_with fail
      rw [← e7]
      refine (HWK.out W7).mono ?_
      rintro e W8 ⟨rfl, hb8⟩
      have HB8 := Lib.hid (HB.out W8 (HK7.out.step hb8))
      clear hb8 e7
      go_wp2_with fail
      go_ret
      exact ⟨rfl, HB8.out⟩
    have hxz : ((ex : Int) != 0) = false := by rw [hex]; rfl
    obtain ⟨hpx, hrx⟩ := HPG.out hex
    have HRX := Lib.hid hrx
    have HPX := Lib.hid (put_of x (by have := right_count hrx; omega) W7 _ (HBX.out.2.more (by omega)))
    rw [hpx] at HPX
    obtain ⟨hm0, hm1, hm2, _⟩ := nd_box (k := x.k) (d := x.d) (v := .slice Ax x.es.len cx) HBX.out.1
    rw [e7] at hm0 hm1 hm2
    have HZ7 := Lib.hid hz7
    clear hex HPG hb6 hvx hb7 hz7 hpx hrx
    go_wp2_with fail
    rw [← e7]
    refine HPX.out.mono ?_
    rintro e W8 ⟨hb8, Ac, cc, rfl, hvc⟩
    (try dsimp only at hvc)
    have HK8 := Lib.hid (HK7.out.step hb8)
    have HBX8 := Lib.hid (HBX.out.keep hb8)
    have hcc := hvc.conv
    have hcb2 := (HVB.out W8 HK8.out).conv
    have HZ8 := Lib.hid (show W6.heap.size < W8.heap.size by have := hb8.size; have := HZ7.out; omega)
    have HRC := Lib.hid (refRight_any W8 W8.heap.size (Nat.le_refl _) _ x (HBX8.out.2.more (by have := HZ8.out; omega)) (by have := right_count HRX.out; omega))
    rw [HRX.out] at HRC
    clear hm0 hm1 hm2 e7 hb8 hvc HPX
    obtain ⟨hm0, hm1, hm2, _⟩ := nd_box (k := x.k) (d := x.d) (v := .slice Ax x.es.len cx) HBX8.out.1
    generalize strOf l = tl at *
    have htt : (tl.toList == tl.toList) = true := beq_self_eq_true _
    go_wp2_with fail
    refine HRC.out.mono ?_
    rintro e W9 ⟨rfl, hb9⟩
    have HK9 := Lib.hid (HK8.out.step hb9)
    clear hb9 hm0 hm1 hm2 hcc hcb2 HRC
    go_wp2_with fail
    refine (HWK.out W9).mono ?_
    rintro e W10 ⟨rfl, hb10⟩
    have HB10 := Lib.hid (HB.out W10 (HK9.out.step hb10))
    clear hb10
    go_wp2_with fail
    go_ret
    exact ⟨rfl, HB10.out⟩
  · have hez : ((ea : Int) == 0) = false := beq_eq_false_iff_ne.2 (by omega)
    have HK5 := Lib.hid HK2.out
    clear hea HGP
    have HGB := Lib.hid (get_ex l W2 _ (HVB.out W2 HK5.out))
    have HPG := Lib.hid (show (getR l).1 = 0 → putA (getR l).2 = (0, l) ∧ (getR l).2.right = true from fun h => put_get (b := l) (nd := (getR l).2) (by rw [← h]))
    go_wp2_with fail
    refine HGB.out.mono ?_
    rintro e W6 ⟨hb6, Ax, cx, rfl, hvx⟩
    generalize (getR l).2 = x at *
    generalize (getR l).1 = ex at *
    have HBX := Lib.hid (BoxAt.new hvx)
    obtain ⟨W7, e7⟩ : ∃ W7, W7 = W6.alloc (.cells #[.int .u8 (x.k : Int), .string x.d, .slice Ax x.es.len cx] 24) := ⟨_, rfl⟩
    have hb7 : Below W6.heap.size W6 W7 := by rw [e7]; exact (Below.refl _ _).alloc (Nat.le_refl _) _
    have HK7 := Lib.hid ((HK5.out.step hb6).step hb7)
    rw [← e7] at HBX
    have hz7 : W6.heap.size < W7.heap.size := block_lt HBX.out.1
    by_cases hex : ex = 0
    rotate_left
    · have hxz : ((ex : Int) != 0) = true := bne_iff_ne.2 (by omega)
      clear hex HPG hb6 hvx hb7 hz7
      go_wp2_with fail
      rw [← e7]
      refine (HWK.out W7).mono ?_
      rintro e W8 ⟨rfl, hb8⟩
      have HB8 := Lib.hid (HB.out W8 (HK7.out.step hb8))
      clear hb8 e7
      go_wp2_with fail
      go_ret
      exact ⟨rfl, HB8.out⟩
    have hxz : ((ex : Int) != 0) = false := by rw [hex]; rfl
    obtain ⟨hpx, hrx⟩ := HPG.out hex
    have HRX := Lib.hid hrx
    have HPX := Lib.hid (put_of x (by have := right_count hrx; omega) W7 _ (HBX.out.2.more (by omega)))
    rw [hpx] at HPX
    obtain ⟨hm0, hm1, hm2, _⟩ := nd_box (k := x.k) (d := x.d) (v := .slice Ax x.es.len cx) HBX.out.1
    rw [e7] at hm0 hm1 hm2
    have HZ7 := Lib.hid hz7
    clear hex HPG hb6 hvx hb7 hz7 hpx hrx
    go_wp2_with fail
    rw [← e7]
    refine HPX.out.mono ?_
    rintro e W8 ⟨hb8, Ac, cc, rfl, hvc⟩
    (try dsimp only at hvc)
    have HK8 := Lib.hid (HK7.out.step hb8)
    have HBX8 := Lib.hid (HBX.out.keep hb8)
    have hcc := hvc.conv
    have hcb2 := (HVB.out W8 HK8.out).conv
    have HZ8 := Lib.hid (show W6.heap.size < W8.heap.size by have := hb8.size; have := HZ7.out; omega)
    have HRC := Lib.hid (refRight_any W8 W8.heap.size (Nat.le_refl _) _ x (HBX8.out.2.more (by have := HZ8.out; omega)) (by have := right_count HRX.out; omega))
    rw [HRX.out] at HRC
    clear hm0 hm1 hm2 e7 hb8 hvc HPX
    obtain ⟨hm0, hm1, hm2, _⟩ := nd_box (k := x.k) (d := x.d) (v := .slice Ax x.es.len cx) HBX8.out.1
    generalize strOf l = tl at *
    have htt : (tl.toList == tl.toList) = true := beq_self_eq_true _
    go_wp2_with fail
    refine HRC.out.mono ?_
    rintro e W9 ⟨rfl, hb9⟩
    have HK9 := Lib.hid (HK8.out.step hb9)
    clear hb9 hm0 hm1 hm2 hcc hcb2 HRC
    go_wp2_with fail
    refine (HWK.out W9).mono ?_
    rintro e W10 ⟨rfl, hb10⟩
    have HB10 := Lib.hid (HB.out W10 (HK9.out.step hb10))
    clear hb10
    go_wp2_with fail
    go_ret
    exact ⟨rfl, HB10.out⟩
end Go.Proofs.Ytcleebigfbbdbaa
