/- The walk of the law FilesSame. -/
import Derived.Test.YtmcafiihicanfaaDoorFilSd
import Derived.Test.YtmcafiihicanfaaDoorFilSe
import Derived.Deep.RegionHeld3
set_option linter.unusedVariables false
set_option linter.unusedSimpArgs false
namespace Go.Proofs.YtmcafiihicanfaaDoor
open Go Go.RowKit Go.BigFrame
open Fil (Es Nd Sp)

set_option maxRecDepth 1000000 in
set_option maxRecDepth 100000 in
set_option maxHeartbeats 4000000 in
theorem filesSame_walk (va : Value) (a : Nd) (vb : Value) (b : Nd) (w : World) (_ : True) (hva : NdV w w.heap.size va a) (hvb : NdV w w.heap.size vb b) : Calls Tryd.prog 5 #[va, vb] w fun e w' => e = .returned (.bool true) ∧ Below w.heap.size w w' := by
  obtain ⟨ea, rfl, hea, hda, hka⟩ := hva
  obtain ⟨A, ca, rfl, hla, hma⟩ := hea.form
  obtain ⟨eb, rfl, heb, hdb, hkb⟩ := hvb
  obtain ⟨A', cb, rfl, hlb, hmb⟩ := heb.form
  have HWK := Lib.hid works_any
  go_enter Tryd.func5, Tryd.ntmps5
  obtain ⟨w1, e1, hg0, hg1, hb1, hz1⟩ := rows2 w (.cells #[.int .u8 (a.k : Int), .string a.d, .slice A a.es.len ca] 26) (.cells #[.int .u8 (b.k : Int), .string b.d, .slice A' b.es.len cb] 26)
  go_upto_region 1 with (fail)
  rw [← e1]
  clear e1
  have HVA := Lib.hid (fun (w' : World) (h : KeepW w1 w1.heap.size w') => show NdV w' w.heap.size (.agg #[.int .u8 (a.k : Int), .string a.d, .slice A a.es.len ca]) a from ⟨_, rfl, hea.keep (below_step hb1 h.1 (by omega)), hda, hka⟩)
  have HVB := Lib.hid (fun (w' : World) (h : KeepW w1 w1.heap.size w') => show NdV w' w.heap.size (.agg #[.int .u8 (b.k : Int), .string b.d, .slice A' b.es.len cb]) b from ⟨_, rfl, heb.keep (below_step hb1 h.1 (by omega)), hdb, hkb⟩)
  have HC := Lib.hid (fun (w' : World) (h : KeepW w1 w1.heap.size w') => show (w'.cell? ⟨w.heap.size, 0, none⟩ = some (.int .u8 (a.k : Int)) ∧ w'.cell? ⟨w.heap.size, 1, none⟩ = some (.string a.d) ∧ w'.cell? ⟨w.heap.size, 2, none⟩ = some (.slice A a.es.len ca)) ∧ w'.cell? ⟨w.heap.size + 1, 0, none⟩ = some (.int .u8 (b.k : Int)) ∧ w'.cell? ⟨w.heap.size + 1, 1, none⟩ = some (.string b.d) ∧ w'.cell? ⟨w.heap.size + 1, 2, none⟩ = some (.slice A' b.es.len cb) from by
    have h1 := nd_box (W := w') (k := a.k) (d := a.d) (v := .slice A a.es.len ca) ((h.1.block w.heap.size (by omega)).trans hg0)
    have h2 := nd_box (W := w') (k := b.k) (d := b.d) (v := .slice A' b.es.len cb) ((h.1.block (w.heap.size + 1) (by omega)).trans hg1)
    exact ⟨⟨h1.1, h1.2.1, h1.2.2.1⟩, h2.1, h2.2.1, h2.2.2.1⟩)
  have HB := Lib.hid (fun (w' : World) (h : KeepW w1 w1.heap.size w') => below_step hb1 h.1 (by omega))
  have HK0 := Lib.hid (KeepW.start (Nat.le_refl w1.heap.size))
  have HZ := Lib.hid hz1
  have HWA := Lib.hid (wei_calls 2000 (by decide) a w1 w.heap.size (by omega) _ (HVA.out w1 HK0.out))
  have HWB := Lib.hid (fun (w' : World) (h : KeepW w1 w1.heap.size w') => wei_calls 2000 (by decide) b w' w.heap.size (by have := h.2; have := HZ.out; omega) _ (HVB.out w' h))
  obtain ⟨⟨hn0, hn1, hn2⟩, _⟩ := HC.out w1 HK0.out
  clear hg0 hg1 hb1 hz1 hea heb
  go_wp2_with fail
  refine HWA.out.mono ?_
  rintro e W1 ⟨hb1, r, rfl, hr1, hr2, hr3⟩
  have HK1 := Lib.hid (HK0.out.step hb1)
  clear hb1 hn0 hn1 hn2
  rcases Nat.lt_or_ge 2000 r with hr | hr
  · have hrI : decide ((2000 : Int) < (r : Int)) = true := decide_eq_true (by omega)
    clear hr hr1 hr2 hr3
    go_wp2_with fail
    refine (HWK.out W1).mono ?_
    rintro e W2 ⟨rfl, hb2⟩
    have HB2 := Lib.hid (HB.out W2 (HK1.out.step hb2))
    clear hb2
    go_wp2_with fail
    go_ret
    exact ⟨rfl, HB2.out⟩
  have hrI : decide ((2000 : Int) < (r : Int)) = false := decide_eq_false (by omega)
  have hwa : weiN a ≤ 2000 := by rw [← hr2 hr]; exact hr
  have hca : a.es.count ≤ 2000 := by have h1 := wei_count a.es; unfold weiN at hwa; omega
  clear hr hr1 hr2 hr3 hwa
  obtain ⟨_, hm0, hm1, hm2⟩ := HC.out W1 HK1.out
  go_wp2_with fail
  refine (HWB.out W1 HK1.out).mono ?_
  rintro e W2 ⟨hb2, q, rfl, hq1, hq2, hq3⟩
  have HK2 := Lib.hid (HK1.out.step hb2)
  clear hb2 hm0 hm1 hm2
  rcases Nat.lt_or_ge 2000 q with hq | hq
  · have hqI : decide ((2000 : Int) < (q : Int)) = true := decide_eq_true (by omega)
    clear hq hq1 hq2 hq3 hca
    go_wp2_with fail
    refine (HWK.out W2).mono ?_
    rintro e W3 ⟨rfl, hb3⟩
    have HB3 := Lib.hid (HB.out W3 (HK2.out.step hb3))
    clear hb3
    go_wp2_with fail
    go_ret
    exact ⟨rfl, HB3.out⟩
  have hqI : decide ((2000 : Int) < (q : Int)) = false := decide_eq_false (by omega)
  have hwb : weiN b ≤ 2000 := by rw [← hq2 hq]; exact hq
  have hcb : b.es.count ≤ 2000 := by have h1 := wei_count b.es; unfold weiN at hwb; omega
  clear hq hq1 hq2 hq3 hwb
  have HCT := Lib.hid (And.intro hca hcb)
  clear hca hcb
  have HSAB := Lib.hid (fun (w' : World) (h : KeepW w1 w1.heap.size w') (x y : Nd) (vx vy : Value) (hx : NdV w' w.heap.size vx x) (hy : NdV w' w.heap.size vy y) (hc : x.es.count ≤ 2000) => h.calls (same_any x y (by omega) w' w.heap.size (by have := h.2; have := HZ.out; omega) vx vy hx hy))
  have HREF := Lib.hid (fun (w' : World) (h : KeepW w1 w1.heap.size w') => h.calls (refSame_any _ a b (Nat.le_refl _) (by have := HCT.out.1; omega) w' w.heap.size (by have := h.2; have := HZ.out; omega) _ _ (HVA.out w' h) (HVB.out w' h)))
  have HWKK := Lib.hid (fun (w' : World) (h : KeepW w1 w1.heap.size w') => h.calls (works_any w'))
  have haa : sameN a a = true := sameN_refl a
  have hbb : sameN b b = true := sameN_refl b
  have habx : (sameN a b == sameN a b) = true := by simp
  go_wp2
  go_region_held3 (fun w' => ((w'.cell? ⟨w.heap.size, 0, none⟩ = some (.int .u8 (a.k : Int)) ∧ w'.cell? ⟨w.heap.size, 1, none⟩ = some (.string a.d) ∧ w'.cell? ⟨w.heap.size, 2, none⟩ = some (.slice A a.es.len ca)) ∧ w'.cell? ⟨w.heap.size + 1, 0, none⟩ = some (.int .u8 (b.k : Int)) ∧ w'.cell? ⟨w.heap.size + 1, 1, none⟩ = some (.string b.d) ∧ w'.cell? ⟨w.heap.size + 1, 2, none⟩ = some (.slice A' b.es.len cb))) (first | exact HC.out _ (by first | assumption | exact KeepW.drew HK2.out | exact KeepW.drew (by assumption)) | go_keep) (first
    | (go_at_call 22; refine (HSAB.out _ (by first | assumption | exact KeepW.drew HK2.out) _ _ _ _ (by first | exact HVA.out _ (by first | assumption | exact KeepW.drew HK2.out) | exact HVB.out _ (by first | assumption | exact KeepW.drew HK2.out)) (by first | exact HVA.out _ (by first | assumption | exact KeepW.drew HK2.out) | exact HVB.out _ (by first | assumption | exact KeepW.drew HK2.out)) (by first | exact HCT.out.1 | exact HCT.out.2)).mono ?_; rintro e W3 ⟨rfl, hk3⟩)
    | (go_at_call 23; refine (HREF.out _ (by first | assumption | exact KeepW.drew HK2.out)).mono ?_; rintro e W3 ⟨rfl, hk3⟩)
    | (go_at_call 12; refine (HWKK.out _ (by first | assumption | exact KeepW.drew HK2.out)).mono ?_; rintro e W3 ⟨rfl, hk3⟩))
  all_goals
    have HBF := Lib.hid (HB.out _ hk3)
    go_wp2_with fail
    go_ret
    exact ⟨rfl, HBF.out⟩
end Go.Proofs.YtmcafiihicanfaaDoor
