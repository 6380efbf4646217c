/- archive: bytes in memory; the reference's Len, Put. -/
import Derived.Test.YtcleebigfbbdbaaArcC
set_option linter.unusedVariables false
set_option linter.unusedSimpArgs false
namespace Go.Proofs.Ytcleebigfbbdbaa
open Go Go.RowKit Go.BigFrame
open Fil (Es Nd Sp)
open Arc (BL num4 num2 encT letK encE encN sizE sizN)

def dOf (l : BL) (i : Nat) : Nat := (l.getD i 0).toNat
theorem dOf_lt (l : BL) (i : Nat) : dOf l i < 256 := (l.getD i 0).toNat_lt
theorem txt_dOf (l : BL) : txt (dOf l) l.length = l := by
  apply List.ext_getElem
  · rw [txt_len]
  · intro i h1 h2
    simp [txt, dOf, h2]
/-- A slice that holds bytes. -/
def BytAt (W : World) (B : Nat) (v : Value) (l : BL) : Prop :=
  ∃ A cap, v = .slice A l.length cap ∧ l.length ≤ cap ∧ cap ≤ maxLen ∧ (A = none → cap = 0) ∧ Holds W B A l.length (dOf l)
theorem BytAt.keep {W W' : World} {B : Nat} {v : Value} {l : BL} (h : BytAt W B v l) (hb : Below B W W') : BytAt W' B v l := by
  obtain ⟨A, cap, h1, h2, h3, h4, h5⟩ := h
  exact ⟨A, cap, h1, h2, h3, h4, h5.below hb⟩
theorem BytAt.more {W : World} {B B' : Nat} {v : Value} {l : BL} (h : BytAt W B v l) (hb : B ≤ B') : BytAt W B' v l := by
  obtain ⟨A, cap, h1, h2, h3, h4, h5⟩ := h
  exact ⟨A, cap, h1, h2, h3, h4, h5.more hb⟩
theorem BytAt.nil (W : World) (B : Nat) : BytAt W B (.slice none 0 0) [] := ⟨none, 0, rfl, Nat.le_refl _, Nat.zero_le _, fun _ => rfl, fun h => absurd h (Nat.lt_irrefl 0)⟩
theorem BytAt.form {W : World} {B : Nat} {v : Value} {l : BL} (h : BytAt W B v l) : ∃ A cap, v = .slice A l.length cap ∧ l.length ≤ cap := by
  obtain ⟨A, cap, h1, h2, _⟩ := h
  exact ⟨A, cap, h1, h2⟩
theorem BytAt.conv {W : World} {B : Nat} {v : Value} {l : BL} (h : BytAt W B v l) : (convert 27 9 v).run Try.prog W = .ok (.string (strOf l)) W := by
  obtain ⟨A, cap, rfl, h2, h3, h4, h5⟩ := h
  have := convert_holds (P := Try.prog) (src := 27) (dst := 9) (dOf_lt l) h5 h4 h2 Try.underlying27 Try.underlying5 Try.underlying9
  rw [txt_dOf] at this
  exact this
theorem BytAt.own {W : World} {base : Nat} {v : Value} {l : BL} (h : W.ownsRow base 5 1 v l.length (valB l)) : BytAt W W.heap.size v l := by
  rcases h.2 with ⟨rfl, h0⟩ | ⟨g, cap, cur, rfl, hg, hgg, hnc, hcm, hcs, htk⟩
  · have : l = [] := List.eq_nil_of_length_eq_zero h0
    subst this
    exact BytAt.nil _ _
  · refine ⟨_, cap, rfl, hnc, hcm, (fun e => by cases e), fun _ => ⟨_, rfl, block_lt hgg, fun j hj => ?_⟩⟩
    have := h.cells (g := g) rfl j (.int .u8 ((l[j]).toNat : Int)) (by simp [valB, List.getElem?_eq_getElem hj])
    rw [this]
    simp [dOf, hj]
theorem bytes_conv (W : World) (l : BL) (hn : l.length ≤ maxLen) : ∃ A cap w2, (convert 9 27 (.string (strOf l))).run Try.prog W = .ok (.slice A l.length cap) w2 ∧ Below W.heap.size W w2 ∧ BytAt w2 w2.heap.size (.slice A l.length cap) l := by
  obtain ⟨cap, w2, h1, h2, h3, h4, h5, _⟩ := bytes_of_txt (P := Try.prog) W 5 9 27 (dOf l) l.length (dOf_lt l) hn Try.underlying9 Try.underlying27 Try.underlying5
  rw [txt_dOf] at h3
  exact ⟨_, cap, w2, h3, h4, _, cap, rfl, h1, h2, (fun e => by cases e), h5⟩
/-- What Put answers. -/
def putA (nd : Nd) : Nat × BL := if nd.right then (if 1048576 < 4 + sizN nd then (3, []) else (0, 84 :: 65 :: 82 :: 49 :: encN nd)) else (70, [])
def APost (w : World) (r : Nat × BL) (e : Ending) (W : World) : Prop :=
  Below w.heap.size w W ∧ ∃ v, e = .returned (.tuple #[v, .int .i64 (r.1 : Int)]) ∧ BytAt W W.heap.size v r.2
set_option maxRecDepth 1000000 in
set_option maxRecDepth 100000 in
set_option maxHeartbeats 4000000 in
theorem refLen_any (nd : Nd) (hN : nd.es.count ≤ 1000000) (w : World) (B : Nat) (hB : B ≤ w.heap.size) (v : Value) (hv : NdV w B v nd) : Calls Try.prog 13 #[v] w fun e W => e = .returned (.int .i64 (lenR nd : Int)) ∧ Below w.heap.size w W := by
  obtain ⟨ev, rfl, hes, hd, hk⟩ := hv
  obtain ⟨A, c, rfl, hlc, hcm⟩ := hes.form
  go_enter Try.func13, Try.ntmps13
  obtain ⟨w1, e1, hg1, hb1, hz1⟩ : ∃ w1, w1 = w.alloc (.cells #[.int .u8 (nd.k : Int), .string nd.d, .slice A nd.es.len c] 24) ∧ w1.heap[w.heap.size]? = some (.cells #[.int .u8 (nd.k : Int), .string nd.d, .slice A nd.es.len c] 24 (0, 0)) ∧ Below w.heap.size w w1 ∧ w1.heap.size = w.heap.size + 1 := ⟨_, rfl, heap_alloc_new _ _, (Below.refl _ _).alloc (Nat.le_refl _) _, by simp⟩
  go_upto_region 1 with (fail)
  rw [← e1]
  clear e1
  have HV := Lib.hid (fun (w' : World) (h : KeepW w1 w1.heap.size w') => show NdV w' B (.agg #[.int .u8 (nd.k : Int), .string nd.d, .slice A nd.es.len c]) nd from ⟨_, rfl, hes.keep ((below_step hb1 h.1 (by omega)).mono hB), hd, hk⟩)
  have HC := Lib.hid (fun (w' : World) (h : KeepW w1 w1.heap.size w') => nd_box (W := w') (k := nd.k) (d := nd.d) (v := .slice A nd.es.len c) ((h.1.block w.heap.size (by omega)).trans hg1))
  have HB := Lib.hid (fun (w' : World) (h : KeepW w1 w1.heap.size w') => below_step hb1 h.1 (by omega))
  have HK0 := Lib.hid (KeepW.start (Nat.le_refl w1.heap.size))
  have HZ := Lib.hid hz1
  have HRT := Lib.hid (refRight_any w1 B (by omega) _ nd (HV.out w1 HK0.out) hN)
  obtain ⟨hn0, hn1, hn2, _⟩ := HC.out w1 HK0.out
  clear hg1 hb1 hz1 hes
  cases hr : nd.right with
  | false =>
    have HQ := Lib.hid (show lenR nd = 0 by unfold lenR; rw [hr]; rfl)
    rw [hr] at HRT
    go_wp2_with fail
    refine HRT.out.mono ?_
    rintro e W1 ⟨rfl, hb1⟩
    have HBF := Lib.hid (HB.out W1 (HK0.out.step hb1))
    clear hb1 hn0 hn1 hn2
    go_wp2
    go_ret
    exact ⟨by rw [HQ.out]; rfl, HBF.out⟩
  | true =>
    have HQ := Lib.hid (show lenR nd = 4 + sizN nd by unfold lenR; rw [hr]; rfl)
    have HSZ := Lib.hid (Arc.sizN_le hr)
    have hw : IntKind.i64.wrap ((4 : Int) + (sizN nd : Int)) = (4 : Int) + (sizN nd : Int) := IntWalk.i64_in _ (by have := HSZ.out; omega)
    rw [hr] at HRT
    go_wp2_with fail
    refine HRT.out.mono ?_
    rintro e W1 ⟨rfl, hb1⟩
    have HK1 := Lib.hid (HK0.out.step hb1)
    clear hb1 hn0 hn1 hn2
    obtain ⟨hn0, hn1, hn2, _⟩ := HC.out W1 HK1.out
    go_wp2_with fail
    refine (refSiz_any _ nd (Nat.le_refl _) (by have := HSZ.out; omega) W1 B (by have := HK1.out.2; have := HZ.out; omega) _ (HV.out W1 HK1.out)).mono ?_
    rintro e W2 ⟨rfl, hb2⟩
    have HBF := Lib.hid (HB.out W2 (HK1.out.step hb2))
    clear hb2 hn0 hn1 hn2
    go_wp2
    go_ret
    exact ⟨by rw [HQ.out]; simp, HBF.out⟩
set_option maxRecDepth 1000000 in
set_option maxRecDepth 100000 in
set_option maxHeartbeats 4000000 in
theorem refPut_any (nd : Nd) (hN : nd.es.count ≤ 1000000) (w : World) (B : Nat) (hB : B ≤ w.heap.size) (v : Value) (hv : NdV w B v nd) : Calls Try.prog 11 #[v] w (APost w (putA nd)) := by
  obtain ⟨ev, rfl, hes, hd, hk⟩ := hv
  obtain ⟨A, c, rfl, hlc, hcm⟩ := hes.form
  go_enter Try.func11, Try.ntmps11
  obtain ⟨w1, e1, hg1, hb1, hz1⟩ : ∃ w1, w1 = w.alloc (.cells #[.int .u8 (nd.k : Int), .string nd.d, .slice A nd.es.len c] 24) ∧ w1.heap[w.heap.size]? = some (.cells #[.int .u8 (nd.k : Int), .string nd.d, .slice A nd.es.len c] 24 (0, 0)) ∧ Below w.heap.size w w1 ∧ w1.heap.size = w.heap.size + 1 := ⟨_, rfl, heap_alloc_new _ _, (Below.refl _ _).alloc (Nat.le_refl _) _, by simp⟩
  go_upto_region 1 with (fail)
  rw [← e1]
  clear e1
  have HV := Lib.hid (fun (w' : World) (h : KeepW w1 w1.heap.size w') => show NdV w' B (.agg #[.int .u8 (nd.k : Int), .string nd.d, .slice A nd.es.len c]) nd from ⟨_, rfl, hes.keep ((below_step hb1 h.1 (by omega)).mono hB), hd, hk⟩)
  have HC := Lib.hid (fun (w' : World) (h : KeepW w1 w1.heap.size w') => nd_box (W := w') (k := nd.k) (d := nd.d) (v := .slice A nd.es.len c) ((h.1.block w.heap.size (by omega)).trans hg1))
  have HB := Lib.hid (fun (w' : World) (h : KeepW w1 w1.heap.size w') => below_step hb1 h.1 (by omega))
  have HK0 := Lib.hid (KeepW.start (Nat.le_refl w1.heap.size))
  have HZ := Lib.hid hz1
  have HRT := Lib.hid (refRight_any w1 B (by omega) _ nd (HV.out w1 HK0.out) hN)
  obtain ⟨hn0, hn1, hn2, _⟩ := HC.out w1 HK0.out
  clear hg1 hb1 hz1 hes
  cases hr : nd.right with
  | false =>
    have HQ := Lib.hid (show putA nd = (70, []) by unfold putA; rw [hr]; rfl)
    rw [hr] at HRT
    go_wp2_with fail
    refine HRT.out.mono ?_
    rintro e W1 ⟨rfl, hb1⟩
    have HBF := Lib.hid (HB.out W1 (HK0.out.step hb1))
    clear hb1 hn0 hn1 hn2
    go_wp2
    go_ret2
    refine ⟨HBF.out, .slice none 0 0, ?_, ?_⟩
    · rw [HQ.out]; rfl
    · rw [HQ.out]; exact BytAt.nil _ _
  | true =>
    have HSZ := Lib.hid (Arc.sizN_le hr)
    have HMY := Lib.hid (show nd.may = true by
      unfold Fil.Nd.right at hr
      simp only [Bool.and_eq_true] at hr
      exact hr.2)
    rw [hr] at HRT
    have HLE := Lib.hid (fun (w' : World) (h : KeepW w1 w1.heap.size w') => h.calls (refLen_any nd hN w' B (by have := h.2; have := HZ.out; omega) _ (HV.out w' h)))
    have hlr : lenR nd = 4 + sizN nd := by unfold lenR; rw [hr]; rfl
    rw [hlr] at HLE
    have HPA := Lib.hid (show putA nd = if 1048576 < 4 + sizN nd then (3, []) else (0, 84 :: 65 :: 82 :: 49 :: encN nd) by unfold putA; rw [hr]; rfl)
    clear hlr
    go_wp2_with fail
    refine HRT.out.mono ?_
    rintro e W1 ⟨rfl, hb1⟩
    have HK1 := Lib.hid (HK0.out.step hb1)
    clear hb1 hn0 hn1 hn2
    obtain ⟨hn0, hn1, hn2, _⟩ := HC.out W1 HK1.out
    go_wp2_with fail
    refine (HLE.out W1 HK1.out).mono ?_
    rintro e W2 ⟨rfl, hk2⟩
    have HK2 := Lib.hid hk2
    clear hk2 hn0 hn1 hn2
    rcases Nat.lt_or_ge 1048576 (4 + sizN nd) with hbg | hbg
    · have hbI : decide ((1048576 : Int) < (((4 + sizN nd : Nat)) : Int)) = true := decide_eq_true (by omega)
      have hbI2 : (1048576 : Int) < 4 + (sizN nd : Int) := by omega
      have HQ := Lib.hid (show putA nd = (3, []) by rw [HPA.out, if_pos hbg])
      clear hbg
      go_wp2
      go_ret2
      refine ⟨HB.out _ HK2.out, .slice none 0 0, ?_, ?_⟩
      · rw [HQ.out]; rfl
      · rw [HQ.out]; exact BytAt.nil _ _
    · have hbI : decide ((1048576 : Int) < (((4 + sizN nd : Nat)) : Int)) = false := decide_eq_false (by omega)
      have hbI2 : ¬ (1048576 : Int) < 4 + (sizN nd : Int) := by omega
      have HQ := Lib.hid (show putA nd = (0, 84 :: 65 :: 82 :: 49 :: encN nd) by rw [HPA.out, if_neg (by omega)])
      have HND := Lib.hid (refNode_any _ nd (Nat.le_refl _) HMY.out hN (by have := HSZ.out; omega) W2 B (by have := HK2.out.2; have := HZ.out; omega) _ (HV.out W2 HK2.out))
      have hzs : ¬ 9223372036854775807 < 4 + (strOf (encN nd)).size := by rw [strOf_size, Arc.encN_len]; omega
      have hlen : (84 :: 65 :: 82 :: 49 :: encN nd).length ≤ maxLen := by simp only [List.length_cons, Arc.encN_len]; unfold maxLen; omega
      have HJ := Lib.hid (show (⟨#[84, 65, 82, 49]⟩ : ByteArray) ++ strOf (encN nd) = strOf (84 :: 65 :: 82 :: 49 :: encN nd) by apply str_ext; simp [strOf, ByteArray.data_append])
      obtain ⟨hn0, hn1, hn2, _⟩ := HC.out W2 HK2.out
      clear hbg
      generalize hte : strOf (encN nd) = tE at *
      clear hte
      go_wp2_with fail
      refine HND.out.mono ?_
      rintro e W3 ⟨rfl, hb3⟩
      have HK3 := Lib.hid (HK2.out.step hb3)
      clear hb3 hn0 hn1 hn2
      obtain ⟨A5, cap5, w5, hcv, hb5, hbt⟩ := bytes_conv W3 (84 :: 65 :: 82 :: 49 :: encN nd) hlen
      rw [← HJ.out] at hcv
      have HF := Lib.hid (And.intro (HK3.out.step hb5) hbt)
      clear hb5 hbt hlen
      go_wp2
      go_ret2
      refine ⟨HB.out _ HF.out.1, .slice A5 (84 :: 65 :: 82 :: 49 :: encN nd).length cap5, ?_, ?_⟩
      · rw [HQ.out]; rfl
      · rw [HQ.out]; exact HF.out.2
end Go.Proofs.Ytcleebigfbbdbaa
