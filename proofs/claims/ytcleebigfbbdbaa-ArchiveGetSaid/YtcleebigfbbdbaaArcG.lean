/- archive: Put. -/
import Derived.Test.YtcleebigfbbdbaaArcF
import Derived.Laws.EntriesVeiled
set_option linter.unusedVariables false
set_option linter.unusedSimpArgs false
namespace Go.Proofs.Ytcleebigfbbdbaa
open Go Go.RowKit Go.BigFrame
open Fil (Es Nd Sp)
open Arc (BL num4 num2 encT letK encE encN sizE sizN)

def magicL : BL := [84, 65, 82, 49]
set_option maxRecDepth 1000000 in
set_option maxRecDepth 100000 in
set_option maxHeartbeats 8000000 in
theorem putArc_any (nd : Nd) (hN : nd.es.count ≤ 1000000) (w : World) (B : Nat) (hB : B ≤ w.heap.size) (v : Value) (hv : NdV w B v nd) : Calls Try.prog 10 #[v] w (APost w (putA nd)) := by
  obtain ⟨ev, rfl, hes, hd, hk⟩ := hv
  obtain ⟨A, c, rfl, hlc, hcm⟩ := hes.form
  obtain ⟨i0, hi, hz0, hz1, hz2⟩ := info_parts infoU8e
  have hz4 : i0.size = 1 := hz1
  go_enter Try.func10, Try.ntmps10
  obtain ⟨w1, e1, hg1, hb1, hz1⟩ : ∃ w1, w1 = w.alloc (.cells #[.int .u8 (nd.k : Int), .string nd.d, .slice A nd.es.len c] 24) ∧ w1.heap[w.heap.size]? = some (.cells #[.int .u8 (nd.k : Int), .string nd.d, .slice A nd.es.len c] 24 (0, 0)) ∧ Below w.heap.size w w1 ∧ w1.heap.size = w.heap.size + 1 := ⟨_, rfl, heap_alloc_new _ _, (Below.refl _ _).alloc (Nat.le_refl _) _, by simp⟩
  go_upto_region 1 with (fail)
  rw [← e1]
  clear e1
  have HV := Lib.hid (fun (w' : World) (h : KeepW w1 w1.heap.size w') => show NdV w' B (.agg #[.int .u8 (nd.k : Int), .string nd.d, .slice A nd.es.len c]) nd from ⟨_, rfl, hes.keep ((below_step hb1 h.1 (by omega)).mono hB), hd, hk⟩)
  have HC := Lib.hid (fun (w' : World) (h : KeepW w1 w1.heap.size w') => nd_box (W := w') (k := nd.k) (d := nd.d) (v := .slice A nd.es.len c) ((h.1.block w.heap.size (by omega)).trans hg1))
  have HB := Lib.hid (fun (w' : World) (h : KeepW w1 w1.heap.size w') => below_step hb1 h.1 (by omega))
  have HK0 := Lib.hid (KeepW.start (Nat.le_refl w1.heap.size))
  have HZ := Lib.hid hz1
  have HRT := Lib.hid (right_calls _ nd w1 ((HV.out w1 HK0.out).more (by omega)) (by omega))
  obtain ⟨hn0, hn1, hn2, _⟩ := HC.out w1 HK0.out
  clear hg1 hb1 hz1 hes
  cases hr : nd.right with
  | false =>
    have HQ := Lib.hid (show putA nd = (70, []) by unfold putA; rw [hr]; rfl)
    rw [hr] at HRT
    go_wp2_with fail
    refine HRT.out.mono ?_
    rintro e W1 ⟨rfl, hb1⟩
    have HBF := Lib.hid (HB.out W1 (HK0.out.step hb1))
    clear hb1 hn0 hn1 hn2
    go_wp2
    go_ret2
    refine ⟨HBF.out, .slice none 0 0, ?_, ?_⟩
    · rw [HQ.out]; rfl
    · rw [HQ.out]; exact BytAt.nil _ _
  | true =>
    have HSZ := Lib.hid (Arc.sizN_le hr)
    have HMY := Lib.hid (show nd.may = true by
      unfold Fil.Nd.right at hr
      simp only [Bool.and_eq_true] at hr
      exact hr.2)
    rw [hr] at HRT
    have HLE := Lib.hid (fun (w' : World) (h : KeepW w1 w1.heap.size w') => h.calls (length_any nd (by have := HSZ.out; omega) w' B (by have := h.2; have := HZ.out; omega) _ (HV.out w' h)))
    have HPA := Lib.hid (show putA nd = if 1048576 < 4 + sizN nd then (3, []) else (0, 84 :: 65 :: 82 :: 49 :: encN nd) by unfold putA; rw [hr]; rfl)
    go_wp2_with fail
    refine HRT.out.mono ?_
    rintro e W1 ⟨rfl, hb1⟩
    have HK1 := Lib.hid (HK0.out.step hb1)
    clear hb1 hn0 hn1 hn2
    obtain ⟨hn0, hn1, hn2, _⟩ := HC.out W1 HK1.out
    go_wp2_with fail
    refine (HLE.out W1 HK1.out).mono ?_
    rintro e W2 ⟨rfl, hk2⟩
    have HK2 := Lib.hid hk2
    clear hk2 hn0 hn1 hn2
    rcases Nat.lt_or_ge 1048576 (4 + sizN nd) with hbg | hbg
    · have hbI2 : (1048576 : Int) < 4 + (sizN nd : Int) := by omega
      have hbI : decide ((1048576 : Int) < 4 + (sizN nd : Int)) = true := decide_eq_true hbI2
      have HQ := Lib.hid (show putA nd = (3, []) by rw [HPA.out, if_pos hbg])
      clear hbg
      go_wp2
      go_ret2
      refine ⟨HB.out _ HK2.out, .slice none 0 0, ?_, ?_⟩
      · rw [HQ.out]; rfl
      · rw [HQ.out]; exact BytAt.nil _ _
    · have hbI2 : ¬ (1048576 : Int) < 4 + (sizN nd : Int) := by omega
      have hbI : decide ((1048576 : Int) < 4 + (sizN nd : Int)) = false := decide_eq_false hbI2
      have HQ := Lib.hid (show putA nd = (0, 84 :: 65 :: 82 :: 49 :: encN nd) by rw [HPA.out, if_neg (by omega)])
      obtain ⟨cap, hcap⟩ : ∃ cap, cap = 4 + sizN nd := ⟨_, rfl⟩
      have HCAP := Lib.hid (And.intro hcap hbg)
      clear hcap hbg
      go_wp2_with (refine wpList_make_own _ rfl _ _ _ rfl W2.heap.size 5 i0 _ 1 Try.underlying27 hi hz0 hz4 _ _ _ cap rfl rfl (by have := HCAP.out.1; rw [this]; push_cast; rfl) (by rw [hz2]; have := HCAP.out; omega) (by unfold maxLen; have := HCAP.out; omega) (Nat.le_refl _) ?_)
      intro w3 hown3 hg3
      have hb3 : Below W2.heap.size W2 w3 := (Below.refl _ _).grown hg3 (Nat.le_refl _) (fun k e => by cases e)
      have HO3 := Lib.hid hown3
      have HB3 := Lib.hid hb3
      clear hown3 hg3 hb3
      go_wp2_with (at_builtin; refine Lib.wpList_append_fits_string _ rfl _ _ 27 9 rfl W2.heap.size 5 i0 Try.underlying27 Try.underlying9 hi hz4 (some ⟨W2.heap.size, 0, none⟩) 0 cap [] rfl HO3.out ⟨#[84, 65, 82, 49]⟩ rfl (by have := HCAP.out; omega) (by have := HCAP.out; show 0 + 4 ≤ cap; omega) ?_)
      intro w4 hown4 hg4
      have hr4 := (hown4.lt W2.heap.size rfl).2
      have hb4 : Below W2.heap.size W2 w4 := HB3.out.grown hg4 HB3.out.size (fun k e => Nat.le_of_eq (by simpa [Value.ownBlock] using e))
      rw [strCells_valB] at hown4
      have HO4 := Lib.hid (show w4.ownsRow W2.heap.size 5 1 (.slice (some ⟨W2.heap.size, 0, none⟩) 4 cap) 4 (valB magicL) from hown4)
      have H4 := Lib.hid (And.intro hr4 hb4)
      clear hown4 hg4 hr4 hb4
      go_upto_region 10 with (fail)
      obtain ⟨W8, e8, hx1, hx2, hx3, hbw8, hsz8⟩ := rows3 w4 (.cells #[.slice (some ⟨W2.heap.size, 0, none⟩) 4 cap] 27) (.cells #[textFn w4.heap.size] 46) (.cells #[nodeFn w4.heap.size (w4.heap.size + 1) (w4.heap.size + 1 + 1)] 47)
      have e8' := e8
      unfold textFn nodeFn at e8'
      rw [← e8']
      clear e8'
      obtain ⟨gb, hgb⟩ : ∃ gb, gb = w4.heap.size := ⟨_, rfl⟩
      have hk8 : KeepW w1 w1.heap.size W8 := HK2.out.step (H4.out.2.trans (hbw8.mono (by have := H4.out.1; omega)))
      have HBW := Lib.hid (show Bw W8 gb W2.heap.size W2.heap.size cap magicL from ⟨by rw [hgb]; exact hx1, own_below HO4.out hbw8 (Nat.le_refl _), by have := H4.out.1; omega⟩)
      have HFN := Lib.hid (show Fns W8 gb (gb + 1) (gb + 1 + 1) W2.heap.size from ⟨by rw [hgb]; exact hx2, by rw [hgb]; exact hx3, by omega, by have := H4.out.1; omega, by omega, by have := H4.out.1; omega⟩)
      have HGB := Lib.hid (show W2.heap.size < gb by have := H4.out.1; omega)
      have HK8 := Lib.hid hk8
      rw [← hgb]
      clear hk8 hx1 hx2 hx3 hbw8 hsz8 e8 hgb HO4
      have hBw2 : w.heap.size ≤ W2.heap.size := by have := HK2.out.2; have := HZ.out; omega
      have HND := Lib.hid (node1_any _ nd (Nat.le_refl _) HMY.out hN W8 gb (gb + 1) (gb + 1 + 1) W2.heap.size W2.heap.size cap magicL HBW.out HFN.out (by have := HCAP.out; omega) (by have := HCAP.out; show 4 + _ ≤ _; omega) B (by have := HGB.out; omega) (by omega) _ (HV.out W8 HK8.out))
      obtain ⟨hn0, hn1, hn2, _⟩ := HC.out W8 HK8.out
      obtain ⟨_, hcn⟩ := HFN.out.cells
      unfold nodeFn at hcn
      go_wp2_with fail
      refine HND.out.mono ?_
      rintro e W9 ⟨rfl, hp9⟩
      have HP9 := Lib.hid hp9
      clear hp9 hn0 hn1 hn2 hcn
      obtain ⟨hcb, hfb⟩ := HP9.out.1.cell
      clear hfb
      go_wp2
      go_ret2
      refine ⟨?_, .slice (some ⟨W2.heap.size, 0, none⟩) (magicL ++ encN nd).length cap, ?_, ?_⟩
      rotate_left
      · rw [HQ.out, List.length_append]; rfl
      · rw [HQ.out]
        exact BytAt.own HP9.out.1.2.1
      · exact (HB.out _ HK8.out).trans (HP9.out.2.below (by have := HBW.out.lt.1; have := HGB.out; omega) (fun k hk => Or.elim hk (fun e => by have := HGB.out; omega) (fun e => by omega)))
end Go.Proofs.Ytcleebigfbbdbaa
