/- archive: length, Len; the reference's size, Len, text, node. -/
import Derived.Test.YtcleebigfbbdbaaArcA
import Derived.Test.YtcleebigfbbdbaaFilRc
set_option linter.unusedVariables false
set_option linter.unusedSimpArgs false
namespace Go.Proofs.Ytcleebigfbbdbaa
open Go Go.RowKit Go.BigFrame
open Fil (Es Nd Sp)
open Arc (BL num4 num2 encT letK encE encN sizE sizN)

set_option maxRecDepth 1000000 in
set_option maxRecDepth 100000 in
set_option maxHeartbeats 1000000 in
theorem length_any (nd : Nd) (hs : sizN nd ≤ 1000000000) (w : World) (B : Nat) (hB : B ≤ w.heap.size) (v : Value) (hv : NdV w B v nd) : Calls Try.prog 24 #[v] w fun e W => e = .returned (.int .i64 (4 + (sizN nd : Int))) ∧ Below w.heap.size w W := by
  obtain ⟨ev, rfl, hes, hd, hk⟩ := hv
  obtain ⟨A, c, rfl, hlc, hcm⟩ := hes.form
  go_enter Try.func24, Try.ntmps24
  obtain ⟨w1, e1, hg1, hb1, hz1⟩ : ∃ w1, w1 = w.alloc (.cells #[.int .u8 (nd.k : Int), .string nd.d, .slice A nd.es.len c] 24) ∧ w1.heap[w.heap.size]? = some (.cells #[.int .u8 (nd.k : Int), .string nd.d, .slice A nd.es.len c] 24 (0, 0)) ∧ Below w.heap.size w w1 ∧ w1.heap.size = w.heap.size + 1 := ⟨_, rfl, heap_alloc_new _ _, (Below.refl _ _).alloc (Nat.le_refl _) _, by simp⟩
  go_upto_region 1 with (fail)
  rw [← e1]
  clear e1
  obtain ⟨hn0, hn1, hn2, _⟩ := nd_box (W := w1) (k := nd.k) (d := nd.d) (v := .slice A nd.es.len c) hg1
  have HN := Lib.hid (nodeLen_any _ nd (Nat.le_refl _) hs w1 B (by omega) (.agg #[.int .u8 (nd.k : Int), .string nd.d, .slice A nd.es.len c]) ⟨_, rfl, hes.keep (hb1.mono hB), hd, hk⟩)
  have HB := Lib.hid (And.intro hb1 hz1)
  have hw : IntKind.i64.wrap ((4 : Int) + (sizN nd : Int)) = (4 : Int) + (sizN nd : Int) := IntWalk.i64_in _ (by omega)
  clear hg1 hb1 hz1 hes
  go_wp2_with fail
  refine HN.out.mono ?_
  rintro e W1 ⟨rfl, hb2⟩
  have HB2 := Lib.hid (HB.out.1.trans (hb2.mono (by have := HB.out.2; omega)))
  clear hb2 hn0 hn1 hn2
  go_wp2
  go_ret
  exact ⟨rfl, HB2.out⟩
/-- What Len tells. -/
def lenR (nd : Nd) : Nat := if nd.right then 4 + sizN nd else 0
set_option maxRecDepth 1000000 in
set_option maxRecDepth 100000 in
set_option maxHeartbeats 4000000 in
theorem len_any (nd : Nd) (hN : nd.es.count ≤ 100000000) (w : World) (B : Nat) (hB : B ≤ w.heap.size) (v : Value) (hv : NdV w B v nd) : Calls Try.prog 12 #[v] w fun e W => e = .returned (.int .i64 (lenR nd : Int)) ∧ Below w.heap.size w W := by
  obtain ⟨ev, rfl, hes, hd, hk⟩ := hv
  obtain ⟨A, c, rfl, hlc, hcm⟩ := hes.form
  go_enter Try.func12, Try.ntmps12
  obtain ⟨w1, e1, hg1, hb1, hz1⟩ : ∃ w1, w1 = w.alloc (.cells #[.int .u8 (nd.k : Int), .string nd.d, .slice A nd.es.len c] 24) ∧ w1.heap[w.heap.size]? = some (.cells #[.int .u8 (nd.k : Int), .string nd.d, .slice A nd.es.len c] 24 (0, 0)) ∧ Below w.heap.size w w1 ∧ w1.heap.size = w.heap.size + 1 := ⟨_, rfl, heap_alloc_new _ _, (Below.refl _ _).alloc (Nat.le_refl _) _, by simp⟩
  go_upto_region 1 with (fail)
  rw [← e1]
  clear e1
  have HV := Lib.hid (fun (w' : World) (h : KeepW w1 w1.heap.size w') => show NdV w' B (.agg #[.int .u8 (nd.k : Int), .string nd.d, .slice A nd.es.len c]) nd from ⟨_, rfl, hes.keep ((below_step hb1 h.1 (by omega)).mono hB), hd, hk⟩)
  have HC := Lib.hid (fun (w' : World) (h : KeepW w1 w1.heap.size w') => nd_box (W := w') (k := nd.k) (d := nd.d) (v := .slice A nd.es.len c) ((h.1.block w.heap.size (by omega)).trans hg1))
  have HB := Lib.hid (fun (w' : World) (h : KeepW w1 w1.heap.size w') => below_step hb1 h.1 (by omega))
  have HK0 := Lib.hid (KeepW.start (Nat.le_refl w1.heap.size))
  have HZ := Lib.hid hz1
  have HRT := Lib.hid (right_calls _ nd w1 ((HV.out w1 HK0.out).more (by omega)) hN)
  obtain ⟨hn0, hn1, hn2, _⟩ := HC.out w1 HK0.out
  clear hg1 hb1 hz1 hes
  cases hr : nd.right with
  | false =>
    have HQ := Lib.hid (show lenR nd = 0 by unfold lenR; rw [hr]; rfl)
    rw [hr] at HRT
    go_wp2_with fail
    refine HRT.out.mono ?_
    rintro e W1 ⟨rfl, hb1⟩
    have HBF := Lib.hid (HB.out W1 (HK0.out.step hb1))
    clear hb1 hn0 hn1 hn2
    go_wp2
    go_ret
    exact ⟨by rw [HQ.out]; rfl, HBF.out⟩
  | true =>
    have HQ := Lib.hid (show lenR nd = 4 + sizN nd by unfold lenR; rw [hr]; rfl)
    have HSZ := Lib.hid (Arc.sizN_le hr)
    rw [hr] at HRT
    go_wp2_with fail
    refine HRT.out.mono ?_
    rintro e W1 ⟨rfl, hb1⟩
    have HK1 := Lib.hid (HK0.out.step hb1)
    clear hb1 hn0 hn1 hn2
    obtain ⟨hn0, hn1, hn2, _⟩ := HC.out W1 HK1.out
    go_wp2_with fail
    refine (length_any nd (by have := HSZ.out; omega) W1 B (by have := HK1.out.2; have := HZ.out; omega) _ (HV.out W1 HK1.out)).mono ?_
    rintro e W2 ⟨rfl, hb2⟩
    have HBF := Lib.hid (HB.out W2 (HK1.out.step hb2))
    clear hb2 hn0 hn1 hn2
    go_wp2
    go_ret
    exact ⟨by rw [HQ.out]; simp, HBF.out⟩
set_option maxRecDepth 1000000 in
set_option maxRecDepth 100000 in
set_option maxHeartbeats 4000000 in
theorem refSiz_any : ∀ (m : Nat) (nd : Nd), nd.es.count ≤ m → sizN nd ≤ 1000000000 → ∀ (w : World) (B : Nat), B ≤ w.heap.size → ∀ v, NdV w B v nd → Calls Try.prog 29 #[v] w fun e W => e = .returned (.int .i64 (sizN nd : Int)) ∧ Below w.heap.size w W := by
  intro m
  induction m using Nat.strongRecOn with
  | ind m ih =>
  intro nd hm hbd w B hB v hv
  obtain ⟨ev, rfl, hes, hd, hk⟩ := hv
  obtain ⟨A, c, rfl, hlc, hcm⟩ := hes.form
  have HIH := Lib.hid (And.intro ih hm)
  clear ih hm
  go_enter Try.func29, Try.ntmps29
  have hbw0 : Below w.heap.size w (w.alloc (ndCells nd.k nd.d (.slice A nd.es.len c))) := (Below.refl _ w).alloc (Nat.le_refl _) _
  have hg0 : (w.alloc (ndCells nd.k nd.d (.slice A nd.es.len c))).heap[w.heap.size]? = some (ndCells nd.k nd.d (.slice A nd.es.len c)) := heap_alloc_new _ _
  have hsz : (w.alloc (ndCells nd.k nd.d (.slice A nd.es.len c))).heap.size = w.heap.size + 1 := by simp
  unfold ndCells at hbw0 hg0 hsz
  have HES := Lib.hid hes
  have HB := Lib.hid (And.intro hbw0 (And.intro hg0 hsz))
  clear hes hbw0 hg0 hsz
  have HSN := Lib.hid (show sizN nd = if nd.k = 4 then 3 + sizE nd.es else 5 + nd.d.size from rfl)
  by_cases h4 : nd.k = 4
  rotate_left
  · have e4 : ((nd.k : Int) != 4) = true := bne_iff_ne.2 (by omega)
    have hF : sizN nd = 5 + nd.d.size := by rw [HSN.out, if_neg h4]
    have HF := Lib.hid hF
    have hw : IntKind.i64.wrap ((5 : Int) + (nd.d.size : Int)) = (5 : Int) + (nd.d.size : Int) := IntWalk.i64_in _ (by omega)
    clear h4 hF
    go_wp2
    go_ret
    exact ⟨by rw [HF.out]; simp, HB.out.1⟩
  have e4 : ((nd.k : Int) != 4) = false := by rw [h4]; rfl
  have hF : sizN nd = 3 + sizE nd.es := by rw [HSN.out, if_pos h4]
  have HF := Lib.hid (And.intro hF hbd)
  clear hF h4 hbd
  go_wp2
  generalize hW0 : World.alloc _ _ = W0 at *
  clear hW0
  go_loopg [3, 4] nd.es.len (fun g u3 u4 wx => ∃ i : Nat, u3 = .int .i64 (3 + sizE (takeE i nd.es) : Int) ∧ u4 = .int .i64 (i : Int) ∧ i + g = nd.es.len ∧ Below W0.heap.size W0 wx)
  case atStart => exact ⟨0, by rw [siz_take_zero]; rfl, rfl, by omega, Below.refl _ _⟩
  case round =>
    obtain ⟨i, rfl, rfl, hig, hbw⟩ := hrel
    have hbl : Below w.heap.size w wr := HB.out.1.trans (hbw.mono (by have := HB.out.2.2; omega))
    have hbx : wr.heap[w.heap.size]? = some (ndCells nd.k nd.d (.slice A nd.es.len c)) := (hbw.block _ (by have := HB.out.2.2; omega)).trans HB.out.2.1
    obtain ⟨hn0, hn1, hn2, _⟩ := nd_box hbx
    cases gk with
    | zero =>
      obtain rfl : i = nd.es.len := by omega
      have HE := Lib.hid (take_all nd.es)
      clear hbx
      go_wp2
      go_ret
      exact ⟨by rw [HF.out.1, HE.out]; simp, hbl⟩
    | succ g =>
      have hil : i < nd.es.len := by omega
      obtain ⟨ab, ao, rfl, hlt, hcs⟩ := es_addr HES.out (by omega)
      obtain ⟨hk1, hk2, hk3, hk4, A2, c2, hk5, hk6⟩ := kid_at hcs hil hlt
      obtain ⟨hnm, hnz⟩ := name_at hcs hil
      have hkc := kid_count nd.es i hil
      have hst := siz_take nd.es i hil
      have hks := kid_siz nd.es i hil
      have hle := siz_take_le nd.es (i + 1)
      have hfs := HF.out.1
      have hfb := HF.out.2
      obtain ⟨y, hy⟩ : ∃ y, y = kidE nd.es i := ⟨_, rfl⟩
      obtain ⟨nm, hnmE⟩ : ∃ nm, nm = nmE nd.es i := ⟨_, rfl⟩
      rw [← hy] at hk1 hk2 hk3 hk4 hk5 hk6 hst hks hkc
      rw [← hnmE] at hnm hst hks
      have hw0 : IntKind.i64.wrap ((3 : Int) + (sizE (takeE i nd.es) : Int) + 4) = (3 : Int) + (sizE (takeE i nd.es) : Int) + 4 := IntWalk.i64_in _ (by omega)
      have hw1 : IntKind.i64.wrap ((3 : Int) + (sizE (takeE i nd.es) : Int) + 4 + (nm.size : Int)) = (3 : Int) + (sizE (takeE i nd.es) : Int) + 4 + (nm.size : Int) := IntWalk.i64_in _ (by omega)
      have hw2 : IntKind.i64.wrap ((3 : Int) + (sizE (takeE i nd.es) : Int) + 4 + (nm.size : Int) + (sizN y : Int)) = (3 : Int) + (sizE (takeE i nd.es) : Int) + 4 + (nm.size : Int) + (sizN y : Int) := IntWalk.i64_in _ (by omega)
      have hw3 : IntKind.i64.wrap ((i : Int) + 1) = (i : Int) + 1 := IntWalk.i64_in _ (by unfold maxLen at hcm; omega)
      have HIHK := Lib.hid (fun (w' : World) (h : KeepW wr wr.heap.size w') => h.calls (HIH.out.1 y.es.count (by have := HIH.out.2; omega) y (Nat.le_refl _) (by omega) w' B (by have := h.2; have := hbl.size; omega) (.agg #[.int .u8 (y.k : Int), .string y.d, .slice A2 y.es.len c2]) ⟨_, rfl, hk6.keep ((hbl.trans (h.1.mono hbl.size)).mono hB), hk3, hk4⟩))
      have HST := Lib.hid hst
      have HS := Lib.hid (fun (w' : World) (h : KeepW wr wr.heap.size w') => show (w'.cell? ⟨w.heap.size, 2, none⟩ = some (.slice (some ⟨ab, ao, none⟩) nd.es.len c) ∧ w'.cell? ⟨ab, ao + i * 4, none⟩ = some (.string nm)) ∧ w'.cell? ⟨ab, ao + i * 4 + 1, none⟩ = some (.int .u8 (y.k : Int)) ∧ w'.cell? ⟨ab, ao + i * 4 + 2, none⟩ = some (.string y.d) ∧ w'.cell? ⟨ab, ao + i * 4 + 3, none⟩ = some (.slice A2 y.es.len c2) from by
        have hb : Below w.heap.size w w' := hbl.trans (h.1.mono hbl.size)
        have hc2 := (h.1.cell (p := ⟨w.heap.size, 2, none⟩) (by show w.heap.size < _; exact block_lt hbx)).trans hn2
        exact ⟨⟨hc2, (hb.cell (p := ⟨ab, ao + i * 4, none⟩) (by show ab < _; omega)).trans hnm⟩, (hb.cell (p := ⟨ab, ao + i * 4 + 1, none⟩) (by show ab < _; omega)).trans hk1, (hb.cell (p := ⟨ab, ao + i * 4 + 2, none⟩) (by show ab < _; omega)).trans hk2, (hb.cell (p := ⟨ab, ao + i * 4 + 3, none⟩) (by show ab < _; omega)).trans hk5⟩)
      have HK0 := Lib.hid (KeepW.start (Nat.le_refl wr.heap.size))
      have hilI : (i : Int) < (nd.es.len : Int) := by omega
      have hi0I : (0 : Int) ≤ (i : Int) := by omega
      clear hkc hcs hk1 hk2 hk3 hk4 hk5 hk6 hnm hnz hst hks hle hfs hfb hy hnmE hn0 hn1 hbx
      go_wp2
      clear hn2
      go_region_held3 (fun w' => (w'.cell? ⟨w.heap.size, 2, none⟩ = some (.slice (some ⟨ab, ao, none⟩) nd.es.len c) ∧ w'.cell? ⟨ab, ao + i * 4, none⟩ = some (.string nm)) ∧ w'.cell? ⟨ab, ao + i * 4 + 1, none⟩ = some (.int .u8 (y.k : Int)) ∧ w'.cell? ⟨ab, ao + i * 4 + 2, none⟩ = some (.string y.d) ∧ w'.cell? ⟨ab, ao + i * 4 + 3, none⟩ = some (.slice A2 y.es.len c2)) (first | exact HS.out _ (by first | assumption | exact KeepW.drew HK0.out | exact KeepW.drew (by assumption)) | go_keep) (first
        | (go_at_call 29; refine (HIHK.out _ (by first | assumption | exact KeepW.drew HK0.out)).mono ?_; rintro e W2 ⟨rfl, hk2⟩))
      all_goals
        have HK2 := Lib.hid (show KeepW wr wr.heap.size _ from hk2)
        clear hk2
        go_wp2
        go_roundg g
        case measure => omega
        case rel => exact ⟨i + 1, by rw [HST.out]; simp []; try omega, by simp, by omega, hbw.trans (HK2.out.1.mono hbw.size)⟩
end Go.Proofs.Ytcleebigfbbdbaa
