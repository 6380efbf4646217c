/- What rows of tests allow: allows. -/
import Derived.Test.YtjckcdemkpmheaaDoorRngH
namespace Go.Proofs.YtjckcdemkpmheaaDoor
open Go.RowKit Go.BigFrame
open Ver (cmpV BL)

set_option maxRecDepth 100000 in
set_option maxHeartbeats 400000 in
theorem contains_in (u : Value) (row : List Bd) (vx : Value) (xs : List Int) (p : ByteArray) (bv : Nat) (w : World) (hrow : TRow w AllB u row) (hmay : ∀ b ∈ row, mayB b = true) (h0 : w.cell? ⟨bv, 0, none⟩ = some vx) (h1 : w.cell? ⟨bv, 1, none⟩ = some (.string p)) (hx : Reads w w.heap.size vx (ints xs)) (hp : p.size ≤ 1000000) :
    Calls Tryd.prog 48 #[u, .func (.func 45) #[] #[.pointer (some ⟨bv, 0, none⟩)]] w fun e w' => e = .returned (.bool (row.any (bars (xs, p.data.toList)))) ∧ Below w.heap.size w w' := by
  have HC := Lib.hid (index_in u row vx xs p bv w hrow hmay h0 h1 hx hp)
  clear hrow hmay h0 h1 hx hp
  go_enter Tryd.func48, Tryd.ntmps48
  go_wp2_with (go_at_call 74; refine HC.out.mono ?_; rintro e w2 ⟨z, rfl, hz, hb2⟩)
  go_ret
  exact ⟨rfl, hb2⟩
set_option maxRecDepth 100000 in
set_option maxHeartbeats 400000 in
theorem all_in (u : Value) (row : List Bd) (vx : Value) (xs : List Int) (p : ByteArray) (bv bf : Nat) (w : World) (hrow : TRow w AllB u row) (hmay : ∀ b ∈ row, mayB b = true) (h0 : w.cell? ⟨bv, 0, none⟩ = some vx) (h1 : w.cell? ⟨bv, 1, none⟩ = some (.string p)) (hf : w.cell? ⟨bf, 0, none⟩ = some (.func (.func 45) #[] #[.pointer (some ⟨bv, 0, none⟩)])) (hx : Reads w w.heap.size vx (ints xs)) (hp : p.size ≤ 1000000) :
    Calls Tryd.prog 47 #[u, .pointer (some ⟨bf, 0, none⟩)] w fun e w' => e = .returned (.bool (!row.any (bars (xs, p.data.toList)))) ∧ Below w.heap.size w w' := by
  have HC := Lib.hid (contains_in u row vx xs p bv w hrow hmay h0 h1 hx hp)
  clear hrow hmay h0 h1 hx hp
  go_enter Tryd.func47, Tryd.ntmps47
  go_wp2_with (go_at_call 48; refine HC.out.mono ?_; rintro e w2 ⟨rfl, hb2⟩)
  go_ret
  exact ⟨rfl, hb2⟩
def rowAll (v : VV) (row : List Bd) : Bool := !row.any (bars v)
set_option maxRecDepth 100000 in
set_option maxHeartbeats 1000000 in
theorem index_out (u : Value) (r : List (List Bd)) (vx : Value) (xs : List Int) (p : ByteArray) (bv bf : Nat) (w : World) (hr : OutS TRow w AllB u r) (hmay : ∀ row ∈ r, ∀ b ∈ row, mayB b = true) (h0 : w.cell? ⟨bv, 0, none⟩ = some vx) (h1 : w.cell? ⟨bv, 1, none⟩ = some (.string p)) (hf : w.cell? ⟨bf, 0, none⟩ = some (.func (.func 45) #[] #[.pointer (some ⟨bv, 0, none⟩)])) (hx : Reads w w.heap.size vx (ints xs)) (hp : p.size ≤ 1000000) :
    Calls Tryd.prog 73 #[u, .func (.func 47) #[] #[.pointer (some ⟨bf, 0, none⟩)]] w fun e w' => ∃ z : Int, e = .returned (.int .i64 z) ∧ decide (z ≥ 0) = r.any (rowAll (xs, p.data.toList)) ∧ Below w.heap.size w w' := by
  obtain ⟨A, cap, rfl, hcl, hcm⟩ := hr.form
  have HR := Lib.hid hr
  have HMAY := Lib.hid hmay
  have HX := Lib.hid hx
  have hb := block_lt_of_cell h0
  have hbf := block_lt_of_cell hf
  have H0 := Lib.hid h0
  have H1 := Lib.hid h1
  have H2 := Lib.hid hf
  clear hr hmay hx h0 h1 hf
  unfold maxLen at hcm
  go_enter Tryd.func73, Tryd.ntmps73
  go_wp2
  go_loopw [8] (fun i wr => ∃ (k : Nat), k ≤ r.length ∧ i = .int .i64 (k : Int) ∧ Hid ((r.take k).any (rowAll (xs, p.data.toList)) = false) ∧ Hid (Below w.heap.size w wr)) (fun i _ => r.length - (intOf i).toNat)
  case atStart => exact ⟨0, by omega, rfl, Lib.hid rfl, Lib.hid (Below.refl _ _)⟩
  case round =>
    obtain ⟨k, hk, rfl, HN, HB⟩ := hrel
    by_cases hlt : k < r.length
    · have hltI : (k : Int) < (r.length : Int) := by omega
      have hk0 : (0 : Int) ≤ (k : Int) := by omega
      obtain ⟨ad, u1, rfl, hc, ht⟩ := (OutS.below TRow.keeps HR.out HB.out).get k hlt
      obtain ⟨row, hbb⟩ : ∃ row, row = r.getD k default := ⟨_, rfl⟩
      rw [← hbb] at ht
      have HBK := Lib.hid (show r[k]? = some row by rw [hbb]; exact getD_get r k _ hlt)
      have HMB := Lib.hid (HMAY.out row (List.mem_of_getElem? HBK.out))
      have hcon := all_in u1 row vx xs p bv bf wr ht HMB.out ((HB.out.cell hb).trans H0.out) ((HB.out.cell (p := ⟨bv, 1, none⟩) (by exact hb)).trans H1.out) ((HB.out.cell hbf).trans H2.out) ((HX.out.below HB.out).more HB.out.size) hp
      rw [show (!row.any (bars (xs, p.data.toList))) = rowAll (xs, p.data.toList) row from rfl] at hcon
      obtain ⟨ts, hts, _⟩ := ht
      obtain ⟨A2, cap2, rfl, _, _⟩ := hts.form
      have HCON := Lib.hid hcon
      obtain ⟨ok, hok⟩ : ∃ ok, ok = rowAll (xs, p.data.toList) row := ⟨_, rfl⟩
      rw [← hok] at HCON
      have HOK := Lib.hid hok
      clear hbb hcon hok hts
      cases ok
      · have HN2 := Lib.hid (any_next _ r k row HBK.out HN.out HOK.out.symm)
        go_wp2_with (go_at_call 47; refine HCON.out.mono ?_; rintro e w2 ⟨rfl, hb2⟩)
        go_roundw
        case rel => exact ⟨k + 1, by omega, by go_num, HN2, Lib.hid (below_step HB.out hb2 HB.out.size)⟩
        case measure => simp [intOf]; omega
      · have HH := Lib.hid (any_hit _ r k row HBK.out HOK.out.symm)
        go_wp2_with (go_at_call 47; refine HCON.out.mono ?_; rintro e w2 ⟨rfl, hb2⟩)
        go_ret
        exact ⟨k, rfl, by rw [HH.out]; simp, below_step HB.out hb2 HB.out.size⟩
    · have HH := Lib.hid (show r.any (rowAll (xs, p.data.toList)) = false by have := HN.out; rwa [show k = r.length by omega, List.take_length] at this)
      have hltI : ¬ (k : Int) < (r.length : Int) := by omega
      go_wp2
      go_ret
      exact ⟨-1, rfl, by rw [HH.out]; rfl, HB.out⟩
set_option maxRecDepth 100000 in
set_option maxHeartbeats 400000 in
theorem contains_out (u : Value) (r : List (List Bd)) (vx : Value) (xs : List Int) (p : ByteArray) (bv bf : Nat) (w : World) (hr : OutS TRow w AllB u r) (hmay : ∀ row ∈ r, ∀ b ∈ row, mayB b = true) (h0 : w.cell? ⟨bv, 0, none⟩ = some vx) (h1 : w.cell? ⟨bv, 1, none⟩ = some (.string p)) (hf : w.cell? ⟨bf, 0, none⟩ = some (.func (.func 45) #[] #[.pointer (some ⟨bv, 0, none⟩)])) (hx : Reads w w.heap.size vx (ints xs)) (hp : p.size ≤ 1000000) :
    Calls Tryd.prog 46 #[u, .func (.func 47) #[] #[.pointer (some ⟨bf, 0, none⟩)]] w fun e w' => e = .returned (.bool (r.any (rowAll (xs, p.data.toList)))) ∧ Below w.heap.size w w' := by
  have HC := Lib.hid (index_out u r vx xs p bv bf w hr hmay h0 h1 hf hx hp)
  clear hr hmay h0 h1 hf hx hp
  go_enter Tryd.func46, Tryd.ntmps46
  go_wp2_with (go_at_call 73; refine HC.out.mono ?_; rintro e w2 ⟨z, rfl, hz, hb2⟩)
  go_ret
  exact ⟨rfl, hb2⟩
def allowsB (r : List (List Bd)) (s : ByteArray) : Bool := okS s && (decide (r.length = 0) || r.any (rowAll (verOf s)))
theorem may_all (r : List (List Bd)) (h : mayR r = true) : ∀ row ∈ r, ∀ b ∈ row, mayB b = true := by
  intro row hr b hb
  unfold mayR at h
  simp only [Bool.and_eq_true] at h
  have h2 := List.all_eq_true.1 h.2 row hr
  unfold mayRow at h2
  simp only [Bool.and_eq_true] at h2
  exact List.all_eq_true.1 h2.2 b hb
set_option maxRecDepth 100000 in
set_option maxHeartbeats 1000000 in
theorem allows_any (r : List (List Bd)) (u : Value) (s : ByteArray) (w : World) (hu : OutS TRow w AllB u r) (hmay : mayR r = true) (hs : s.size ≤ 1000000) :
    Calls Tryd.prog 32 #[u, .string s] w fun e w' => e = .returned (.bool (allowsB r s)) ∧ Below w.heap.size w w' := by
  obtain ⟨A, cap, rfl, hcl, hcm⟩ := hu.form
  have HU := Lib.hid hu
  have HM := Lib.hid (may_all r hmay)
  clear hu hmay
  unfold maxLen at hcm
  cases ho : okS s
  · have HO := Lib.hid ho
    have HF := Lib.hid (show allowsB r s = false by unfold allowsB; rw [ho, Bool.false_and])
    clear ho
    go_enter Tryd.func32, Tryd.ntmps32
    go_wp2_with fail
    refine (parse_no s _ hs HO.out).mono ?_
    rintro e w1 ⟨rfl, hb1⟩
    go_wp2
    go_ret
    exact ⟨ret_bool HF.out.symm, hb1.alloc hb1.size _⟩
  · have HO := Lib.hid ho
    have HF := Lib.hid (show allowsB r s = (decide (r.length = 0) || r.any (rowAll (verOf s))) by unfold allowsB; rw [ho, Bool.true_and])
    clear ho
    go_enter Tryd.func32, Tryd.ntmps32
    go_wp2_with fail
    refine (parse_yes s _ hs HO.out).mono ?_
    rintro e w1 ⟨v, t, rfl, hR, htl, htz, hb1, ⟨A', n', cap', rfl, _⟩⟩
    have HT := Lib.hid htl
    have HR := Lib.hid hR
    clear htl hR
    go_upto_region 2 with (fail)
    obtain ⟨W2, hW2, hg2, hq2, hz2, hB2⟩ := row_at w w1 (.cells #[.slice A' n' cap', .string t] 65) hb1
    rw [← hW2]
    have HQ2 := Lib.hid hq2
    have HG2 := Lib.hid hg2
    clear hW2 hg2 hq2 hz2
    go_upto_region 5 with (fail)
    obtain ⟨W3, hW3, hg3, hq3, hz3, hB3⟩ := row_at w W2 (.cells #[.func (.func 45) #[] #[.pointer (some ⟨w1.heap.size, 0, none⟩)]] 90) hB2
    rw [← hW3]
    have hl1 := block_lt HG2.out
    obtain ⟨hc0, hc1, _, _⟩ := cell_two ((hq3.block w1.heap.size hl1).trans HG2.out)
    have hf : W3.cell? ⟨W2.heap.size, 0, none⟩ = some (.func (.func 45) #[] #[.pointer (some ⟨w1.heap.size, 0, none⟩)]) := by rw [cell_of_row _ _ _ _ _ _ hg3]; rfl
    have HR3 := Lib.hid ((((HR.out.below HQ2.out).more HQ2.out.size).below hq3).more hq3.size)
    have HU3 := Lib.hid (((HU.out.below TRow.keeps hb1).below TRow.keeps HQ2.out).below TRow.keeps hq3)
    have HB3 := Lib.hid hB3
    have HCON := Lib.hid (contains_out _ r _ _ t w1.heap.size W2.heap.size W3 HU3.out HM.out hc0 hc1 hf HR3.out (by omega))
    rw [show ((verOf s).1, t.data.toList) = verOf s by rw [HT.out]] at HCON
    clear hW3 hg3 hq3 hz3 hB2 hB3 hc0 hc1 hf
    by_cases h0 : r.length = 0
    · have h0I : ((r.length : Int) == 0) = true := by rw [h0]; rfl
      have HF2 := Lib.hid (show allowsB r s = true by rw [HF.out, decide_eq_true h0, Bool.true_or])
      go_wp2
      go_ret
      exact ⟨ret_bool HF2.out.symm, HB3.out⟩
    · have h0I : ((r.length : Int) == 0) = false := by rw [beq_eq_false_iff_ne]; omega
      have HF2 := Lib.hid (show allowsB r s = r.any (rowAll (verOf s)) by rw [HF.out, decide_eq_false h0, Bool.false_or])
      go_wp2_with (go_at_call 46; refine HCON.out.mono ?_; rintro e w4 ⟨rfl, hb4⟩)
      go_ret
      exact ⟨ret_bool HF2.out.symm, below_step HB3.out hb4 HB3.out.size⟩
end Go.Proofs.YtjckcdemkpmheaaDoor
