/- What a row of tests allows: allows$1, and the library's search with it. -/
import Derived.Test.YtcnedecmmplmoaaGreatDoorCm11
set_option linter.unusedVariables false
set_option linter.unusedSimpArgs false
namespace Go.Proofs.YtcnedecmmplmoaaGreatDoor
open Go.RowKit Go.BigFrame
open Ver (cmpV BL)

theorem fn_enters (o : Nat) (h : o ≤ 7) : ∀ args w, (callFunc (fnId o) args).run Tryz.prog w = .ok (.enter (fnId o) args) w := by
  rcases op_cases o h with rfl | rfl | rfl | rfl | rfl | rfl | rfl | rfl
  · exact enters_of Tryz.func120 (by kernel_rfl) rfl
  · exact enters_of Tryz.func121 (by kernel_rfl) rfl
  · exact enters_of Tryz.func123 (by kernel_rfl) rfl
  · exact enters_of Tryz.func124 (by kernel_rfl) rfl
  · exact enters_of Tryz.func125 (by kernel_rfl) rfl
  · exact enters_of Tryz.func126 (by kernel_rfl) rfl
  · exact enters_of Tryz.func127 (by kernel_rfl) rfl
  · exact enters_of Tryz.func128 (by kernel_rfl) rfl
set_option maxRecDepth 100000 in
set_option maxHeartbeats 1000000 in
theorem fails_any (t : Tst) (vx : Value) (xs : List Int) (p : ByteArray) (bv : Nat) (w : World) (ht : TOk w AllB t) (h7 : t.op = 7 → 1 ≤ t.xs.length) (h0 : w.cell? ⟨bv, 0, none⟩ = some vx) (h1 : w.cell? ⟨bv, 1, none⟩ = some (.string p)) (hx : Reads w w.heap.size vx (ints xs)) (hp : p.size ≤ 1000000) :
    Calls Tryz.prog 108 #[.agg #[fnOf t.op, t.v, .string t.tag], .pointer (some ⟨bv, 0, none⟩)] w fun e w' => e = .returned (.bool (!opV t.op (xs, p.data.toList) (t.xs, t.tag.data.toList))) ∧ Below w.heap.size w w' := by
  obtain ⟨hr, hz, ho⟩ := ht
  obtain ⟨o, v, ys, tag⟩ := t
  dsimp only at *
  obtain ⟨A, ca, rfl⟩ := hx.form
  obtain ⟨A', cb, rfl, _, _⟩ := hr.form
  obtain ⟨fo, hfo⟩ : ∃ fo, fo = fnId o := ⟨_, rfl⟩
  have hb := block_lt_of_cell h0
  have HX := Lib.hid hx
  have HR := Lib.hid (show Reads w w.heap.size (.slice A' ys.length cb) (ints ys) from RdS.reads (S := AllB) (by rw [ints_len]; exact hr))
  have HK := Lib.hid (kind_any o ho)
  rw [← hfo] at HK
  have hent := fn_enters o ho
  rw [← hfo] at hent
  rw [show fnOf o = .func (.func fo) #[] #[] by rw [hfo]; rfl]
  clear hx hr hfo
  go_enter Tryz.func108, Tryz.ntmps108
  go_upto_region 1 with (fail)
  obtain ⟨W1, hW1, hg1, hq1, hz1, hB1⟩ := row_at w w (.cells #[.func (.func fo) #[] #[], .slice A' ys.length cb, .string tag] 153) (Below.refl _ _)
  rw [← hW1]
  have hc0 : W1.cell? ⟨bv, 0, none⟩ = some (.slice A xs.length ca) := (hq1.cell hb).trans h0
  have hc1 : W1.cell? ⟨bv, 1, none⟩ = some (.string p) := (hq1.cell (p := ⟨bv, 1, none⟩) (by exact hb)).trans h1
  have hd0 : W1.cell? ⟨w.heap.size, 0, none⟩ = some (.func (.func fo) #[] #[]) := by rw [cell_of_row _ _ _ _ _ _ hg1]; rfl
  have hd1 : W1.cell? ⟨w.heap.size, 1, none⟩ = some (.slice A' ys.length cb) := by rw [cell_of_row _ _ _ _ _ _ hg1]; rfl
  have hd2 : W1.cell? ⟨w.heap.size, 2, none⟩ = some (.string tag) := by rw [cell_of_row _ _ _ _ _ _ hg1]; rfl
  have HX1 := Lib.hid ((HX.out.below hq1).more hq1.size)
  have HR1 := Lib.hid ((HR.out.below hq1).more hq1.size)
  have HB1 := Lib.hid hB1
  clear hW1 hg1 hq1 hz1 hB1 h0 h1
  go_wp2_with fail
  refine (HK.out _ _ xs ys p tag _ HX1.out HR1.out h7 hp (by omega)).mono ?_
  rintro e w2 ⟨rfl, hb2⟩
  go_wp2
  go_ret
  exact ⟨rfl, below_step HB1.out hb2 HB1.out.size⟩
theorem TRow.get {w : World} {S : Nat → Prop} {A : Option Addr} {n cap : Nat} {row : List Bd} (h : TRow w S (.slice A n cap) row) (k : Nat) (hk : k < row.length) :
    ∃ ad t, A = some ad ∧ (∀ j u, t.enc[j]? = some u → w.cell? ((ad.add (k * 3)).add j) = some u) ∧ TOk w S t ∧ t.key = keyB (row.getD k default) := by
  obtain ⟨ts, ⟨A', cap', e, h1, h2, h3, h4⟩, hts, hkey⟩ := h
  cases e
  obtain ⟨ad, rfl, _, _, hc⟩ := h4 (by omega)
  have hl : ts.length = row.length := by have := congrArg List.length hkey; simpa using this
  have hkt : k < ts.length := by omega
  refine ⟨ad, ts[k], rfl, fun j u hu => ?_, hts _ (List.getElem_mem hkt), ?_⟩
  · rw [add_add]
    have hj : j < 3 := by have := (List.getElem?_eq_some_iff.1 hu).1; simpa [Tst.enc] using this
    refine hc _ _ ?_
    unfold tstCells
    rw [flat_get Tst.enc 3 (fun _ => rfl) ts k j ts[k] (List.getElem?_eq_getElem hkt) hj, hu]
  · have h5 : (ts.map Tst.key)[k]? = (row.map keyB)[k]? := by rw [hkey]
    simp [hkt, hk] at h5
    rw [h5]; simp [hk]
theorem may_seven (b : Bd) (h : mayB b = true) (h7 : b.1 = 7) : 1 ≤ (verOf b.2).1.length := by
  obtain ⟨o, v⟩ := b
  dsimp only at h7
  subst h7
  rw [mayB_pos 7 v (by decide)] at h
  have ho : okS v = true := by simpa using h
  unfold okS at ho
  obtain ⟨u, hu⟩ := Option.isSome_iff_exists.1 ho
  unfold verOf
  rw [hu]
  have := (Ver.prs_some _ _ _ hu).2
  simp only [Ver.okV, Bool.and_eq_true, decide_eq_true_eq] at this
  show 1 ≤ (toI u.1).length
  unfold toI
  rw [List.length_map]; omega
/-- Does a bound bar a version? -/
def bars (v : VV) (b : Bd) : Bool := !opV b.1 v (verOf b.2)
theorem any_next {α : Type} (f : α → Bool) (l : List α) (k : Nat) (x : α) (hk : l[k]? = some x) (h : (l.take k).any f = false) (hx : f x = false) : (l.take (k + 1)).any f = false := by
  rw [take_next l k x hk, List.any_append, h, List.any_cons, hx]; rfl
theorem any_hit {α : Type} (f : α → Bool) (l : List α) (k : Nat) (x : α) (hk : l[k]? = some x) (hx : f x = true) : l.any f = true := List.any_eq_true.2 ⟨x, List.mem_of_getElem? hk, hx⟩
set_option maxRecDepth 100000 in
set_option maxHeartbeats 1000000 in
theorem index_in (u : Value) (row : List Bd) (vx : Value) (xs : List Int) (p : ByteArray) (bv : Nat) (w : World) (hrow : TRow w AllB u row) (hmay : ∀ b ∈ row, mayB b = true) (h0 : w.cell? ⟨bv, 0, none⟩ = some vx) (h1 : w.cell? ⟨bv, 1, none⟩ = some (.string p)) (hx : Reads w w.heap.size vx (ints xs)) (hp : p.size ≤ 1000000) :
    Calls Tryz.prog 130 #[u, .func (.func 108) #[] #[.pointer (some ⟨bv, 0, none⟩)]] w fun e w' => ∃ z : Int, e = .returned (.int .i64 z) ∧ decide (z ≥ 0) = row.any (bars (xs, p.data.toList)) ∧ Below w.heap.size w w' := by
  have hform : ∃ A cap, u = .slice A row.length cap ∧ row.length ≤ cap ∧ cap ≤ maxLen := by obtain ⟨ts, h, _⟩ := hrow; exact h.form
  obtain ⟨A, cap, rfl, hcl, hcm⟩ := hform
  have HROW := Lib.hid hrow
  have HMAY := Lib.hid hmay
  have HX := Lib.hid hx
  have hb := block_lt_of_cell h0
  have H0 := Lib.hid h0
  have H1 := Lib.hid h1
  clear hrow hmay hx h0 h1
  unfold maxLen at hcm
  go_enter Tryz.func130, Tryz.ntmps130
  go_wp2
  go_loopw [8] (fun i wr => ∃ (k : Nat), k ≤ row.length ∧ i = .int .i64 (k : Int) ∧ Hid ((row.take k).any (bars (xs, p.data.toList)) = false) ∧ Hid (Below w.heap.size w wr)) (fun i _ => row.length - (intOf i).toNat)
  case atStart => exact ⟨0, by omega, rfl, Lib.hid rfl, Lib.hid (Below.refl _ _)⟩
  case round =>
    obtain ⟨k, hk, rfl, HN, HB⟩ := hrel
    by_cases hlt : k < row.length
    · have hltI : (k : Int) < (row.length : Int) := by omega
      have hk0 : (0 : Int) ≤ (k : Int) := by omega
      obtain ⟨ad, t, rfl, hc, ht, hkey⟩ := (TRow.keeps.keep HROW.out (SameS.below HB.out AllB)).get k hlt
      obtain ⟨b, hbb⟩ : ∃ b, b = row.getD k default := ⟨_, rfl⟩
      rw [← hbb] at hkey
      have HBK := Lib.hid (show row[k]? = some b by rw [hbb]; exact getD_get row k _ hlt)
      have HMB := Lib.hid (HMAY.out b (List.mem_of_getElem? HBK.out))
      have h7 : t.op = 7 → 1 ≤ t.xs.length := fun e => by
        have e1 : t.op = b.1 := congrArg (·.1) hkey
        have e2 : t.xs = (verOf b.2).1 := congrArg (·.2.1) hkey
        rw [e2]; exact may_seven b HMB.out (e1 ▸ e)
      have HF := Lib.hid (show (!opV t.op (xs, p.data.toList) (t.xs, t.tag.data.toList)) = bars (xs, p.data.toList) b by
        have e1 : t.op = b.1 := congrArg (·.1) hkey
        have e2 : (t.xs, t.tag.data.toList) = verOf b.2 := congrArg (·.2) hkey
        unfold bars; rw [e1, e2])
      have hcon := fails_any t vx xs p bv wr ht h7 ((HB.out.cell hb).trans H0.out) ((HB.out.cell (p := ⟨bv, 1, none⟩) (by exact hb)).trans H1.out) ((HX.out.below HB.out).more HB.out.size) hp
      rw [HF.out] at hcon
      have HCON := Lib.hid hcon
      have hf0 : wr.cell? (ad.add (k * 3)) = some (.func (.func (fnId t.op)) #[] #[]) := by have := hc 0 _ rfl; simpa [add_add, fnOf] using this
      have hf1 : wr.cell? ⟨(ad.add (k * 3)).block, (ad.add (k * 3)).off + 1, none⟩ = some t.v := hc 1 _ rfl
      have hf2 : wr.cell? ⟨(ad.add (k * 3)).block, (ad.add (k * 3)).off + 2, none⟩ = some (.string t.tag) := hc 2 _ rfl
      obtain ⟨A', cb, hv, _, _⟩ := ht.1.form
      unfold fnOf at HCON
      rw [hv] at HCON hf1
      obtain ⟨bad, hbad⟩ : ∃ bad, bad = bars (xs, p.data.toList) b := ⟨_, rfl⟩
      rw [← hbad] at HCON
      have HBAD := Lib.hid hbad
      generalize fnId t.op = fo at *
      generalize t.tag = tag at *
      generalize t.xs.length = n at *
      clear hbb hkey h7 hc ht hcon hv hbad HF
      cases bad
      · have HN2 := Lib.hid (any_next _ row k b HBK.out HN.out HBAD.out.symm)
        go_wp2_with (go_at_call 108; refine HCON.out.mono ?_; rintro e w2 ⟨rfl, hb2⟩)
        go_roundw
        case rel => exact ⟨k + 1, by omega, by go_num, HN2, Lib.hid (below_step HB.out hb2 HB.out.size)⟩
        case measure => simp [intOf]; omega
      · have HH := Lib.hid (any_hit _ row k b HBK.out HBAD.out.symm)
        go_wp2_with (go_at_call 108; refine HCON.out.mono ?_; rintro e w2 ⟨rfl, hb2⟩)
        go_ret
        exact ⟨k, rfl, by rw [HH.out]; simp, below_step HB.out hb2 HB.out.size⟩
    · have HH := Lib.hid (show row.any (bars (xs, p.data.toList)) = false by have := HN.out; rwa [show k = row.length by omega, List.take_length] at this)
      have hltI : ¬ (k : Int) < (row.length : Int) := by omega
      go_wp2
      go_ret
      exact ⟨-1, rfl, by rw [HH.out]; rfl, HB.out⟩
end Go.Proofs.YtcnedecmmplmoaaGreatDoor

/- What rows of tests allow: allows. -/
namespace Go.Proofs.YtcnedecmmplmoaaGreatDoor
open Go.RowKit Go.BigFrame
open Ver (cmpV BL)

set_option maxRecDepth 100000 in
set_option maxHeartbeats 400000 in
theorem contains_in (u : Value) (row : List Bd) (vx : Value) (xs : List Int) (p : ByteArray) (bv : Nat) (w : World) (hrow : TRow w AllB u row) (hmay : ∀ b ∈ row, mayB b = true) (h0 : w.cell? ⟨bv, 0, none⟩ = some vx) (h1 : w.cell? ⟨bv, 1, none⟩ = some (.string p)) (hx : Reads w w.heap.size vx (ints xs)) (hp : p.size ≤ 1000000) :
    Calls Tryz.prog 111 #[u, .func (.func 108) #[] #[.pointer (some ⟨bv, 0, none⟩)]] w fun e w' => e = .returned (.bool (row.any (bars (xs, p.data.toList)))) ∧ Below w.heap.size w w' := by
  have HC := Lib.hid (index_in u row vx xs p bv w hrow hmay h0 h1 hx hp)
  clear hrow hmay h0 h1 hx hp
  go_enter Tryz.func111, Tryz.ntmps111
  go_wp2_with (go_at_call 130; refine HC.out.mono ?_; rintro e w2 ⟨z, rfl, hz, hb2⟩)
  go_ret
  exact ⟨rfl, hb2⟩
set_option maxRecDepth 100000 in
set_option maxHeartbeats 400000 in
theorem all_in (u : Value) (row : List Bd) (vx : Value) (xs : List Int) (p : ByteArray) (bv bf : Nat) (w : World) (hrow : TRow w AllB u row) (hmay : ∀ b ∈ row, mayB b = true) (h0 : w.cell? ⟨bv, 0, none⟩ = some vx) (h1 : w.cell? ⟨bv, 1, none⟩ = some (.string p)) (hf : w.cell? ⟨bf, 0, none⟩ = some (.func (.func 108) #[] #[.pointer (some ⟨bv, 0, none⟩)])) (hx : Reads w w.heap.size vx (ints xs)) (hp : p.size ≤ 1000000) :
    Calls Tryz.prog 110 #[u, .pointer (some ⟨bf, 0, none⟩)] w fun e w' => e = .returned (.bool (!row.any (bars (xs, p.data.toList)))) ∧ Below w.heap.size w w' := by
  have HC := Lib.hid (contains_in u row vx xs p bv w hrow hmay h0 h1 hx hp)
  clear hrow hmay h0 h1 hx hp
  go_enter Tryz.func110, Tryz.ntmps110
  go_wp2_with (go_at_call 111; refine HC.out.mono ?_; rintro e w2 ⟨rfl, hb2⟩)
  go_ret
  exact ⟨rfl, hb2⟩
def rowAll (v : VV) (row : List Bd) : Bool := !row.any (bars v)
set_option maxRecDepth 100000 in
set_option maxHeartbeats 1000000 in
theorem index_out (u : Value) (r : List (List Bd)) (vx : Value) (xs : List Int) (p : ByteArray) (bv bf : Nat) (w : World) (hr : OutS TRow w AllB u r) (hmay : ∀ row ∈ r, ∀ b ∈ row, mayB b = true) (h0 : w.cell? ⟨bv, 0, none⟩ = some vx) (h1 : w.cell? ⟨bv, 1, none⟩ = some (.string p)) (hf : w.cell? ⟨bf, 0, none⟩ = some (.func (.func 108) #[] #[.pointer (some ⟨bv, 0, none⟩)])) (hx : Reads w w.heap.size vx (ints xs)) (hp : p.size ≤ 1000000) :
    Calls Tryz.prog 129 #[u, .func (.func 110) #[] #[.pointer (some ⟨bf, 0, none⟩)]] w fun e w' => ∃ z : Int, e = .returned (.int .i64 z) ∧ decide (z ≥ 0) = r.any (rowAll (xs, p.data.toList)) ∧ Below w.heap.size w w' := by
  obtain ⟨A, cap, rfl, hcl, hcm⟩ := hr.form
  have HR := Lib.hid hr
  have HMAY := Lib.hid hmay
  have HX := Lib.hid hx
  have hb := block_lt_of_cell h0
  have hbf := block_lt_of_cell hf
  have H0 := Lib.hid h0
  have H1 := Lib.hid h1
  have H2 := Lib.hid hf
  clear hr hmay hx h0 h1 hf
  unfold maxLen at hcm
  go_enter Tryz.func129, Tryz.ntmps129
  go_wp2
  go_loopw [8] (fun i wr => ∃ (k : Nat), k ≤ r.length ∧ i = .int .i64 (k : Int) ∧ Hid ((r.take k).any (rowAll (xs, p.data.toList)) = false) ∧ Hid (Below w.heap.size w wr)) (fun i _ => r.length - (intOf i).toNat)
  case atStart => exact ⟨0, by omega, rfl, Lib.hid rfl, Lib.hid (Below.refl _ _)⟩
  case round =>
    obtain ⟨k, hk, rfl, HN, HB⟩ := hrel
    by_cases hlt : k < r.length
    · have hltI : (k : Int) < (r.length : Int) := by omega
      have hk0 : (0 : Int) ≤ (k : Int) := by omega
      obtain ⟨ad, u1, rfl, hc, ht⟩ := (OutS.below TRow.keeps HR.out HB.out).get k hlt
      obtain ⟨row, hbb⟩ : ∃ row, row = r.getD k default := ⟨_, rfl⟩
      rw [← hbb] at ht
      have HBK := Lib.hid (show r[k]? = some row by rw [hbb]; exact getD_get r k _ hlt)
      have HMB := Lib.hid (HMAY.out row (List.mem_of_getElem? HBK.out))
      have hcon := all_in u1 row vx xs p bv bf wr ht HMB.out ((HB.out.cell hb).trans H0.out) ((HB.out.cell (p := ⟨bv, 1, none⟩) (by exact hb)).trans H1.out) ((HB.out.cell hbf).trans H2.out) ((HX.out.below HB.out).more HB.out.size) hp
      rw [show (!row.any (bars (xs, p.data.toList))) = rowAll (xs, p.data.toList) row from rfl] at hcon
      obtain ⟨ts, hts, _⟩ := ht
      obtain ⟨A2, cap2, rfl, _, _⟩ := hts.form
      have HCON := Lib.hid hcon
      obtain ⟨ok, hok⟩ : ∃ ok, ok = rowAll (xs, p.data.toList) row := ⟨_, rfl⟩
      rw [← hok] at HCON
      have HOK := Lib.hid hok
      clear hbb hcon hok hts
      cases ok
      · have HN2 := Lib.hid (any_next _ r k row HBK.out HN.out HOK.out.symm)
        go_wp2_with (go_at_call 110; refine HCON.out.mono ?_; rintro e w2 ⟨rfl, hb2⟩)
        go_roundw
        case rel => exact ⟨k + 1, by omega, by go_num, HN2, Lib.hid (below_step HB.out hb2 HB.out.size)⟩
        case measure => simp [intOf]; omega
      · have HH := Lib.hid (any_hit _ r k row HBK.out HOK.out.symm)
        go_wp2_with (go_at_call 110; refine HCON.out.mono ?_; rintro e w2 ⟨rfl, hb2⟩)
        go_ret
        exact ⟨k, rfl, by rw [HH.out]; simp, below_step HB.out hb2 HB.out.size⟩
    · have HH := Lib.hid (show r.any (rowAll (xs, p.data.toList)) = false by have := HN.out; rwa [show k = r.length by omega, List.take_length] at this)
      have hltI : ¬ (k : Int) < (r.length : Int) := by omega
      go_wp2
      go_ret
      exact ⟨-1, rfl, by rw [HH.out]; rfl, HB.out⟩
set_option maxRecDepth 100000 in
set_option maxHeartbeats 400000 in
theorem contains_out (u : Value) (r : List (List Bd)) (vx : Value) (xs : List Int) (p : ByteArray) (bv bf : Nat) (w : World) (hr : OutS TRow w AllB u r) (hmay : ∀ row ∈ r, ∀ b ∈ row, mayB b = true) (h0 : w.cell? ⟨bv, 0, none⟩ = some vx) (h1 : w.cell? ⟨bv, 1, none⟩ = some (.string p)) (hf : w.cell? ⟨bf, 0, none⟩ = some (.func (.func 108) #[] #[.pointer (some ⟨bv, 0, none⟩)])) (hx : Reads w w.heap.size vx (ints xs)) (hp : p.size ≤ 1000000) :
    Calls Tryz.prog 109 #[u, .func (.func 110) #[] #[.pointer (some ⟨bf, 0, none⟩)]] w fun e w' => e = .returned (.bool (r.any (rowAll (xs, p.data.toList)))) ∧ Below w.heap.size w w' := by
  have HC := Lib.hid (index_out u r vx xs p bv bf w hr hmay h0 h1 hf hx hp)
  clear hr hmay h0 h1 hf hx hp
  go_enter Tryz.func109, Tryz.ntmps109
  go_wp2_with (go_at_call 129; refine HC.out.mono ?_; rintro e w2 ⟨z, rfl, hz, hb2⟩)
  go_ret
  exact ⟨rfl, hb2⟩
def allowsB (r : List (List Bd)) (s : ByteArray) : Bool := okS s && (decide (r.length = 0) || r.any (rowAll (verOf s)))
theorem may_all (r : List (List Bd)) (h : mayR r = true) : ∀ row ∈ r, ∀ b ∈ row, mayB b = true := by
  intro row hr b hb
  unfold mayR at h
  simp only [Bool.and_eq_true] at h
  have h2 := List.all_eq_true.1 h.2 row hr
  unfold mayRow at h2
  simp only [Bool.and_eq_true] at h2
  exact List.all_eq_true.1 h2.2 b hb
set_option maxRecDepth 100000 in
set_option maxHeartbeats 1000000 in
theorem allows_any (r : List (List Bd)) (u : Value) (s : ByteArray) (w : World) (hu : OutS TRow w AllB u r) (hmay : mayR r = true) (hs : s.size ≤ 1000000) :
    Calls Tryz.prog 84 #[u, .string s] w fun e w' => e = .returned (.bool (allowsB r s)) ∧ Below w.heap.size w w' := by
  obtain ⟨A, cap, rfl, hcl, hcm⟩ := hu.form
  have HU := Lib.hid hu
  have HM := Lib.hid (may_all r hmay)
  clear hu hmay
  unfold maxLen at hcm
  cases ho : okS s
  · have HO := Lib.hid ho
    have HF := Lib.hid (show allowsB r s = false by unfold allowsB; rw [ho, Bool.false_and])
    clear ho
    go_enter Tryz.func84, Tryz.ntmps84
    go_wp2_with fail
    refine (parse_no s _ hs HO.out).mono ?_
    rintro e w1 ⟨rfl, hb1⟩
    go_wp2
    go_ret
    exact ⟨ret_bool HF.out.symm, hb1.alloc hb1.size _⟩
  · have HO := Lib.hid ho
    have HF := Lib.hid (show allowsB r s = (decide (r.length = 0) || r.any (rowAll (verOf s))) by unfold allowsB; rw [ho, Bool.true_and])
    clear ho
    go_enter Tryz.func84, Tryz.ntmps84
    go_wp2_with fail
    refine (parse_yes s _ hs HO.out).mono ?_
    rintro e w1 ⟨v, t, rfl, hR, htl, htz, hb1, ⟨A', n', cap', rfl, _⟩⟩
    have HT := Lib.hid htl
    have HR := Lib.hid hR
    clear htl hR
    go_upto_region 2 with (fail)
    obtain ⟨W2, hW2, hg2, hq2, hz2, hB2⟩ := row_at w w1 (.cells #[.slice A' n' cap', .string t] 101) hb1
    rw [← hW2]
    have HQ2 := Lib.hid hq2
    have HG2 := Lib.hid hg2
    clear hW2 hg2 hq2 hz2
    go_upto_region 5 with (fail)
    obtain ⟨W3, hW3, hg3, hq3, hz3, hB3⟩ := row_at w W2 (.cells #[.func (.func 108) #[] #[.pointer (some ⟨w1.heap.size, 0, none⟩)]] 154) hB2
    rw [← hW3]
    have hl1 := block_lt HG2.out
    obtain ⟨hc0, hc1, _, _⟩ := cell_two ((hq3.block w1.heap.size hl1).trans HG2.out)
    have hf : W3.cell? ⟨W2.heap.size, 0, none⟩ = some (.func (.func 108) #[] #[.pointer (some ⟨w1.heap.size, 0, none⟩)]) := by rw [cell_of_row _ _ _ _ _ _ hg3]; rfl
    have HR3 := Lib.hid ((((HR.out.below HQ2.out).more HQ2.out.size).below hq3).more hq3.size)
    have HU3 := Lib.hid (((HU.out.below TRow.keeps hb1).below TRow.keeps HQ2.out).below TRow.keeps hq3)
    have HB3 := Lib.hid hB3
    have HCON := Lib.hid (contains_out _ r _ _ t w1.heap.size W2.heap.size W3 HU3.out HM.out hc0 hc1 hf HR3.out (by omega))
    rw [show ((verOf s).1, t.data.toList) = verOf s by rw [HT.out]] at HCON
    clear hW3 hg3 hq3 hz3 hB2 hB3 hc0 hc1 hf
    by_cases h0 : r.length = 0
    · have h0I : ((r.length : Int) == 0) = true := by rw [h0]; rfl
      have HF2 := Lib.hid (show allowsB r s = true by rw [HF.out, decide_eq_true h0, Bool.true_or])
      go_wp2
      go_ret
      exact ⟨ret_bool HF2.out.symm, HB3.out⟩
    · have h0I : ((r.length : Int) == 0) = false := by rw [beq_eq_false_iff_ne]; omega
      have HF2 := Lib.hid (show allowsB r s = r.any (rowAll (verOf s)) by rw [HF.out, decide_eq_false h0, Bool.false_or])
      go_wp2_with (go_at_call 109; refine HCON.out.mono ?_; rintro e w4 ⟨rfl, hb4⟩)
      go_ret
      exact ⟨ret_bool HF2.out.symm, below_step HB3.out hb4 HB3.out.size⟩
end Go.Proofs.YtcnedecmmplmoaaGreatDoor
