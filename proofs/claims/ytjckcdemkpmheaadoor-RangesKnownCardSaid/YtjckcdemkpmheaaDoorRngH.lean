/- What a row of tests allows: allows$1, and the library's search with it. -/
import Derived.Test.YtjckcdemkpmheaaDoorRngG
namespace Go.Proofs.YtjckcdemkpmheaaDoor
open Go.RowKit Go.BigFrame
open Ver (cmpV BL)

theorem fn_enters (o : Nat) (h : o ≤ 7) : ∀ args w, (callFunc (fnId o) args).run Tryd.prog w = .ok (.enter (fnId o) args) w := by
  rcases op_cases o h with rfl | rfl | rfl | rfl | rfl | rfl | rfl | rfl
  · exact enters_of Tryd.func63 (by kernel_rfl) rfl
  · exact enters_of Tryd.func64 (by kernel_rfl) rfl
  · exact enters_of Tryd.func65 (by kernel_rfl) rfl
  · exact enters_of Tryd.func66 (by kernel_rfl) rfl
  · exact enters_of Tryd.func67 (by kernel_rfl) rfl
  · exact enters_of Tryd.func68 (by kernel_rfl) rfl
  · exact enters_of Tryd.func69 (by kernel_rfl) rfl
  · exact enters_of Tryd.func70 (by kernel_rfl) rfl
set_option maxRecDepth 100000 in
set_option maxHeartbeats 1000000 in
theorem fails_any (t : Tst) (vx : Value) (xs : List Int) (p : ByteArray) (bv : Nat) (w : World) (ht : TOk w AllB t) (h7 : t.op = 7 → 1 ≤ t.xs.length) (h0 : w.cell? ⟨bv, 0, none⟩ = some vx) (h1 : w.cell? ⟨bv, 1, none⟩ = some (.string p)) (hx : Reads w w.heap.size vx (ints xs)) (hp : p.size ≤ 1000000) :
    Calls Tryd.prog 45 #[.agg #[fnOf t.op, t.v, .string t.tag], .pointer (some ⟨bv, 0, none⟩)] w fun e w' => e = .returned (.bool (!opV t.op (xs, p.data.toList) (t.xs, t.tag.data.toList))) ∧ Below w.heap.size w w' := by
  obtain ⟨hr, hz, ho⟩ := ht
  obtain ⟨o, v, ys, tag⟩ := t
  dsimp only at *
  obtain ⟨A, ca, rfl⟩ := hx.form
  obtain ⟨A', cb, rfl, _, _⟩ := hr.form
  obtain ⟨fo, hfo⟩ : ∃ fo, fo = fnId o := ⟨_, rfl⟩
  have hb := block_lt_of_cell h0
  have HX := Lib.hid hx
  have HR := Lib.hid (show Reads w w.heap.size (.slice A' ys.length cb) (ints ys) from RdS.reads (S := AllB) (by rw [ints_len]; exact hr))
  have HK := Lib.hid (kind_any o ho)
  rw [← hfo] at HK
  have hent := fn_enters o ho
  rw [← hfo] at hent
  rw [show fnOf o = .func (.func fo) #[] #[] by rw [hfo]; rfl]
  clear hx hr hfo
  go_enter Tryd.func45, Tryd.ntmps45
  go_upto_region 1 with (fail)
  obtain ⟨W1, hW1, hg1, hq1, hz1, hB1⟩ := row_at w w (.cells #[.func (.func fo) #[] #[], .slice A' ys.length cb, .string tag] 79) (Below.refl _ _)
  rw [← hW1]
  have hc0 : W1.cell? ⟨bv, 0, none⟩ = some (.slice A xs.length ca) := (hq1.cell hb).trans h0
  have hc1 : W1.cell? ⟨bv, 1, none⟩ = some (.string p) := (hq1.cell (p := ⟨bv, 1, none⟩) (by exact hb)).trans h1
  have hd0 : W1.cell? ⟨w.heap.size, 0, none⟩ = some (.func (.func fo) #[] #[]) := by rw [cell_of_row _ _ _ _ _ _ hg1]; rfl
  have hd1 : W1.cell? ⟨w.heap.size, 1, none⟩ = some (.slice A' ys.length cb) := by rw [cell_of_row _ _ _ _ _ _ hg1]; rfl
  have hd2 : W1.cell? ⟨w.heap.size, 2, none⟩ = some (.string tag) := by rw [cell_of_row _ _ _ _ _ _ hg1]; rfl
  have HX1 := Lib.hid ((HX.out.below hq1).more hq1.size)
  have HR1 := Lib.hid ((HR.out.below hq1).more hq1.size)
  have HB1 := Lib.hid hB1
  clear hW1 hg1 hq1 hz1 hB1 h0 h1
  go_wp2_with fail
  refine (HK.out _ _ xs ys p tag _ HX1.out HR1.out h7 hp (by omega)).mono ?_
  rintro e w2 ⟨rfl, hb2⟩
  go_wp2
  go_ret
  exact ⟨rfl, below_step HB1.out hb2 HB1.out.size⟩
theorem TRow.get {w : World} {S : Nat → Prop} {A : Option Addr} {n cap : Nat} {row : List Bd} (h : TRow w S (.slice A n cap) row) (k : Nat) (hk : k < row.length) :
    ∃ ad t, A = some ad ∧ (∀ j u, t.enc[j]? = some u → w.cell? ((ad.add (k * 3)).add j) = some u) ∧ TOk w S t ∧ t.key = keyB (row.getD k default) := by
  obtain ⟨ts, ⟨A', cap', e, h1, h2, h3, h4⟩, hts, hkey⟩ := h
  cases e
  obtain ⟨ad, rfl, _, _, hc⟩ := h4 (by omega)
  have hl : ts.length = row.length := by have := congrArg List.length hkey; simpa using this
  have hkt : k < ts.length := by omega
  refine ⟨ad, ts[k], rfl, fun j u hu => ?_, hts _ (List.getElem_mem hkt), ?_⟩
  · rw [add_add]
    have hj : j < 3 := by have := (List.getElem?_eq_some_iff.1 hu).1; simpa [Tst.enc] using this
    refine hc _ _ ?_
    unfold tstCells
    rw [flat_get Tst.enc 3 (fun _ => rfl) ts k j ts[k] (List.getElem?_eq_getElem hkt) hj, hu]
  · have h5 : (ts.map Tst.key)[k]? = (row.map keyB)[k]? := by rw [hkey]
    simp [hkt, hk] at h5
    rw [h5]; simp [hk]
theorem may_seven (b : Bd) (h : mayB b = true) (h7 : b.1 = 7) : 1 ≤ (verOf b.2).1.length := by
  obtain ⟨o, v⟩ := b
  dsimp only at h7
  subst h7
  rw [mayB_pos 7 v (by decide)] at h
  have ho : okS v = true := by simpa using h
  unfold okS at ho
  obtain ⟨u, hu⟩ := Option.isSome_iff_exists.1 ho
  unfold verOf
  rw [hu]
  have := (Ver.prs_some _ _ _ hu).2
  simp only [Ver.okV, Bool.and_eq_true, decide_eq_true_eq] at this
  show 1 ≤ (toI u.1).length
  unfold toI
  rw [List.length_map]; omega
/-- Does a bound bar a version? -/
def bars (v : VV) (b : Bd) : Bool := !opV b.1 v (verOf b.2)
theorem any_next {α : Type} (f : α → Bool) (l : List α) (k : Nat) (x : α) (hk : l[k]? = some x) (h : (l.take k).any f = false) (hx : f x = false) : (l.take (k + 1)).any f = false := by
  rw [take_next l k x hk, List.any_append, h, List.any_cons, hx]; rfl
theorem any_hit {α : Type} (f : α → Bool) (l : List α) (k : Nat) (x : α) (hk : l[k]? = some x) (hx : f x = true) : l.any f = true := List.any_eq_true.2 ⟨x, List.mem_of_getElem? hk, hx⟩
set_option maxRecDepth 100000 in
set_option maxHeartbeats 1000000 in
theorem index_in (u : Value) (row : List Bd) (vx : Value) (xs : List Int) (p : ByteArray) (bv : Nat) (w : World) (hrow : TRow w AllB u row) (hmay : ∀ b ∈ row, mayB b = true) (h0 : w.cell? ⟨bv, 0, none⟩ = some vx) (h1 : w.cell? ⟨bv, 1, none⟩ = some (.string p)) (hx : Reads w w.heap.size vx (ints xs)) (hp : p.size ≤ 1000000) :
    Calls Tryd.prog 74 #[u, .func (.func 45) #[] #[.pointer (some ⟨bv, 0, none⟩)]] w fun e w' => ∃ z : Int, e = .returned (.int .i64 z) ∧ decide (z ≥ 0) = row.any (bars (xs, p.data.toList)) ∧ Below w.heap.size w w' := by
  have hform : ∃ A cap, u = .slice A row.length cap ∧ row.length ≤ cap ∧ cap ≤ maxLen := by obtain ⟨ts, h, _⟩ := hrow; exact h.form
  obtain ⟨A, cap, rfl, hcl, hcm⟩ := hform
  have HROW := Lib.hid hrow
  have HMAY := Lib.hid hmay
  have HX := Lib.hid hx
  have hb := block_lt_of_cell h0
  have H0 := Lib.hid h0
  have H1 := Lib.hid h1
  clear hrow hmay hx h0 h1
  unfold maxLen at hcm
  go_enter Tryd.func74, Tryd.ntmps74
  go_wp2
  go_loopw [8] (fun i wr => ∃ (k : Nat), k ≤ row.length ∧ i = .int .i64 (k : Int) ∧ Hid ((row.take k).any (bars (xs, p.data.toList)) = false) ∧ Hid (Below w.heap.size w wr)) (fun i _ => row.length - (intOf i).toNat)
  case atStart => exact ⟨0, by omega, rfl, Lib.hid rfl, Lib.hid (Below.refl _ _)⟩
  case round =>
    obtain ⟨k, hk, rfl, HN, HB⟩ := hrel
    by_cases hlt : k < row.length
    · have hltI : (k : Int) < (row.length : Int) := by omega
      have hk0 : (0 : Int) ≤ (k : Int) := by omega
      obtain ⟨ad, t, rfl, hc, ht, hkey⟩ := (TRow.keeps.keep HROW.out (SameS.below HB.out AllB)).get k hlt
      obtain ⟨b, hbb⟩ : ∃ b, b = row.getD k default := ⟨_, rfl⟩
      rw [← hbb] at hkey
      have HBK := Lib.hid (show row[k]? = some b by rw [hbb]; exact getD_get row k _ hlt)
      have HMB := Lib.hid (HMAY.out b (List.mem_of_getElem? HBK.out))
      have h7 : t.op = 7 → 1 ≤ t.xs.length := fun e => by
        have e1 : t.op = b.1 := congrArg (·.1) hkey
        have e2 : t.xs = (verOf b.2).1 := congrArg (·.2.1) hkey
        rw [e2]; exact may_seven b HMB.out (e1 ▸ e)
      have HF := Lib.hid (show (!opV t.op (xs, p.data.toList) (t.xs, t.tag.data.toList)) = bars (xs, p.data.toList) b by
        have e1 : t.op = b.1 := congrArg (·.1) hkey
        have e2 : (t.xs, t.tag.data.toList) = verOf b.2 := congrArg (·.2) hkey
        unfold bars; rw [e1, e2])
      have hcon := fails_any t vx xs p bv wr ht h7 ((HB.out.cell hb).trans H0.out) ((HB.out.cell (p := ⟨bv, 1, none⟩) (by exact hb)).trans H1.out) ((HX.out.below HB.out).more HB.out.size) hp
      rw [HF.out] at hcon
      have HCON := Lib.hid hcon
      have hf0 : wr.cell? (ad.add (k * 3)) = some (.func (.func (fnId t.op)) #[] #[]) := by have := hc 0 _ rfl; simpa [add_add, fnOf] using this
      have hf1 : wr.cell? ⟨(ad.add (k * 3)).block, (ad.add (k * 3)).off + 1, none⟩ = some t.v := hc 1 _ rfl
      have hf2 : wr.cell? ⟨(ad.add (k * 3)).block, (ad.add (k * 3)).off + 2, none⟩ = some (.string t.tag) := hc 2 _ rfl
      obtain ⟨A', cb, hv, _, _⟩ := ht.1.form
      unfold fnOf at HCON
      rw [hv] at HCON hf1
      obtain ⟨bad, hbad⟩ : ∃ bad, bad = bars (xs, p.data.toList) b := ⟨_, rfl⟩
      rw [← hbad] at HCON
      have HBAD := Lib.hid hbad
      generalize fnId t.op = fo at *
      generalize t.tag = tag at *
      generalize t.xs.length = n at *
      clear hbb hkey h7 hc ht hcon hv hbad HF
      cases bad
      · have HN2 := Lib.hid (any_next _ row k b HBK.out HN.out HBAD.out.symm)
        go_wp2_with (go_at_call 45; refine HCON.out.mono ?_; rintro e w2 ⟨rfl, hb2⟩)
        go_roundw
        case rel => exact ⟨k + 1, by omega, by go_num, HN2, Lib.hid (below_step HB.out hb2 HB.out.size)⟩
        case measure => simp [intOf]; omega
      · have HH := Lib.hid (any_hit _ row k b HBK.out HBAD.out.symm)
        go_wp2_with (go_at_call 45; refine HCON.out.mono ?_; rintro e w2 ⟨rfl, hb2⟩)
        go_ret
        exact ⟨k, rfl, by rw [HH.out]; simp, below_step HB.out hb2 HB.out.size⟩
    · have HH := Lib.hid (show row.any (bars (xs, p.data.toList)) = false by have := HN.out; rwa [show k = row.length by omega, List.take_length] at this)
      have hltI : ¬ (k : Int) < (row.length : Int) := by omega
      go_wp2
      go_ret
      exact ⟨-1, rfl, by rw [HH.out]; rfl, HB.out⟩
end Go.Proofs.YtjckcdemkpmheaaDoor
