/- disk: the reference's stays and On. -/
import Derived.Test.YtfgbaigpmhnoaaaDskSh
import Derived.Deep.AppendLies
set_option linter.unusedVariables false
set_option linter.unusedSimpArgs false
namespace Go.Proofs.Ytfgbaigpmhnoaaa
open Go.RowKit Go.BigFrame Go.Maps
open Dsk (Fl St Ok get put drop used)

/-- A row of numbers that lies in blocks of a kind. -/
def IntsAt (w : World) (Q : Nat → Prop) (A : Option Addr) (ks : List Int) : Prop := ∀ j, j < ks.length → ∃ ad, A = some ad ∧ Q ad.block ∧ w.cell? (ad.add j) = some (.int .i64 (ks.getD j 0))
theorem IntsAt.ch {w w' : World} {Q M : Nat → Prop} {A : Option Addr} {ks : List Int} (h : IntsAt w Q A ks) (hc : Ch w w' M) (hm : ∀ b, b < w.heap.size → Q b → ¬ M b) : IntsAt w' Q A ks := fun j hj => by
  obtain ⟨ad, e, hq, hcl⟩ := h j hj
  have hb := World.block_lt_of_cell? w _ hcl
  rw [add_block] at hb
  exact ⟨ad, e, hq, hc.cell hcl (by rw [add_block]; exact hm _ hb hq)⟩
theorem IntsAt.below {w w' : World} {Q : Nat → Prop} {A : Option Addr} {ks : List Int} (h : IntsAt w Q A ks) (hb : Below w.heap.size w w') : IntsAt w' Q A ks :=
  h.ch (Ch.of_below hb (fun b => w.heap.size ≤ b) fun _ _ hk => hk) fun b hl _ hM => by omega
set_option maxRecDepth 100000 in
set_option maxHeartbeats 800000 in
theorem rstays_any (w : World) (Q : Nat → Prop) (A : Option Addr) (ks : List Int) (cap i o : Nat) (h : IntsAt w Q A ks) (hk : ks.length ≤ 1000000000) (hi : i ≤ 1000000000) (ho : o ≤ 1000000000) :
    Calls Try.prog 56 #[.slice A ks.length cap, .int .i64 (i : Int), .int .i64 (o : Int)] w (SameR w (.int .i64 (staysN (ks.getD i 0) o : Int))) := by
  have HV := Lib.hid (fun (v : Int) (hv : v = (staysN (ks.getD i 0) o : Int)) => show SameR w (.int .i64 (staysN (ks.getD i 0) o : Int)) (.returned (.int .i64 v)) w from ⟨by rw [hv], rfl⟩)
  generalize SameR w (.int .i64 (staysN (ks.getD i 0) o : Int)) = post at *
  have HI := Lib.hid h
  clear h
  by_cases hlt : i < ks.length
  · obtain ⟨ad, rfl, _, hc⟩ := HI.out i hlt
    obtain ⟨t, ht, hlo, hhi, h1, h2⟩ := stays_if (ks.getD i 0) o
    have HT := Lib.hid (And.intro h1 h2)
    have hz : ((o : Int) + 1 == 0) = false := by simp; omega
    generalize ks.getD i 0 = k at *
    generalize hKL : ks.length = kl at *
    clear h1 h2
    by_cases hneg : t < 0
    · have HQ := Lib.hid (HV.out (t + (o : Int) + 1) (by have := HT.out.2 hneg; omega))
      clear HV HT
      go_enter Try.func56, Try.ntmps56
      go_wp2
      exact HQ.out
    · have HQ := Lib.hid (HV.out t (by have := HT.out.1 (by omega); omega))
      clear HV HT
      go_enter Try.func56, Try.ntmps56
      go_wp2
      exact HQ.out
  · have hz : ks.getD i 0 = 0 := by rw [List.getD_eq_getElem?_getD, List.getElem?_eq_none (by omega)]; rfl
    have HQ := Lib.hid (HV.out 0 (by rw [hz]; unfold staysN; simp))
    generalize hKL : ks.length = kl at *
    clear HV hz
    go_enter Try.func56, Try.ntmps56
    go_wp2
    exact HQ.out
theorem RefIn.turn {w w' : World} {base rb : Nat} {P : Nat → Prop} {fv : Value} {iv iv' : Int} {es : List En} {S S' : St} (h : RefIn w base P rb fv iv es S) (hc : Ch w w' (fun b => b = rb))
    (hb : w'.heap[rb]? = some (.cells #[fv, .int .i64 S'.quota, .int .i64 (S'.steps : Int), .bool S'.armed.isSome, .int .i64 iv', .bool S'.off] 61 (0, 0))) (hfs : S'.fs = S.fs) (ha : ∀ k, S'.armed = some k → iv' = (k : Int)) : RefIn w' base P rb fv iv' es S' :=
  ⟨h.low, hb, hc.own h.own fun b hb => (h.ownp b hb).2, h.ownp, fun e he => (h.rows e he).ch hc fun b _ hq => hq.2, by rw [hfs]; exact h.fs, ha⟩
theorem recAll_take (ks : List Int) (fs : Dsk.FS) (i : Nat) (h : i < fs.length) : recAll ks 0 (fs.take (i + 1)) = recAll ks 0 (fs.take i) ++ (if (recF fs[i].2 (ks.getD i 0)).sure = 0 ∧ fs[i].2.ever = false then [] else [(fs[i].1, recF fs[i].2 (ks.getD i 0))]) := by
  have e : fs.take (i + 1) = fs.take i ++ [(fs[i].1, fs[i].2)] := by rw [List.take_succ_eq_append_getElem h]
  rw [e, recAll_snoc, List.length_take, Nat.min_eq_left (by omega), Nat.zero_add]
set_option maxRecDepth 100000 in
set_option maxHeartbeats 8000000 in
theorem ron_any {w : World} {base rb : Nat} {P : Nat → Prop} {S : St} (h : RefAt w base P rb S) (hok : Ok S) (A : Option Addr) (ks : List Int) (kc : Nat) (hk : IntsAt w (fun b => b ≠ rb) A ks) (hkl : ks.length ≤ 1000000000) (hP : ∀ b, w.heap.size ≤ b → P b) :
    Calls Try.prog 36 #[.pointer (some ⟨rb, 0, none⟩), .slice A ks.length kc] w (RDone w base P rb (onS S ks) (.tuple #[])) := by
  obtain ⟨i0, hi, hz0, hz1, hz2⟩ := info_parts infoFile
  have HI := Lib.hid (And.intro hi (And.intro hz0 (And.intro hz1 hz2)))
  clear hi hz0 hz1 hz2
  obtain ⟨fv, iv, es, h⟩ := h
  have f3 := h.free 3
  have f5 := h.free 5
  obtain ⟨_, _, _, c3, _, c5⟩ := h.cells
  have hc3 : Ch w (w.setCell ⟨rb, 3, none⟩ (.bool false)) (fun b => b = rb) := (Ch.refl w (fun b => b = rb)).setCell (p := ⟨rb, 3, none⟩) rfl _
  have hb3 := h.set 3 (.bool false)
  cases hoff : S.off with
  | false =>
    rw [hoff] at c5
    have HQ := Lib.hid (show RDone w base P rb (onS S ks) (.tuple #[]) (.returned (.tuple #[])) (w.setCell ⟨rb, 3, none⟩ (.bool false)) from
      ⟨rfl, by unfold onS; rw [if_neg (by rw [hoff]; simp)]; exact h.flip hc3 (iv' := iv) (by rw [hb3]; rfl) rfl (fun k e => by cases e)⟩)
    generalize RDone w base P rb (onS S ks) (.tuple #[]) = post at *
    clear h hok hk hP hoff hc3 hb3
    go_enter Try.func36, Try.ntmps36
    go_wp2
    go_end0
    exact HQ.out
  | true =>
    rw [hoff] at c5
    obtain ⟨W1, hW1⟩ : ∃ W1, W1 = (w.setCell ⟨rb, 3, none⟩ (.bool false)).setCell ⟨rb, 5, none⟩ (.bool false) := ⟨_, rfl⟩
    have hc1 : Ch w W1 (fun b => b = rb) := by rw [hW1]; exact hc3.setCell (p := ⟨rb, 5, none⟩) rfl _
    have h1 : RefIn W1 base P rb fv iv es { S with armed := none, off := false } := h.turn hc1 (by rw [hW1, blk_set hb3 5 (.bool false)]; rfl) rfl (fun k e => by cases e)
    have hk1 := hk.ch hc1 (fun b _ hq => hq)
    have hz1 : W1.heap.size = w.heap.size := by rw [hW1]; simp
    have hfs := h1.fs
    obtain ⟨fs, hfsn⟩ : ∃ fs, fs = S.fs := ⟨_, rfl⟩
    have hfs : fsOf es = fs := by rw [hfsn]; exact hfs
    have hesl : es.length ≤ 1000000000 := by have := Nat.le_trans hok.few hok.low; rw [← hfsn, ← hfs, fsOf_len] at this; exact this
    have HFS := Lib.hid hfs
    have HFIN := Lib.hid (fun (wr : World) (lv : Value) (es' : List En) (hm : MoreE W1 wr (fun b => P b ∧ b ≠ rb) W1 lv es') (he : fsOf es' = recAll ks 0 fs) => show RDone w base P rb (onS S ks) (.tuple #[]) (.returned (.tuple #[])) (wr.setCell ⟨rb, 0, none⟩ lv) from
      ⟨rfl, by unfold onS; rw [if_pos hoff, ← hfsn, ← he]; have hl := h1.files hm.below hm.own hm.rows (fun b hb => hP b (by omega)) rfl; exact ⟨hl.ref, hc1.trans hl.ch (fun _ _ hk => hk)⟩⟩)
    generalize RDone w base P rb (onS S ks) (.tuple #[]) = post at *
    have HFL := Lib.hid (fun (i : Nat) (hi : i < es.length) => show es[i].f.sure ≤ es[i].f.b.length ∧ es[i].f.b.length ≤ 8388608 from by
      have := hok.file es[i].s es[i].f (Dsk.mem_get hok.sorted (by rw [← hfsn, ← hfs]; unfold fsOf; exact List.mem_map.2 ⟨es[i], List.getElem_mem _, rfl⟩))
      exact ⟨this.1, this.2.2.1⟩)
    obtain ⟨Af, cap, hfv, hlc, hcm⟩ := h1.row.slice
    subst hfv
    have HROW := Lib.hid h1.row
    have HRB := Lib.hid (And.intro h1.lt (And.intro h1.cells.1 (h1.free 0)))
    have HRS := Lib.hid h1.rows
    have HK := Lib.hid hk1
    unfold maxLen at hcm
    have hcs : es.length ≤ cap := hlc
    have k5 : (w.setCell ⟨rb, 3, none⟩ (.bool false)).cell? ⟨rb, 5, none⟩ = some (.bool true) := by rw [blk_cell hb3]; simp [hoff]
    have kf5 : (w.setCell ⟨rb, 3, none⟩ (.bool false)).frozen? ⟨rb, 5, none⟩ = false := blk_free hb3 5
    clear h h1 hok hk hk1 hP hoff hc3 hb3 hc1 hz1 hfs hfsn
    go_enter Try.func36, Try.ntmps36
    go_upto_region 3 with (fail)
    rw [← hW1]
    clear hW1 k5 kf5 f3 f5 c3 c5
    go_wp2
    go_loopw [4, 5, 6, 7] (fun lv iv _ _ wr => ∃ (i : Nat) (es' : List En), iv = .int .i64 (i : Int) ∧ i ≤ es.length ∧ es'.length ≤ i ∧ Hid (fsOf es' = recAll ks 0 (fs.take i)) ∧ Hid (MoreE W1 wr (fun b => P b ∧ b ≠ rb) W1 lv es')) (fun _ iv _ _ _ => es.length - (intOf iv).toNat)
    case atStart => exact ⟨0, [], rfl, by omega, by simp, Lib.hid (by simp [fsOf, recAll]), Lib.hid ⟨World.ownsRow_nil _ _ _ _, Below.refl _ _, fun e he => by simp at he⟩⟩
    case round =>
      obtain ⟨i, es', rfl, hi, hel, HP, HM⟩ := hrel
      obtain ⟨A', cap', rfl⟩ := own_sl4 HM.out.own
      have hwz := HM.out.below.size
      by_cases hlt : i < es.length
      · obtain ⟨ad, rfl, g0, g1, g2, g3⟩ := (HROW.out.below HM.out.below).cells hlt
        have c0 : wr.cell? ⟨rb, 0, none⟩ = some (.slice (some ad) es.length cap) := (HM.out.below.cell (p := ⟨rb, 0, none⟩) HRB.out.1).trans HRB.out.2.1
        have hpi : i < fs.length := by rw [← HFS.out, fsOf_len]; exact hlt
        have hfi : fs[i] = (es[i].s, es[i].f) := by simp only [← HFS.out]; exact fsOf_get es i hlt
        obtain ⟨Ae, ce, hve, hcl, hcx⟩ := (HRS.out es[i] (List.getElem_mem _)).slice
        rw [hve] at g1
        have HBE := Lib.hid (show BAt W1 (fun b => P b ∧ b ≠ rb) (.slice Ae es[i].f.b.length ce) es[i].f.b from by rw [← hve]; exact HRS.out es[i] (List.getElem_mem _))
        have HST := Lib.hid (recAll_take ks fs i hpi)
        obtain ⟨hf1, hf2⟩ := HFL.out i hlt
        rw [hfi] at HST
        obtain ⟨s, hs⟩ : ∃ s, s = es[i].s := ⟨_, rfl⟩
        obtain ⟨f, hf⟩ : ∃ f, f = es[i].f := ⟨_, rfl⟩
        rw [← hs, ← hf] at HST
        rw [← hs] at g0
        rw [← hf] at g1 g2 g3 hf1 hf2 HBE hcl
        clear hs hf hve hfi
        obtain ⟨o, ho⟩ : ∃ o, o = f.b.length - f.sure := ⟨_, rfl⟩
        obtain ⟨st, hst⟩ : ∃ st, st = staysN (ks.getD i 0) o := ⟨_, rfl⟩
        have hsto : st ≤ o := by rw [hst]; exact staysN_le _ _
        have HRF := Lib.hid (show recF f (ks.getD i 0) = ⟨f.b.take (f.sure + st), f.sure + st, true⟩ from by unfold recF; rw [← ho, ← hst])
        obtain ⟨W2, hW2⟩ : ∃ W2, W2 = wr.alloc (.cells #[.string s, .slice Ae f.b.length ce, .int .i64 (f.sure : Int), .bool f.ever] 66) := ⟨_, rfl⟩
        have hb2 : Below wr.heap.size wr W2 := by rw [hW2]; exact (Below.refl _ _).alloc (Nat.le_refl _) _
        have hbx : W2.heap[wr.heap.size]? = some (.cells #[.string s, .slice Ae f.b.length ce, .int .i64 (f.sure : Int), .bool f.ever] 66 (0, 0)) := by rw [hW2]; exact heap_alloc_new wr _
        have HSTAY := Lib.hid (fun q : Nat => (rstays_any (W2.drewN q) (fun b => b ≠ rb) A ks kc i o ((((HK.out.ch (Ch.of_below HM.out.below (fun b => W1.heap.size ≤ b) (fun _ _ hk => hk)) (fun b hl _ hM => by omega)).below hb2)).below (below_drewN (Below.refl _ _) q)) hkl (by omega) (by omega)).mono fun (e : Ending) w' ⟨h1, h2⟩ => (⟨h1, h2.symm⟩ : e = Ending.returned (.int .i64 (staysN (ks.getD i 0) o : Int)) ∧ w' = W2.drewN q))
        rw [← hst] at HSTAY
        have x0 : W2.cell? ⟨wr.heap.size, 0, none⟩ = some (.string s) := by rw [blk_cell hbx]; rfl
        have x1 : W2.cell? ⟨wr.heap.size, 1, none⟩ = some (.slice Ae f.b.length ce) := by rw [blk_cell hbx]; rfl
        have x2 : W2.cell? ⟨wr.heap.size, 2, none⟩ = some (.int .i64 (f.sure : Int)) := by rw [blk_cell hbx]; rfl
        have x3 : W2.cell? ⟨wr.heap.size, 3, none⟩ = some (.bool f.ever) := by rw [blk_cell hbx]; rfl
        have hsub : IntKind.i64.wrap ((f.b.length : Int) - (f.sure : Int)) = (o : Int) := by rw [IntWalk.i64_in _ (by omega)]; omega
        obtain ⟨q, hq⟩ : ∃ q, q = f.sure + st := ⟨_, rfl⟩
        have hsum : IntKind.i64.wrap ((f.sure : Int) + (st : Int)) = (q : Int) := by rw [IntWalk.i64_in _ (by omega)]; omega
        rw [← hq] at HRF
        have hqb : q ≤ f.b.length := by omega
        have HB2 := Lib.hid hb2
        have HW2 := Lib.hid hW2
        clear hst ho hq hb2 hbx
        go_upto_region 8 with (fail)
        rw [← hW2]
        clear hW2
        go_quiet ((go_at_call 56; exact Calls.quiet_of_same (HSTAY.out _)))
        generalize hW3 : W2.drewN nq = W3
        have hc3 : Ch W2 W3 (fun _ => False) := hW3 ▸ (Ch.refl W2 _).drewN nq
        replace x0 := hc3.cell x0 (fun h => h)
        replace x1 := hc3.cell x1 (fun h => h)
        replace x3 := hc3.cell x3 (fun h => h)
        have HB3 := Lib.hid (show Below W1.heap.size W1 W3 from (HM.out.below.trans (HB2.out.mono hwz)).trans (hc3.below (by have := HB2.out.size; omega) (fun _ h => h.elim)))
        have HO3 := Lib.hid (show W3.ownsRow W1.heap.size 66 4 (.slice A' es'.length cap') es'.length (enCells es') from hc3.own ((Ch.of_below HB2.out (fun b => wr.heap.size ≤ b) (fun _ _ hk => hk)).own HM.out.own (fun b hb hM => by have := (HM.out.own.lt b hb).2; omega)) (fun _ _ h => h))
        have hz3 := HB3.out.size
        clear hW3 hc3 x2 g0 g1 g2 g3 c0 HSTAY HW2 hsub hsum
        by_cases hgone : q = 0 ∧ f.ever = false
        · obtain ⟨hq0, hev⟩ := hgone
          have HP1 := Lib.hid (show fsOf es' = recAll ks 0 (fs.take (i + 1)) from by
            rw [HST.out, HRF.out, if_pos ⟨hq0, hev⟩, List.append_nil]; exact HP.out)
          have HM1 := Lib.hid (show MoreE W1 W3 (fun b => P b ∧ b ≠ rb) W1 (.slice A' es'.length cap') es' from ⟨HO3.out, HB3.out, HM.out.rows⟩)
          rw [hev] at x3
          subst hq0
          clear hev HP HM HO3 HB3 HST HRF HB2
          go_wp2
          go_roundw
          case rel => exact ⟨i + 1, es', by go_num, by omega, by omega, HP1, HM1⟩
          case measure => simp [intOf]; omega
        · have hif : (0 : Int) ≤ (q : Int) ∧ (q : Int) ≤ (ce : Int) := by omega
          have hadd : (⟨s, ⟨f.b.take q, q, true⟩, .slice Ae q ce⟩ : En).cells = [.string s, .slice Ae q ce, .int .i64 (q : Int), .bool true] := rfl
          have HP1 := Lib.hid (show fsOf (es' ++ [(⟨s, ⟨f.b.take q, q, true⟩, .slice Ae q ce⟩ : En)]) = recAll ks 0 (fs.take (i + 1)) from by
            rw [HST.out, HRF.out, if_neg hgone, fsOf_snoc, HP.out])
          have HCUT := Lib.hid (HBE.out.cut q hqb)
          have HCE := Lib.hid hadd
          have HMM := Lib.hid HM.out
          have hcase : 0 < q ∨ f.ever = true := by
            by_cases h0 : 0 < q
            · exact .inl h0
            · cases he : f.ever with
              | true => exact .inr rfl
              | false => exact absurd ⟨by omega, he⟩ hgone
          clear hgone hadd HST HRF HB2 HP HM
          rcases hcase with hpos | hev
          · have hd : decide ((0 : Int) < (q : Int)) = true := decide_eq_true (by omega)
            have HOZ := Lib.hid ((HO3.out.alloc (.cells #[.string s, .slice Ae q ce, .int .i64 (q : Int), .bool true] 66)).drew)
            have hnz : ((W3.alloc (.cells #[.string s, .slice Ae q ce, .int .i64 (q : Int), .bool true] 66)).drew).heap[W3.heap.size]? = some (.cells #[.string s, .slice Ae q ce, .int .i64 (q : Int), .bool true] 66) := heap_alloc_new W3 _
            have HNZ := Lib.hid (World.news_of_block hnz)
            have HM4 := Lib.hid (show MoreE W1 W3 (fun b => P b ∧ b ≠ rb) W1 (.slice A' es'.length cap') es' from ⟨HO3.out, HB3.out, HMM.out.rows⟩)
            clear hnz HO3
            go_wp2_with fail
            go_region_law ((refine step_append_lies _ (by rfl) _ _ _ (by rfl) W1.heap.size 66 i0 _ 4 56 Try.underlying59 HI.out.1 HI.out.2.1 HI.out.2.2.1 HI.out.2.2.2 rfl (by omega) (.slice A' es'.length cap') es'.length _ (by rfl) HOZ.out ⟨W3.heap.size, 0, none⟩ 1 1 [.string s, .slice Ae q ce, .int .i64 (q : Int), .bool true] (by rfl) (by rfl) HNZ.out (one_file _ _ _ _ _ _) (by omega) (by unfold maxLen; omega) (by omega) (by simp; omega) (W3.heap.size + 1) (by simp) ?_; intro g2 cap2 w2 ho2 hg2 hat2 hlt2))
            all_goals
              have HM2 := Lib.hid (HM4.out.add ⟨s, ⟨f.b.take q, q, true⟩, .slice Ae q ce⟩ HCUT.out ((HB3.out.alloc HB3.out.size _).drew) (by rw [HCE.out]; exact ho2) hg2)
              clear ho2 hg2 HB3 HM4 HOZ HNZ hat2
              go_wp2
              go_roundw
              case rel => exact ⟨i + 1, es' ++ [⟨s, ⟨f.b.take q, q, true⟩, .slice Ae q ce⟩], by go_num, by omega, by rw [List.length_append]; simp; omega, HP1, HM2⟩
              case measure => simp [intOf]; omega
          · rw [hev] at x3
            have hd0 : (0 : Int) ≤ (q : Int) := by omega
            clear hev
            by_cases hpos : 0 < q
            · have hd : decide ((0 : Int) < (q : Int)) = true := decide_eq_true (by omega)
              have HOZ := Lib.hid ((HO3.out.alloc (.cells #[.string s, .slice Ae q ce, .int .i64 (q : Int), .bool true] 66)).drew)
              have hnz : ((W3.alloc (.cells #[.string s, .slice Ae q ce, .int .i64 (q : Int), .bool true] 66)).drew).heap[W3.heap.size]? = some (.cells #[.string s, .slice Ae q ce, .int .i64 (q : Int), .bool true] 66) := heap_alloc_new W3 _
              have HNZ := Lib.hid (World.news_of_block hnz)
              have HM4 := Lib.hid (show MoreE W1 W3 (fun b => P b ∧ b ≠ rb) W1 (.slice A' es'.length cap') es' from ⟨HO3.out, HB3.out, HMM.out.rows⟩)
              clear hnz HO3
              go_wp2_with fail
              go_region_law ((refine step_append_lies _ (by rfl) _ _ _ (by rfl) W1.heap.size 66 i0 _ 4 56 Try.underlying59 HI.out.1 HI.out.2.1 HI.out.2.2.1 HI.out.2.2.2 rfl (by omega) (.slice A' es'.length cap') es'.length _ (by rfl) HOZ.out ⟨W3.heap.size, 0, none⟩ 1 1 [.string s, .slice Ae q ce, .int .i64 (q : Int), .bool true] (by rfl) (by rfl) HNZ.out (one_file _ _ _ _ _ _) (by omega) (by unfold maxLen; omega) (by omega) (by simp; omega) (W3.heap.size + 1) (by simp) ?_; intro g2 cap2 w2 ho2 hg2 hat2 hlt2))
              all_goals
                have HM2 := Lib.hid (HM4.out.add ⟨s, ⟨f.b.take q, q, true⟩, .slice Ae q ce⟩ HCUT.out ((HB3.out.alloc HB3.out.size _).drew) (by rw [HCE.out]; exact ho2) hg2)
                clear ho2 hg2 HB3 HM4 HOZ HNZ hat2
                go_wp2
                go_roundw
                case rel => exact ⟨i + 1, es' ++ [⟨s, ⟨f.b.take q, q, true⟩, .slice Ae q ce⟩], by go_num, by omega, by rw [List.length_append]; simp; omega, HP1, HM2⟩
                case measure => simp [intOf]; omega
            · have hd : decide ((0 : Int) < (q : Int)) = false := decide_eq_false (by omega)
              have HOZ := Lib.hid ((HO3.out.alloc (.cells #[.string s, .slice Ae q ce, .int .i64 (q : Int), .bool true] 66)).drew)
              have hnz : ((W3.alloc (.cells #[.string s, .slice Ae q ce, .int .i64 (q : Int), .bool true] 66)).drew).heap[W3.heap.size]? = some (.cells #[.string s, .slice Ae q ce, .int .i64 (q : Int), .bool true] 66) := heap_alloc_new W3 _
              have HNZ := Lib.hid (World.news_of_block hnz)
              have HM4 := Lib.hid (show MoreE W1 W3 (fun b => P b ∧ b ≠ rb) W1 (.slice A' es'.length cap') es' from ⟨HO3.out, HB3.out, HMM.out.rows⟩)
              clear hnz HO3
              go_wp2_with fail
              go_region_law ((refine step_append_lies _ (by rfl) _ _ _ (by rfl) W1.heap.size 66 i0 _ 4 56 Try.underlying59 HI.out.1 HI.out.2.1 HI.out.2.2.1 HI.out.2.2.2 rfl (by omega) (.slice A' es'.length cap') es'.length _ (by rfl) HOZ.out ⟨W3.heap.size, 0, none⟩ 1 1 [.string s, .slice Ae q ce, .int .i64 (q : Int), .bool true] (by rfl) (by rfl) HNZ.out (one_file _ _ _ _ _ _) (by omega) (by unfold maxLen; omega) (by omega) (by simp; omega) (W3.heap.size + 1) (by simp) ?_; intro g2 cap2 w2 ho2 hg2 hat2 hlt2))
              all_goals
                have HM2 := Lib.hid (HM4.out.add ⟨s, ⟨f.b.take q, q, true⟩, .slice Ae q ce⟩ HCUT.out ((HB3.out.alloc HB3.out.size _).drew) (by rw [HCE.out]; exact ho2) hg2)
                clear ho2 hg2 HB3 HM4 HOZ HNZ hat2
                go_wp2
                go_roundw
                case rel => exact ⟨i + 1, es' ++ [⟨s, ⟨f.b.take q, q, true⟩, .slice Ae q ce⟩], by go_num, by omega, by rw [List.length_append]; simp; omega, HP1, HM2⟩
                case measure => simp [intOf]; omega
      · obtain rfl : i = es.length := by omega
        have c0 : wr.cell? ⟨rb, 0, none⟩ = some (.slice Af es.length cap) := (HM.out.below.cell (p := ⟨rb, 0, none⟩) HRB.out.1).trans HRB.out.2.1
        have ff : wr.frozen? ⟨rb, 0, none⟩ = false := (HM.out.below.frozen (p := ⟨rb, 0, none⟩) HRB.out.1).trans HRB.out.2.2
        have HQ := Lib.hid (fun w' (hw : w' = wr.setCell ⟨rb, 0, none⟩ (.slice A' es'.length cap')) => show post (.returned (.tuple #[])) w' from by
          rw [hw]; exact HFIN.out wr _ es' HM.out (by rw [HP.out, List.take_of_length_le (by rw [← HFS.out, fsOf_len]; exact Nat.le_refl _)]))
        clear HFIN HM HP
        go_wp2
        go_end0
        exact HQ.out _ rfl
end Go.Proofs.Ytfgbaigpmhnoaaa

/- disk: the reference's Copy. -/
namespace Go.Proofs.Ytfgbaigpmhnoaaa
open Go.RowKit Go.BigFrame Go.Maps
open Dsk (Fl St Ok get put drop used)

theorem own_empty (w : World) (base : Nat) (T : TypeId) (sz : Nat) (h : base ≤ w.heap.size) : (w.alloc (.cells #[] T)).ownsRow base T sz (.slice (some ⟨w.heap.size, 0, none⟩) 0 0) 0 [] :=
  ⟨by simp, .inr ⟨w.heap.size, 0, #[], rfl, h, heap_alloc_new w _, Nat.le_refl _, Nat.zero_le _, by simp, by simp⟩⟩
def RCopyPost (w : World) (base : Nat) (P : Nat → Prop) (rb : Nat) (S : St) (e : Ending) (w' : World) : Prop := Below w.heap.size w w' ∧ ∃ rb2, e = .returned (.pointer (some ⟨rb2, 0, none⟩)) ∧ w.heap.size ≤ rb2 ∧ RefAt w' base (fun b => P b ∧ b ≠ rb) rb2 S
theorem enCells_one {es : List En} (h : ∀ e ∈ es, ∃ A c, e.v = .slice A e.f.b.length c) : ∀ u ∈ enCells es, u.oneCell' = true := by
  intro u hu
  unfold enCells at hu
  rw [List.mem_flatMap] at hu
  obtain ⟨e, he, hu⟩ := hu
  obtain ⟨A, c, hv⟩ := h e he
  unfold En.cells at hu
  rw [hv] at hu
  exact one_file _ _ _ _ _ _ u hu
set_option maxRecDepth 100000 in
set_option maxHeartbeats 4000000 in
theorem rcopy_any {w : World} {base rb : Nat} {P : Nat → Prop} {S : St} (h : RefAt w base P rb S) (hlen : S.fs.length ≤ 1000000000) (hP : ∀ b, w.heap.size ≤ b → P b) :
    Calls Try.prog 11 #[.pointer (some ⟨rb, 0, none⟩)] w (RCopyPost w base P rb S) := by
  obtain ⟨i0, hi, hz0, hz1, hz2⟩ := info_parts infoFile
  have HI := Lib.hid (And.intro hi (And.intro hz0 (And.intro hz1 hz2)))
  clear hi hz0 hz1 hz2
  obtain ⟨fv, iv, es, h⟩ := h
  have hlt := h.lt
  have hlow := h.low
  have hesl : es.length ≤ 1000000000 := by rw [← h.fs, fsOf_len] at hlen; exact hlen
  obtain ⟨W1, hW1⟩ : ∃ W1, W1 = w.alloc (.cells #[fv, .int .i64 S.quota, .int .i64 (S.steps : Int), .bool S.armed.isSome, .int .i64 iv, .bool S.off] 61) := ⟨_, rfl⟩
  have hb1 : Below w.heap.size w W1 := by rw [hW1]; exact (Below.refl _ _).alloc (Nat.le_refl _) _
  have hz1 : W1.heap.size = w.heap.size + 1 := by rw [hW1]; simp
  have hx1 : W1.heap[w.heap.size]? = some (.cells #[fv, .int .i64 S.quota, .int .i64 (S.steps : Int), .bool S.armed.isSome, .int .i64 iv, .bool S.off] 61 (0, 0)) := by rw [hW1]; exact heap_alloc_new w _
  have hsl := fun e he => (h.rows e he).slice
  have HFIN := Lib.hid (fun (w' : World) (lv : Value) (hb : Below (w.heap.size + 1) W1 w') (ho : w'.ownsRow (w.heap.size + 1) 66 4 lv es.length (enCells es)) => show RCopyPost w base P rb S (.returned (.pointer (some ⟨w.heap.size, 0, none⟩))) (w'.setCell ⟨w.heap.size, 0, none⟩ lv) from by
    have hbw : Below w.heap.size w w' := hb1.trans (hb.mono (by omega))
    have hx : w'.heap[w.heap.size]? = some (.cells #[fv, .int .i64 S.quota, .int .i64 (S.steps : Int), .bool S.armed.isSome, .int .i64 iv, .bool S.off] 61 (0, 0)) := (hb.block _ (by omega)).trans hx1
    have hc : Ch w (w'.setCell ⟨w.heap.size, 0, none⟩ lv) (fun b => w.heap.size ≤ b) := (Ch.of_below hbw (fun b => w.heap.size ≤ b) (fun _ _ hk => hk)).setCell (p := ⟨w.heap.size, 0, none⟩) (Nat.le_refl _) _
    refine ⟨hbw.setCell (Nat.le_refl _) _, w.heap.size, rfl, Nat.le_refl _, lv, iv, es, by omega, ?_, ?_, fun g hg => ?_, fun e he => ?_, h.fs, h.arm⟩
    · rw [blk_set hx 0 lv]; rfl
    · exact own_down (ownsRow_setCell_other ho (a := ⟨w.heap.size, 0, none⟩) (fun e => by have := (ho.lt w.heap.size e).1; omega) _) (by omega)
    · have := (ho.lt g hg).1
      exact ⟨⟨hP g (by omega), by omega⟩, by omega⟩
    · exact ((h.rows e he).mono (Q' := fun b => (P b ∧ b ≠ rb) ∧ b ≠ w.heap.size) fun b hl hq => ⟨hq, by omega⟩).ch hc (fun b hl _ hM => by omega))
  generalize RCopyPost w base P rb S = post at *
  have c0 : W1.cell? ⟨rb, 0, none⟩ = some fv := by rw [blk_cell ((hb1.block rb hlt).trans h.blk)]; rfl
  have hrow := h.own
  have hone := enCells_one (es := es) (fun e he => by obtain ⟨A, c, hv, _⟩ := hsl e he; exact ⟨A, c, hv⟩)
  have HW := Lib.hid hW1
  have f0 : W1.frozen? ⟨w.heap.size, 0, none⟩ = false := blk_free hx1 0
  have d0 : W1.cell? ⟨w.heap.size, 0, none⟩ = some fv := by rw [blk_cell hx1]; rfl
  have HE := Lib.hid (own_empty W1 (w.heap.size + 1) 66 4 (by omega))
  have HB := Lib.hid (And.intro hb1 hz1)
  have kc0 : (W1.alloc (.cells #[] 66)).cell? ⟨rb, 0, none⟩ = some fv := (World.cell?_alloc_old _ _ _ (by show rb ≠ W1.heap.size; omega)).trans c0
  have hc := h.cells
  have HX := Lib.hid hx1
  rcases hrow.2 with ⟨e1, e2⟩ | ⟨g, cap, cur, e1, hg, hgg, hnc, hcm, hcs, htk⟩
  · have hes : es = [] := List.eq_nil_of_length_eq_zero e2
    subst hes
    subst e1
    obtain ⟨k0, k1, k2, k3, k4, k5⟩ := hc
    clear h hrow hone hsl hP hlen hb1 hz1 hx1
    go_enter Try.func11, Try.ntmps11
    go_upto_region 2 with (fail)
    rw [← hW1]
    clear hW1
    have d2z : (W1.alloc (.cells #[] 66)).frozen? ⟨w.heap.size, 0, none⟩ = false := blk_free ((old_block W1 _ _ (by have := HB.out.2; omega)).trans HX.out) 0
    have d2 : (W1.alloc (.cells #[] 66)).cell? ⟨w.heap.size, 0, none⟩ = some (.slice none 0 0) := (World.cell?_alloc_old _ _ _ (by show w.heap.size ≠ W1.heap.size; have := HB.out.2; omega)).trans d0
    go_wp2_with (at_builtin; go_loud (refine wpList_append_own_none rfl _ _ 59 rfl (w.heap.size + 1) 66 i0 4 Try.underlying59 HI.out.1 (.slice (some ⟨W1.heap.size, 0, none⟩) 0 0) 0 [] rfl HE.out rfl ?_))
    have HQ := Lib.hid (HFIN.out (W1.alloc (.cells #[] 66)) _ ((Below.refl _ _).alloc (by have := HB.out.2; omega) _) HE.out)
    clear HFIN
    go_wp2
    exact HQ.out
  · subst e1
    obtain ⟨k0, k1, k2, k3, k4, k5⟩ := hc
    have hcl : ∀ j u, (enCells es)[j]? = some u → (W1.alloc (.cells #[] 66)).cell? ((⟨g, 0, none⟩ : Addr).add j) = some u := by
      intro j u hu
      have hj : j < es.length * 4 := by rw [← enCells_len]; exact (List.getElem?_eq_some_iff.1 hu).1
      have e : (⟨g, 0, none⟩ : Addr).add j = ⟨g, j, none⟩ := by unfold Addr.add; by_cases h0 : j = 0 <;> simp [h0]
      have hgl := block_lt hgg
      have hb2 : (W1.alloc (.cells #[] 66)).heap[g]? = some (.cells cur 66 (0, 0)) := (old_block _ _ _ (by omega)).trans ((hb1.block g hgl).trans hgg)
      rw [e, blk_cell hb2]
      rw [← htk, List.getElem?_take, if_pos hj] at hu
      simpa using hu
    have HCL := Lib.hid hcl
    have HON := Lib.hid hone
    have HLN := Lib.hid (enCells_len es)
    have hcm' : cap ≤ 9223372036854775807 := by unfold maxLen at hcm; exact hcm
    clear h hrow hone hsl hP hlen hb1 hz1 hx1 hcl hgg htk hcs hcm
    go_enter Try.func11, Try.ntmps11
    go_upto_region 2 with (fail)
    rw [← hW1]
    clear hW1
    go_wp2_with (at_builtin; go_loud (refine wpList_append_own _ rfl _ _ 59 rfl (w.heap.size + 1) 66 i0 (.agg #[.string ⟨#[]⟩, .slice none 0 0, .int .i64 0, .bool false]) 4 56 Try.underlying59 HI.out.1 HI.out.2.1 HI.out.2.2.1 HI.out.2.2.2 rfl (by decide) (.slice (some ⟨W1.heap.size, 0, none⟩) 0 0) 0 [] rfl HE.out ⟨g, 0, none⟩ es.length cap (enCells es) rfl HLN.out HCL.out HON.out ?h63 ?hby ?hba ?_))
    case h63 => unfold maxLen; omega
    case hby => omega
    case hba => have := HB.out.2; simp; omega
    intro v2 w2 ho2 hg2 _
    have hb2 : Below (w.heap.size + 1) W1 w2 := ((Below.refl _ _).alloc (by have := HB.out.2; omega) _).grown hg2 (by have := HB.out.2; simp; omega) (fun g e => by have e : W1.heap.size = g := Option.some.inj e; have := HB.out.2; omega)
    have hx2 : w2.heap[w.heap.size]? = some (.cells #[.slice (some ⟨g, 0, none⟩) es.length cap, .int .i64 S.quota, .int .i64 (S.steps : Int), .bool S.armed.isSome, .int .i64 iv, .bool S.off] 61 (0, 0)) := (hb2.block _ (by omega)).trans HX.out
    have d2 : w2.cell? ⟨w.heap.size, 0, none⟩ = some (.slice (some ⟨g, 0, none⟩) es.length cap) := by rw [blk_cell hx2]; rfl
    have f2 : w2.frozen? ⟨w.heap.size, 0, none⟩ = false := blk_free hx2 0
    obtain ⟨A2, cap2, rfl⟩ := own_sl4 ho2
    have HQ := Lib.hid (HFIN.out w2 _ hb2 ho2)
    clear HFIN ho2 hg2 hb2 hx2
    go_wp2
    exact HQ.out
end Go.Proofs.Ytfgbaigpmhnoaaa
