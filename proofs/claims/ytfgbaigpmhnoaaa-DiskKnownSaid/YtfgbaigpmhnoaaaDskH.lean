/- disk: what Append does, walked. -/
import Derived.Test.YtfgbaigpmhnoaaaDskG
set_option linter.unusedVariables false
set_option linter.unusedSimpArgs false
namespace Go.Proofs.Ytfgbaigpmhnoaaa
open Go.RowKit Go.BigFrame Go.Maps
open Dsk (Fl St Ok get put drop used)

theorem setCell_far {w : World} {p q : Addr} {u v : Value} (h : w.cell? p = some u) (hne : p.block ≠ q.block) : (w.setCell q v).cell? p = some u :=
  (World.cell?_of_block (Below.heap_setCell _ _ _ _ hne)).trans h
def grow1 (f : Fl) (l : List Nat) : Fl := { f with b := f.b ++ l }
set_option maxRecDepth 100000 in
set_option maxHeartbeats 4000000 in
theorem append1_any (w : World) (base db mb n : Nat) (D : DataW Unit) (av : Value) (ro : Nat → Role) (S : St) (s : ByteArray) (fb : Nat) (f : Fl) (v : Value) (p0 p1 p2 p3 : Nat) (A : Option Addr) (m c : Nat) (dd : Nat → Nat)
    (h : DiskIn w base db mb n D av ro S) (hfa : FileAt w base ro s fb v f) (hlen : Dsk.lenO (get S.fs s) = f.b.length) (hfs : f.sure ≤ f.b.length ∧ ∀ x ∈ f.b, x < 256)
    (c0 : w.cell? ⟨p0, 0, none⟩ = some (.pointer (some ⟨fb, 0, none⟩))) (c1 : w.cell? ⟨p1, 0, none⟩ = some (.slice A m c)) (c2 : w.cell? ⟨p2, 0, none⟩ = some (.pointer (some ⟨db, 0, none⟩))) (c3 : w.cell? ⟨p3, 0, none⟩ = some (.string s))
    (hp : ro p0 = .none ∧ ro p1 = .none ∧ ro p2 = .none ∧ ro p3 = .none) (hr : Holds w w.heap.size A m dd) (hA : A = none → c = 0) (hmc : m ≤ c) (hd : ∀ i, dd i < 256) (hbase : base ≤ w.heap.size)
    (hl : f.b.length + m ≤ 8388608) (hq : (used S.fs : Int) + (m : Int) ≤ S.quota) (hsum : used S.fs + m ≤ 1000000000000) (h0 : 0 < s.size) (h1 : s.size ≤ 128) (hfew : (put S.fs s (grow1 f (listD dd m))).length ≤ S.steps) (hn : n + 1 ≤ S.steps) :
    Calls Try.prog 40 #[.pointer (some ⟨p0, 0, none⟩), .pointer (some ⟨p1, 0, none⟩), .pointer (some ⟨p2, 0, none⟩), .pointer (some ⟨p3, 0, none⟩)] w (DoneR w base db ro { S with fs := put S.fs s (grow1 f (listD dd m)) } (.tuple #[])) := by
  obtain ⟨i0, hi, hz0, hz1, hz2⟩ := info_parts infoU8
  obtain ⟨Af, capf, rfl⟩ := own_sl hfa.row
  have hlow := h.ok.low
  -- what is where
  have hfd : fb ≠ db := fun e => by have := hfa.rfb; rw [e, h.rdb] at this; cases this
  have hfm : fb ≠ mb := fun e => by have := hfa.rfb; rw [e, h.rmb] at this; cases this
  have hmd : mb ≠ db := fun e => by have := h.rmb; rw [e, h.rdb] at this; cases this
  have hpf : ∀ p, ro p = .none → p ≠ fb ∧ p ≠ db ∧ p ≠ mb ∧ (Value.slice Af f.b.length capf).ownBlock ≠ some p := fun p e =>
    ⟨fun e' => (by rw [e', hfa.rfb] at e; cases e), fun e' => (by rw [e', h.rdb] at e; cases e), fun e' => (by rw [e', h.rmb] at e; cases e), fun e' => (by rw [hfa.rrow p e'] at e; cases e)⟩
  have hvf : ∀ g, (Value.slice Af f.b.length capf).ownBlock = some g → g ≠ fb ∧ g ≠ db ∧ g ≠ mb := fun g e => by
    have := hfa.rrow g e
    exact ⟨fun e' => (by rw [e', hfa.rfb] at this; cases this), fun e' => (by rw [e', h.rdb] at this; cases this), fun e' => (by rw [e', h.rmb] at this; cases this)⟩
  have hum := Dsk.used_put S.fs s (grow1 f (listD dd m)) h.ok.sorted
  have hu2 : used (put S.fs s (grow1 f (listD dd m))) = used S.fs + m := by
    rw [hlen] at hum
    unfold grow1 at hum ⊢
    simp only [List.length_append, listD_len] at hum
    omega
  have hok2 : Ok { S with fs := put S.fs s (grow1 f (listD dd m)) } := ok_put h.ok s _ (by unfold grow1; simp only [List.length_append]; have := hfs.1; omega) (fun x hx => by unfold grow1 at hx; rcases List.mem_append.1 hx with hx | hx; exact hfs.2 x hx; exact listD_lt hd x hx) (by unfold grow1; simp only [List.length_append, listD_len]; exact hl) h0 h1 (used S.fs + m) hu2 (by omega) hsum hfew
  have HFIN := Lib.hid (fun (w1 w3 w4 : World) (A' : Option Addr) (cap' : Nat) (hown1 : w1.ownsRow base 5 1 (.slice A' (f.b.length + m) cap') (f.b.length + m) (bvs f.b ++ cells dd m)) (hgrow1 : w.drew.grownBy w1 (Value.slice Af f.b.length capf).ownBlock) (hmv : Moved w.drew (.slice Af f.b.length capf) (.slice A' (f.b.length + m) cap'))
      (hw3 : w3 = ((w1.setCell ⟨fb, 0, none⟩ (.slice A' (f.b.length + m) cap')).setCell ⟨db, 2, none⟩ (.int .i64 ((used S.fs : Int) + (m : Int)))).drew) (ho4 : w4.ownsMap Try.prog 9 ptrElem mb (n + 1) (D.put (kS s) (.lit (.int .i64 ((fb : Nat) : Int))))) (hg4 : w3.grownBy w4 (some mb)) =>
      show DoneR w base db ro { S with fs := put S.fs s (grow1 f (listD dd m)) } (.tuple #[]) (.returned (.tuple #[])) w4 from by
    have hdl := block_lt h.blk
    have hfl := block_lt hfa.blk
    have hdb1 : w1.heap[db]? = some (.cells (diskCells mb av S) 58 (0, 0)) := kept (show w.drew.heap[db]? = _ from h.blk) hgrow1 (fun e => (hvf db e.symm).2.1 rfl)
    have hfb1 : w1.heap[fb]? = some (.cells #[.slice Af f.b.length capf, .int .i64 (f.sure : Int), .bool f.ever] 64 (0, 0)) := kept (show w.drew.heap[fb]? = _ from hfa.blk) hgrow1 (fun e => (hvf fb e.symm).1 rfl)
    have hv' : ∀ g, (Value.slice A' (f.b.length + m) cap').ownBlock = some g → (g ≠ fb ∧ g ≠ db ∧ g ≠ mb) ∧ (ro g = .row s ∨ (ro g = .none ∧ w.heap.size ≤ g)) := fun g e => by
      rcases hmv with e2 | ⟨g', e2, hg'⟩
      · rw [e] at e2
        exact ⟨hvf g e2.symm, .inl (hfa.rrow g e2.symm)⟩
      · rw [e] at e2; cases e2
        have hg'' : w.heap.size ≤ g := hg'
        have hml := h.own.lt
        refine ⟨⟨by omega, by omega, by omega⟩, .inr ⟨?_, hg''⟩⟩
        cases hrg : ro g with
        | none => rfl
        | _ => have := (h.old g (by rw [hrg]; simp)).2; omega
    have hdb3 : w3.heap[db]? = some (.cells (diskCells mb av { S with fs := put S.fs s (grow1 f (listD dd m)) }) 58 (0, 0)) := by
      have h2 : (w1.setCell ⟨fb, 0, none⟩ (.slice A' (f.b.length + m) cap')).heap[db]? = some (.cells (diskCells mb av S) 58 (0, 0)) := (heap_setCell_other _ _ _ _ (Ne.symm hfd)).trans hdb1
      have h3 := blk_set h2 2 (.int .i64 ((used S.fs : Int) + (m : Int)))
      rw [hw3]
      show ((w1.setCell ⟨fb, 0, none⟩ (.slice A' (f.b.length + m) cap')).setCell ⟨db, 2, none⟩ (.int .i64 ((used S.fs : Int) + (m : Int)))).heap[db]? = _
      rw [h3]
      unfold diskCells
      dsimp only
      rw [hu2]
      simp
    have hfb3 : w3.heap[fb]? = some (.cells #[.slice A' (f.b.length + m) cap', .int .i64 (f.sure : Int), .bool f.ever] 64 (0, 0)) := by
      have h2 := blk_set hfb1 0 (.slice A' (f.b.length + m) cap')
      rw [hw3]
      exact (heap_setCell_other _ _ _ _ hfd).trans (by rw [h2]; rfl)
    have hrow3 : w3.ownsRow base 5 1 (.slice A' (f.b.length + m) cap') (f.b.length + m) (bvs f.b ++ cells dd m) := by
      rw [hw3]
      exact (ownsRow_setCell_other (ownsRow_setCell_other hown1 (a := ⟨fb, 0, none⟩) (fun e => (hv' _ e).1.1 rfl) _) (a := ⟨db, 2, none⟩) (fun e => (hv' _ e).1.2.1 rfl) _).drew
    have hch3 : Ch w w3 (fun b => b = fb ∨ b = db ∨ (Value.slice Af f.b.length capf).ownBlock = some b) := by
      rw [hw3]
      exact (((((Ch.refl w _).drew).grown hgrow1 (fun k _ e => .inr (.inr e))).setCell (p := ⟨fb, 0, none⟩) (.inl rfl) _).setCell (p := ⟨db, 2, none⟩) (.inr (.inl rfl)) _).drew
    have hch4 : Ch w w4 (fun b => b = mb ∨ b = fb ∨ b = db ∨ (Value.slice Af f.b.length capf).ownBlock = some b) := (hch3.weak (fun k _ hk => .inr hk)).grown hg4 (fun k _ e => .inl (Option.some.inj e).symm)
    have hlen2 : (grow1 f (listD dd m)).b.length = f.b.length + m := by unfold grow1; simp [listD_len]
    obtain ⟨g1, g2⟩ := h.putIn (S' := { S with fs := put S.fs s (grow1 f (listD dd m)) }) (n' := n + 1) s fb (.slice A' (f.b.length + m) cap') (grow1 f (listD dd m)) hch4
      (fun b _ hM => by
        rcases hM with e | e | e | e
        · subst e; exact .inr (.inl h.rmb)
        · subst e; exact .inr (.inr (.inl hfa.rfb))
        · subst e; exact .inl h.rdb
        · exact .inr (.inr (.inr (.inl (hfa.rrow b e)))))
      hfa.rfb ⟨(h.old fb (by rw [hfa.rfb]; simp)).1, Nat.lt_of_lt_of_le hfl hch4.size⟩ (fun g e => ⟨(hv' g e).1.1, (hv' g e).2⟩)
      (kept hdb3 hg4 (fun e => hmd (Option.some.inj e).symm)) (kept hfb3 hg4 (fun e => hfm (Option.some.inj e)))
      (by
        rw [hlen2]
        have : bvs (grow1 f (listD dd m)).b = bvs f.b ++ cells dd m := by unfold grow1; rw [bvs_app, cells_bytes]
        rw [this]
        exact (Ch.grown (Ch.refl w3 (fun b => b = mb)) hg4 (fun k _ e => (Option.some.inj e).symm)).own hrow3 (fun b e hM => (hv' b e).1.2.2 hM))
      ho4 hn (fun t ht => ⟨has_put_other (fun e => ht (kS_inj e)) _, atKey_put_other (fun e => ht (kS_inj e)) _ _⟩) rfl (has_put_same h.own.isMap (kS_key s) _) (atKey_put_same h.own.isMap (kS_key s) _ _) rfl hok2
    refine ⟨rfl, _, ⟨mb, n + 1, _, av, g1⟩, g2, hch4.weak fun b _ hM => ?_⟩
    unfold Own
    rcases hM with e | e | e | e
    · subst e; rw [h.rmb]; simp
    · subst e; rw [hfa.rfb]; simp
    · subst e; rw [h.rdb]; simp
    · rw [hfa.rrow b e]; simp)
  have HOWN := Lib.hid (hfa.row.drew)
  have HR := Lib.hid (show Holds w.drew w.heap.size A m dd from hr)
  have HA := Lib.hid hA
  have l0 := block_lt_of_cell c0
  have l1 := block_lt_of_cell c1
  have l2 := block_lt_of_cell c2
  have l3 := block_lt_of_cell c3
  have lf := block_lt hfa.blk
  have ld := block_lt h.blk
  have HL := Lib.hid (And.intro l0 (And.intro l1 (And.intro l2 (And.intro l3 (And.intro lf ld)))))
  have HPF := Lib.hid (And.intro (hpf p0 hp.1) (And.intro (hpf p1 hp.2.1) (And.intro (hpf p2 hp.2.2.1) (hpf p3 hp.2.2.2))))
  have HVF := Lib.hid hvf
  have cf : w.drew.cell? ⟨fb, 0, none⟩ = some (.slice Af f.b.length capf) := by show w.cell? _ = _; rw [blk_cell hfa.blk]; rfl
  have ff : w.drew.frozen? ⟨fb, 0, none⟩ = false := blk_free hfa.blk 0
  have HCF := Lib.hid cf
  have HFF := Lib.hid ff
  have HDB := Lib.hid h.blk
  have HC := Lib.hid (And.intro c0 (And.intro c1 (And.intro c2 c3)))
  have d0 : w.drew.cell? ⟨p0, 0, none⟩ = some (.pointer (some ⟨fb, 0, none⟩)) := c0
  have d1 : w.drew.cell? ⟨p1, 0, none⟩ = some (.slice A m c) := c1
  have HMO := Lib.hid (And.intro h.own hmd)
  have HNE := Lib.hid (And.intro hfd hfm)
  have HH1 := Lib.hid h1
  have HN1 := Lib.hid hlow
  have HNB := Lib.hid h.bnd
  have hsz : (used S.fs : Int) + (m : Int) ≤ 1000000000000 := by omega
  generalize DoneR w base db ro { S with fs := put S.fs s (grow1 f (listD dd m)) } (.tuple #[]) = post at *
  clear h hfa hlen hfs hp hr hA hd hq hsum hfew hn hfd hfm hmd hpf hvf hum hu2 hok2 l0 l1 l2 l3 lf ld c0 c1 c2 c3
  go_enter Try.func40, Try.ntmps40
  go_wp2_with fail
  go_region_law ((refine step_app_holds (by rfl) _ _ _ (by rfl) base 5 i0 Try.underlying29 hi hz0 hz1 hz2 (.slice Af f.b.length capf) f.b.length _ (by rfl) HOWN.out w.heap.size A m c dd (by rfl) HR.out HA.out hmc (by unfold maxLen; omega) (by omega) hbase ?_; intro A' cap' w1 hown1 hgrow1 hmv1; have k0 := (hgrow1.cell_far ⟨p0, 0, none⟩ HL.out.1 (fun e => HPF.out.1.2.2.2 e.symm)).trans HC.out.1; have kf := (hgrow1.cell_far ⟨fb, 0, none⟩ HL.out.2.2.2.2.1 (fun e => (HVF.out fb e.symm).1 rfl)).trans HCF.out; have kff := (hgrow1.frozen_far ⟨fb, 0, none⟩ HL.out.2.2.2.2.1 (fun e => (HVF.out fb e.symm).1 rfl)).trans HFF.out))
  all_goals
    have hv' : ∀ p, p < w.heap.size → (Value.slice Af f.b.length capf).ownBlock ≠ some p → w1.heap[p]? = w.heap[p]? := fun p hl e => hgrow1.block p hl (fun e' => e e'.symm)
    have j1 : w1.cell? ⟨p1, 0, none⟩ = some (.slice A m c) := (hgrow1.cell_far ⟨p1, 0, none⟩ HL.out.2.1 (fun e => HPF.out.2.1.2.2.2 e.symm)).trans HC.out.2.1
    have j2 : w1.cell? ⟨p2, 0, none⟩ = some (.pointer (some ⟨db, 0, none⟩)) := (hgrow1.cell_far ⟨p2, 0, none⟩ HL.out.2.2.1 (fun e => HPF.out.2.2.1.2.2.2 e.symm)).trans HC.out.2.2.1
    have j3 : w1.cell? ⟨p3, 0, none⟩ = some (.string s) := (hgrow1.cell_far ⟨p3, 0, none⟩ HL.out.2.2.2.1 (fun e => HPF.out.2.2.2.2.2.2 e.symm)).trans HC.out.2.2.2
    have jd : w1.heap[db]? = some (.cells (diskCells mb av S) 58 (0, 0)) := (hv' db HL.out.2.2.2.2.2 (fun e => (HVF.out db e).2.1 rfl)).trans HDB.out
    obtain ⟨w2, hw2⟩ : ∃ w2, w2 = w1.setCell ⟨fb, 0, none⟩ (.slice A' (f.b.length + m) cap') := ⟨_, rfl⟩
    have q0 : w2.cell? ⟨p0, 0, none⟩ = some (.pointer (some ⟨fb, 0, none⟩)) := hw2 ▸ setCell_far k0 HPF.out.1.1
    have q1 : w2.cell? ⟨p1, 0, none⟩ = some (.slice A m c) := hw2 ▸ setCell_far j1 HPF.out.2.1.1
    have q2 : w2.cell? ⟨p2, 0, none⟩ = some (.pointer (some ⟨db, 0, none⟩)) := hw2 ▸ setCell_far j2 HPF.out.2.2.1.1
    have q3 : w2.cell? ⟨p3, 0, none⟩ = some (.string s) := hw2 ▸ setCell_far j3 HPF.out.2.2.2.1
    have qd : w2.heap[db]? = some (.cells (diskCells mb av S) 58 (0, 0)) := hw2 ▸ (heap_setCell_other _ _ _ _ (Ne.symm HNE.out.1)).trans jd
    have qd2 : w2.cell? ⟨db, 2, none⟩ = some (.int .i64 (used S.fs : Int)) := by rw [blk_cell qd]; rfl
    have qf2 := blk_free qd 2
    have QD := Lib.hid qd
    have Q0 := Lib.hid q0
    have Q2 := Lib.hid q2
    have Q3 := Lib.hid q3
    have HW2 := Lib.hid hw2
    have HG1 := Lib.hid hgrow1
    have HO1 := Lib.hid hown1
    have HM1 := Lib.hid hmv1
    have hsum1 : IntKind.i64.wrap ((used S.fs : Int) + (m : Int)) = (used S.fs : Int) + (m : Int) := IntWalk.i64_in _ (by omega)
    rw [← hw2]
    clear hv' j1 j2 j3 jd k0 kf kff hw2 hgrow1 hown1 hmv1 qd q0 q3 d0 d1 cf ff
    generalize used S.fs = uu at *
    go_wp2_with fail
    go_still_tail 9, (by kernel_rfl)
    change wpList _ _ _ _ _ w2.drew
    have hd1 : w2.cell? ⟨db, 1, none⟩ = some (.map (some mb)) := by rw [blk_cell QD.out]; rfl
    have r0 : ((w2.setCell ⟨db, 2, none⟩ (.int .i64 ((uu : Int) + (m : Int)))).drew).cell? ⟨p0, 0, none⟩ = some (.pointer (some ⟨fb, 0, none⟩)) := setCell_far Q0.out HPF.out.1.2.1
    have r2 : ((w2.setCell ⟨db, 2, none⟩ (.int .i64 ((uu : Int) + (m : Int)))).drew).cell? ⟨p2, 0, none⟩ = some (.pointer (some ⟨db, 0, none⟩)) := setCell_far Q2.out HPF.out.2.2.1.2.1
    have r3 : ((w2.setCell ⟨db, 2, none⟩ (.int .i64 ((uu : Int) + (m : Int)))).drew).cell? ⟨p3, 0, none⟩ = some (.string s) := setCell_far Q3.out HPF.out.2.2.2.2.1
    have rd : ((w2.setCell ⟨db, 2, none⟩ (.int .i64 ((uu : Int) + (m : Int)))).drew).cell? ⟨db, 1, none⟩ = some (.map (some mb)) := by
      have := blk_set QD.out 2 (.int .i64 ((uu : Int) + (m : Int)))
      show (w2.setCell ⟨db, 2, none⟩ (.int .i64 ((uu : Int) + (m : Int)))).cell? ⟨db, 1, none⟩ = _
      rw [blk_cell this]; rfl
    have ro3 : ((w2.setCell ⟨db, 2, none⟩ (.int .i64 ((uu : Int) + (m : Int)))).drew).ownsMap Try.prog 9 ptrElem mb n D := by
      have e1 : w1.ownsMap Try.prog 9 ptrElem mb n D := own_map_block HMO.out.1 (HG1.out.block mb HMO.out.1.lt (fun e => (HVF.out mb e.symm).2.2 rfl))
      have e2 : w2.ownsMap Try.prog 9 ptrElem mb n D := HW2.out ▸ World.ownsMap.setCell e1 (a := ⟨fb, 0, none⟩) (fun e => HNE.out.2 e.symm) _
      exact World.ownsMap.drew (World.ownsMap.setCell e2 (a := ⟨db, 2, none⟩) HMO.out.2 _)
    have HHO := Lib.hid (hold_any _ db mb n D s fb (by have := HH1.out; unfold maxLen; omega) (by have := HNB.out; have := HN1.out; omega) rd ro3)
    unfold HoldPost at HHO
    clear rd ro3 q1
    go_wp2_with fail
    refine HHO.out.mono ?_
    rintro e w4 ⟨rfl, ho4, hg4⟩
    have HQ := Lib.hid (HFIN.out w1 _ w4 A' cap' HO1.out HG1.out HM1.out (by rw [← HW2.out]) ho4 hg4)
    clear ho4 hg4 HFIN HHO
    go_wp2
    go_end0
    exact HQ.out
end Go.Proofs.Ytfgbaigpmhnoaaa
