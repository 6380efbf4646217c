/- files: Same. -/
import Derived.Test.YtmcafiihicanfaaDoorFilSc
import Derived.Test.YtmcafiihicanfaaDoorFmQ
import Derived.Deep.AppendLies
import Derived.Deep.RegionLaw
set_option linter.unusedVariables false
set_option linter.unusedSimpArgs false
namespace Go.Proofs.YtmcafiihicanfaaDoor
open Go Go.RowKit Go.BigFrame
open Fil (Es Nd Sp)

/-- Two nodes that are held against each other, and where they lie. -/
structure Pr where
  pb : Nat
  po : Nat
  qb : Nat
  qo : Nat
  x : Nd
  y : Nd
def PrAt (W0 : World) (B : Nat) (r : Pr) : Prop := r.pb < W0.heap.size ∧ r.qb < W0.heap.size ∧ NdC W0 B ⟨r.pb, r.po, none⟩ r.x ∧ NdC W0 B ⟨r.qb, r.qo, none⟩ r.y
def flatP (l : List Pr) : List Value := l.flatMap fun r => [.pointer (some ⟨r.pb, r.po, none⟩), .pointer (some ⟨r.qb, r.qo, none⟩)]
theorem flatP_snoc (l : List Pr) (r : Pr) : flatP (l ++ [r]) = flatP l ++ [.pointer (some ⟨r.pb, r.po, none⟩), .pointer (some ⟨r.qb, r.qo, none⟩)] := by simp [flatP]
theorem flatP_len : ∀ l : List Pr, (flatP l).length = l.length * 2
  | [] => rfl
  | r :: l => by have := flatP_len l; simp only [flatP, List.flatMap_cons, List.length_append, List.length_cons, List.length_nil] at this ⊢; omega
def wtP (l : List Pr) : Nat := (l.map fun r => 1 + r.x.es.count).sum
theorem wtP_snoc (l : List Pr) (r : Pr) : wtP (l ++ [r]) = wtP l + (1 + r.x.es.count) := by simp [wtP]
theorem len_wtP : ∀ l : List Pr, l.length ≤ wtP l
  | [] => Nat.le_refl _
  | r :: l => by have := len_wtP l; simp only [wtP, List.map_cons, List.sum_cons, List.length_cons] at this ⊢; omega
def allP (l : List Pr) : Bool := l.all fun r => sameN r.x r.y
theorem allP_snoc (l : List Pr) (r : Pr) : allP (l ++ [r]) = (allP l && sameN r.x r.y) := by simp [allP]
theorem infoPr : (Tryd.prog.info? 62).map (fun i => (i.zero, i.size, i.bytes)) = some (some (.agg #[.pointer none, .pointer none]), 2, 16) := by kernel_rfl
theorem own_atN {w : World} {base n size : Nat} {e : TypeId} {v : Value} {xs : List Value} (h : w.ownsRow base e size v n xs) (hn : 0 < n) : ∃ g cap, v = .slice (some ⟨g, 0, none⟩) n cap ∧ base ≤ g ∧ g < w.heap.size ∧ n ≤ cap ∧ cap ≤ maxLen := by
  rcases h.2 with ⟨_, e⟩ | ⟨g, cap, cur, rfl, hg, hgg, hnc, hcm, _, _⟩
  · omega
  · exact ⟨g, cap, rfl, hg, block_lt hgg, hnc, hcm⟩
theorem own_cutN {w : World} {base n m cap size : Nat} {e : TypeId} {p : Option Addr} {xs : List Value} (h : w.ownsRow base e size (.slice p n cap) n xs) (hp : p ≠ none) (hm : m ≤ n) : w.ownsRow base e size (.slice p m cap) m (xs.take (m * size)) := by
  have hl := h.1
  have hle := Nat.mul_le_mul_right size hm
  rcases h.2 with ⟨e', _⟩ | ⟨g, cap', cur, e', hg, hgg, hnc, hcm, hcs, htake⟩
  · simp only [Value.slice.injEq] at e'; exact absurd e'.1 hp
  · simp only [Value.slice.injEq, true_and] at e'
    obtain ⟨rfl, rfl⟩ := e'
    refine ⟨by rw [List.length_take]; omega, .inr ⟨g, cap, cur, rfl, hg, hgg, by omega, hcm, hcs, ?_⟩⟩
    rw [← htake, List.take_take]
    congr 1
    omega
/-- What stands between two rounds. -/
structure SmAt (W0 : World) (B : Nat) (R0 : Bool) (st : List Pr) (v : Value) (wr : World) : Prop where
  own : wr.ownsRow W0.heap.size 62 2 v st.length (flatP st)
  keep : KeepW W0 W0.heap.size wr
  at' : ∀ r ∈ st, PrAt W0 B r
  res : R0 = allP st
/-- Six cells of two nodes. -/
theorem pr_cells {W0 wr : World} {B : Nat} {r : Pr} (h : PrAt W0 B r) (hk : KeepW W0 W0.heap.size wr) : ∃ A c A' c', (wr.cell? ⟨r.pb, r.po, none⟩ = some (.int .u8 (r.x.k : Int)) ∧ wr.cell? ⟨r.pb, r.po + 1, none⟩ = some (.string r.x.d) ∧ wr.cell? ⟨r.pb, r.po + 2, none⟩ = some (.slice A r.x.es.len c)) ∧
    (wr.cell? ⟨r.qb, r.qo, none⟩ = some (.int .u8 (r.y.k : Int)) ∧ wr.cell? ⟨r.qb, r.qo + 1, none⟩ = some (.string r.y.d) ∧ wr.cell? ⟨r.qb, r.qo + 2, none⟩ = some (.slice A' r.y.es.len c')) ∧ EsAt W0 B (.slice A r.x.es.len c) r.x.es ∧ EsAt W0 B (.slice A' r.y.es.len c') r.y.es := by
  obtain ⟨h1, h2, ⟨a1, a2, ⟨ev, a3, a4⟩, _, _⟩, b1, b2, ⟨fv, b3, b4⟩, _, _⟩ := h
  obtain ⟨A, c, rfl, _⟩ := a4.form
  obtain ⟨A', c', rfl, _⟩ := b4.form
  rw [add_none] at a2 a3 b2 b3
  exact ⟨A, c, A', c', ⟨(hk.1.cell (p := ⟨r.pb, r.po, none⟩) h1).trans a1, (hk.1.cell (p := ⟨r.pb, r.po + 1, none⟩) h1).trans a2, (hk.1.cell (p := ⟨r.pb, r.po + 2, none⟩) h1).trans a3⟩, ⟨(hk.1.cell (p := ⟨r.qb, r.qo, none⟩) h2).trans b1, (hk.1.cell (p := ⟨r.qb, r.qo + 1, none⟩) h2).trans b2, (hk.1.cell (p := ⟨r.qb, r.qo + 2, none⟩) h2).trans b3⟩, a4, b4⟩
/-- What stands between two rounds over two nodes' entries. -/
structure SiAt (W0 : World) (B : Nat) (R0 : Bool) (st : List Pr) (x y : Es) (i g g6 : Nat) (r : Pr) (v : Value) (wi : World) : Prop where
  own : wi.ownsRow W0.heap.size 62 2 v st.length (flatP st)
  keep : KeepW W0 W0.heap.size wi
  box : wi.heap[g6]? = some (.cells #[.pointer (some ⟨r.pb, r.po, none⟩), .pointer (some ⟨r.qb, r.qo, none⟩)] 62 (0, 0))
  ne : v.ownBlock ≠ some g6
  at' : ∀ r ∈ st, PrAt W0 B r
  res : R0 = (allP st && sameE (dropE i x) (dropE i y))
  wt : wtP st + (dropE i x).count = g
theorem SiAt.drewN {W0 : World} {B : Nat} {R0 : Bool} {st : List Pr} {x y : Es} {i g g6 : Nat} {r : Pr} {v : Value} {wi : World} (h : SiAt W0 B R0 st x y i g g6 r v wi) (q : Nat) : SiAt W0 B R0 st x y i g g6 r v (wi.drewN q) := by
  induction q with
  | zero => exact h
  | succ q ih => exact ⟨ih.own.drew, ih.keep.drew, ih.box, ih.ne, ih.at', ih.res, ih.wt⟩
theorem drop_count {es : Es} {i : Nat} (h : i < es.len) : (dropE i es).count = 1 + (kidE es i).es.count + (dropE (i + 1) es).count := by
  obtain ⟨nm, k, d, s, h1, h2⟩ := drop_head es i h
  rw [h1, h2]
  rfl
set_option maxRecDepth 1000000 in
set_option maxRecDepth 100000 in
set_option maxHeartbeats 4000000 in
theorem same_any (a b : Nd) (hca : a.es.count ≤ 1000000) (w : World) (B : Nat) (hB : B ≤ w.heap.size) (va vb : Value) (hva : NdV w B va a) (hvb : NdV w B vb b) :
    Calls Tryd.prog 22 #[va, vb] w fun e W => e = .returned (.bool (sameN a b)) ∧ Below w.heap.size w W := by
  obtain ⟨ea, rfl, hea, hda, hka⟩ := hva
  obtain ⟨A, ca, rfl, hla, hma⟩ := hea.form
  obtain ⟨eb, rfl, heb, hdb, hkb⟩ := hvb
  obtain ⟨A', cb, rfl, hlb, hmb⟩ := heb.form
  obtain ⟨i0, hi0, hz0, hz1, hzb⟩ := info_parts infoPr
  go_enter Tryd.func22, Tryd.ntmps22
  obtain ⟨W0, e0, hb0, hb1, hbw, hsz⟩ := rows2 w (.cells #[.int .u8 (a.k : Int), .string a.d, .slice A a.es.len ca] 26) (.cells #[.int .u8 (b.k : Int), .string b.d, .slice A' b.es.len cb] 26)
  obtain ⟨W1, e1, hg1, hbw1⟩ : ∃ W1, W1 = W0.alloc (.cells #[.pointer (some ⟨w.heap.size, 0, none⟩), .pointer (some ⟨w.heap.size + 1, 0, none⟩)] 62) ∧ W1.heap[W0.heap.size]? = some (.cells #[.pointer (some ⟨w.heap.size, 0, none⟩), .pointer (some ⟨w.heap.size + 1, 0, none⟩)] 62 (0, 0)) ∧ KeepW W0 W0.heap.size W1 := ⟨_, rfl, heap_alloc_new _ _, (KeepW.start (Nat.le_refl _)).alloc _⟩
  go_upto_region 2 with (fail)
  rw [← e0]
  have hsz' : w.heap.size + 1 + 1 = W0.heap.size := hsz.symm
  rw [hsz', ← e1]
  have hfirst : SmAt W0 B (sameN a b) [⟨w.heap.size, 0, w.heap.size + 1, 0, a, b⟩] (.slice (some ⟨W0.heap.size, 0, none⟩) 1 1) W1 := by
    refine ⟨⟨rfl, .inr ⟨W0.heap.size, 1, _, rfl, Nat.le_refl _, hg1, Nat.le_refl _, by decide, rfl, rfl⟩⟩, hbw1, fun r hr => ?_, by simp [allP]⟩
    rw [List.mem_singleton] at hr
    subst hr
    refine ⟨by show w.heap.size < _; omega, by show w.heap.size + 1 < _; omega, ⟨?_, ?_, ⟨.slice A a.es.len ca, ?_, hea.keep (hbw.mono hB)⟩, hda, hka⟩, ?_, ?_, ⟨.slice A' b.es.len cb, ?_, heb.keep (hbw.mono hB)⟩, hdb, hkb⟩
    · exact (nd_box (W := W0) (k := a.k) (d := a.d) (v := .slice A a.es.len ca) hb0).1
    · exact (nd_box (W := W0) (k := a.k) (d := a.d) (v := .slice A a.es.len ca) hb0).2.1
    · exact (nd_box (W := W0) (k := a.k) (d := a.d) (v := .slice A a.es.len ca) hb0).2.2.1
    · exact (nd_box (W := W0) (k := b.k) (d := b.d) (v := .slice A' b.es.len cb) hb1).1
    · exact (nd_box (W := W0) (k := b.k) (d := b.d) (v := .slice A' b.es.len cb) hb1).2.1
    · exact (nd_box (W := W0) (k := b.k) (d := b.d) (v := .slice A' b.es.len cb) hb1).2.2.1
  have HF := Lib.hid hfirst
  have HBW := Lib.hid hbw
  have HZ := Lib.hid hsz
  clear hfirst hbw hsz hsz' e0 e1 hg1 hbw1 hb0 hb1 hea heb
  go_loopg [5] (1 + a.es.count) (fun g u5 wx => ∃ st : List Pr, wtP st = g ∧ g ≤ 1 + a.es.count ∧ Hid (SmAt W0 B (sameN a b) st u5 wx))
  case atStart => exact ⟨_, by simp [wtP], Nat.le_refl _, HF.out⟩
  case round =>
    clear HF
    obtain ⟨st, hwt, hgm, HI⟩ := hrel
    have hbl : Below w.heap.size w wr := below_step HBW.out HI.out.keep.1 (by have := HZ.out; omega)
    have HBL := Lib.hid hbl
    clear hbl
    cases gk with
    | zero =>
      have hn : st = [] := List.eq_nil_of_length_eq_zero (by have := len_wtP st; omega)
      subst hn
      have HR := Lib.hid (show sameN a b = true from HI.out.res)
      obtain ⟨gv, cv, hv, _⟩ : ∃ gv cv, u5 = .slice gv 0 cv ∧ True := by
        rcases HI.out.own.2 with ⟨h, _⟩ | ⟨g, cap, cur, h, _⟩
        · exact ⟨_, _, h, trivial⟩
        · exact ⟨_, _, h, trivial⟩
      subst hv
      go_wp2
      go_ret
      exact ⟨by rw [HR.out]; rfl, HBL.out⟩
    | succ g =>
      rcases List.eq_nil_or_concat st with hn | ⟨st', r, hst⟩
      · subst hn; simp [wtP] at hwt
      rw [List.concat_eq_append] at hst
      subst hst
      rw [wtP_snoc] at hwt
      obtain ⟨gr, cap, hv, hgr1, hgr2, hcap, hcm⟩ := own_atN HI.out.own (by simp)
      rw [List.length_append, List.length_cons, List.length_nil, Nat.zero_add] at hv hcap
      subst hv
      have hlw := len_wtP st'
      obtain ⟨k, hk⟩ : ∃ k, k = st'.length := ⟨_, rfl⟩
      have hp1 : wr.cell? ⟨gr, k * 2, none⟩ = some (.pointer (some ⟨r.pb, r.po, none⟩)) := by
        have := HI.out.own.cells (g := gr) rfl (k * 2) (.pointer (some ⟨r.pb, r.po, none⟩)) (by rw [flatP_snoc, List.getElem?_append_right (by rw [flatP_len, hk]; exact Nat.le_refl _), flatP_len, hk, Nat.sub_self]; rfl)
        rwa [add_none, Nat.zero_add] at this
      have hp2 : wr.cell? ⟨gr, k * 2 + 1, none⟩ = some (.pointer (some ⟨r.qb, r.qo, none⟩)) := by
        have := HI.out.own.cells (g := gr) rfl (k * 2 + 1) (.pointer (some ⟨r.qb, r.qo, none⟩)) (by rw [flatP_snoc, List.getElem?_append_right (by rw [flatP_len, hk]; omega), flatP_len, hk, Nat.add_sub_cancel_left]; rfl)
        rwa [add_none, Nat.zero_add] at this
      rw [← hk] at hcap ⊢
      have HK := Lib.hid hk
      clear hk
      have hw1 : IntKind.i64.wrap (k : Int) = (k : Int) := IntWalk.i64_in _ (by have := HK.out; unfold maxLen at hcm; omega)
      have hc0 : cap ≠ 0 := by omega
      go_upto_region 5 with (fail)
      obtain ⟨W2, e2, hbx2, hk2⟩ : ∃ W2, W2 = wr.alloc (.cells #[.pointer (some ⟨r.pb, r.po, none⟩), .pointer (some ⟨r.qb, r.qo, none⟩)] 62) ∧ W2.heap[wr.heap.size]? = some (.cells #[.pointer (some ⟨r.pb, r.po, none⟩), .pointer (some ⟨r.qb, r.qo, none⟩)] 62 (0, 0)) ∧ KeepW W0 W0.heap.size W2 := ⟨_, rfl, heap_alloc_new _ _, HI.out.keep.alloc _⟩
      have ho : wr.ownsRow W0.heap.size 62 2 (.slice (some ⟨gr, 0, none⟩) (st'.length + 1) cap) (st'.length + 1) (flatP (st' ++ [r])) := by
        have := HI.out.own
        rw [show (st' ++ [r]).length = st'.length + 1 by simp] at this
        exact this
      have ho2 : W2.ownsRow W0.heap.size 62 2 (.slice (some ⟨gr, 0, none⟩) k cap) st'.length (flatP st') := by
        rw [e2, HK.out]
        have := (own_cutN ho (by simp) (show st'.length ≤ st'.length + 1 by omega)).alloc (.cells #[.pointer (some ⟨r.pb, r.po, none⟩), .pointer (some ⟨r.qb, r.qo, none⟩)] 62)
        rw [flatP_snoc, List.take_left' (flatP_len st')] at this
        exact this
      have hpr := HI.out.at' r (by simp)
      have hres : sameN a b = (allP st' && sameN r.x r.y) := by rw [HI.out.res, allP_snoc]
      obtain ⟨Ax, cx, Ay, cy, ⟨hx0, hx1, hx2⟩, ⟨hy0, hy1, hy2⟩, hex, hey⟩ := pr_cells hpr hk2
      have hbc0 : W2.cell? ⟨wr.heap.size, 0, none⟩ = some (.pointer (some ⟨r.pb, r.po, none⟩)) := (blk_cell hbx2 0).trans rfl
      have hbc1 : W2.cell? ⟨wr.heap.size, 1, none⟩ = some (.pointer (some ⟨r.qb, r.qo, none⟩)) := (blk_cell hbx2 1).trans rfl
      have hne : (Value.slice (some ⟨gr, 0, none⟩) k cap).ownBlock ≠ some wr.heap.size := fun e => absurd (show gr = wr.heap.size by simpa [Value.ownBlock] using e) (by omega)
      have hbl2 : Below w.heap.size w W2 := below_step HBW.out hk2.1 (by have := HZ.out; omega)
      have H2 := Lib.hid (And.intro ho2 (And.intro hk2 (And.intro hbx2 (And.intro hne (And.intro hres hbl2)))))
      have HAT := Lib.hid (fun (q : Pr) (hq : q ∈ st') => HI.out.at' q (by simp [hq]))
      have HPR := Lib.hid (And.intro hpr (And.intro hex hey))
      have HWT := Lib.hid hwt
      rw [← e2]
      clear e2 ho ho2 hk2 hbx2 hne hres hbl2 hpr hex hey hp1 hp2 hgr1 hgr2 hcap hcm hc0 hw1 hlw hwt HI
      generalize wr.heap.size = g6 at *
      have HS := Lib.hid (show sameN r.x r.y = ((r.x.k == r.y.k) && (r.x.d.toList == r.y.d.toList) && sameE r.x.es r.y.es) from rfl)
      rcases Bool.eq_false_or_eq_true (r.x.k == r.y.k) with hk | hk
      rotate_left
      · have HF := Lib.hid (show sameN a b = false by rw [H2.out.2.2.2.2.1, HS.out, hk]; simp)
        have hkI : ((r.x.k : Int) == (r.y.k : Int)) = false := beq_eq_false_iff_ne.2 (fun e => by
          have : r.x.k ≠ r.y.k := by simpa using hk
          omega)
        have hkN : ((r.x.k : Int) != (r.y.k : Int)) = true := by rw [bne, hkI]; rfl
        go_quiet (fail)
        go_wp2
        go_ret
        exact ⟨by rw [HF.out]; rfl, below_drewN H2.out.2.2.2.2.2 _⟩
      have hkI : ((r.x.k : Int) == (r.y.k : Int)) = true := by rw [beq_iff_eq] at hk; rw [hk]; simp
      have hkN : ((r.x.k : Int) != (r.y.k : Int)) = false := by rw [bne, hkI]; rfl
      rcases Bool.eq_false_or_eq_true (r.x.d.toList == r.y.d.toList) with hd | hd
      rotate_left
      · have HF := Lib.hid (show sameN a b = false by rw [H2.out.2.2.2.2.1, HS.out, hk, hd]; simp)
        have hdN : (r.x.d.toList != r.y.d.toList) = true := by rw [bne, hd]; rfl
        go_quiet (fail)
        go_wp2
        go_ret
        exact ⟨by rw [HF.out]; rfl, below_drewN H2.out.2.2.2.2.2 _⟩
      have hdN : (r.x.d.toList != r.y.d.toList) = false := by rw [bne, hd]; rfl
      rcases Decidable.em (r.x.es.len = r.y.es.len) with hl | hl
      rotate_left
      · have HF := Lib.hid (show sameN a b = false by
          rw [H2.out.2.2.2.2.1, HS.out, hk, hd]
          cases hq : sameE r.x.es r.y.es with
          | false => simp
          | true => exact absurd (same_len hq) hl)
        have hlI : ((r.x.es.len : Int) == (r.y.es.len : Int)) = false := beq_eq_false_iff_ne.2 (fun e => by omega)
        have hlN : ((r.x.es.len : Int) != (r.y.es.len : Int)) = true := by rw [bne, hlI]; rfl
        clear hl
        go_quiet (fail)
        go_wp2
        go_ret
        exact ⟨by rw [HF.out]; rfl, below_drewN H2.out.2.2.2.2.2 _⟩
      have hlI : ((r.x.es.len : Int) == (r.y.es.len : Int)) = true := by rw [hl]; simp
      have hlN : ((r.x.es.len : Int) != (r.y.es.len : Int)) = false := by rw [bne, hlI]; rfl
      have HI0 := Lib.hid (show SiAt W0 B (sameN a b) st' r.x.es r.y.es 0 g g6 r (.slice (some ⟨gr, 0, none⟩) k cap) W2 from ⟨H2.out.1, H2.out.2.1, H2.out.2.2.1, H2.out.2.2.2.1, HAT.out, by rw [H2.out.2.2.2.2.1, HS.out, hk, hd]; simp [dropE], by have := HWT.out; simp only [dropE]; omega⟩)
      have HCT := Lib.hid (show r.x.es.count ≤ 1000000 by have := HWT.out; omega)
      have HWT2 := Lib.hid (show g ≤ 1000000 by omega)
      have HL := Lib.hid hl
      clear hl
      go_quiet (fail)
      have HI1 := Lib.hid (HI0.out.drewN nq)
      have hxa : (W2.drewN nq).cell? ⟨r.pb, r.po + 2, none⟩ = some (.slice Ax r.x.es.len cx) := by rw [RdT.cell_drew rfl]; exact hx2
      have hxb : (W2.drewN nq).cell? ⟨g6, 0, none⟩ = some (.pointer (some ⟨r.pb, r.po, none⟩)) := by rw [RdT.cell_drew rfl]; exact hbc0
      clear HI0 HS hk hd hkI hkN hdN hlI hlN hx0 hx1 hx2 hy0 hy1 hy2 hbc0 hbc1 HAT H2 HWT
      generalize W2.drewN nq = W3 at *
      go_wp2
      clear hxa hxb
      go_loopg [5, 71] r.x.es.len (fun q u5 u71 wx => ∃ (st : List Pr) (i : Nat), u71 = .int .i64 (i : Int) ∧ i + q = r.x.es.len ∧ Hid (SiAt W0 B (sameN a b) st r.x.es r.y.es i g g6 r u5 wx))
      case atStart => exact ⟨st', 0, rfl, by omega, HI1⟩
      case round =>
        clear HI1
        obtain ⟨st, i, rfl, hig, HI⟩ := hrel
        obtain ⟨wi, hwi⟩ : ∃ wi, wi = wr := ⟨_, rfl⟩
        have hbl : Below w.heap.size w wr := below_step HBW.out HI.out.keep.1 (by have := HZ.out; omega)
        have HBL := Lib.hid hbl
        clear hbl hwi wi
        cases gk with
        | zero =>
          obtain rfl : i = r.x.es.len := by omega
          have HF := Lib.hid (show SmAt W0 B (sameN a b) st u5 wr from ⟨HI.out.own, HI.out.keep, HI.out.at', by rw [HI.out.res, drop_all, HL.out, drop_all]; simp [sameE]⟩)
          have hw0 : wtP st = g := by have := HI.out.wt; rw [drop_all] at this; simpa [Es.count] using this
          go_wp2
          go_roundg g
          case measure => omega
          case rel => exact ⟨st, hw0, by omega, HF.out⟩
        | succ gi =>
          have hil : i < r.x.es.len := by omega
          have hil2 : i < r.y.es.len := by have := HL.out; omega
          obtain ⟨Bx, dx, By, dy, ⟨_, _, hx2'⟩, ⟨_, _, hy2'⟩, hex, hey⟩ := pr_cells HPR.out.1 HI.out.keep
          obtain ⟨ab, ao, rfl, hlt, hcs⟩ := es_addr hex (by omega)
          obtain ⟨bb, bo, rfl, hlt2, hcs2⟩ := es_addr hey (by omega)
          obtain ⟨nm, nm', ⟨k1, d1, s1, hdr1⟩, ⟨k2, d2, s2, hdr2⟩, hsame⟩ := drop_same hil hil2
          have hBW : B ≤ W0.heap.size := by have := HZ.out; omega
          have hnc : wr.cell? ⟨ab, ao + i * 4, none⟩ = some (.string nm) := (HI.out.keep.1.cell (p := ⟨ab, ao + i * 4, none⟩) (by show ab < _; omega)).trans (by have := cells_drop i hcs; rw [hdr1] at this; exact this.1)
          have hnc2 : wr.cell? ⟨bb, bo + i * 4, none⟩ = some (.string nm') := (HI.out.keep.1.cell (p := ⟨bb, bo + i * 4, none⟩) (by show bb < _; omega)).trans (by have := cells_drop i hcs2; rw [hdr2] at this; exact this.1)
          have hq0 : wr.cell? ⟨g6, 0, none⟩ = some (.pointer (some ⟨r.pb, r.po, none⟩)) := (blk_cell HI.out.box 0).trans rfl
          have hq1 : wr.cell? ⟨g6, 1, none⟩ = some (.pointer (some ⟨r.qb, r.qo, none⟩)) := (blk_cell HI.out.box 1).trans rfl
          have hiI : (i : Int) < (r.x.es.len : Int) := by omega
          have hiI2 : (i : Int) < (r.y.es.len : Int) := by omega
          have hi0' : (0 : Int) ≤ (i : Int) := by omega
          have HSM := Lib.hid hsame
          have HX := Lib.hid (And.intro hlt (And.intro hcs (And.intro hlt2 hcs2)))
          clear hdr1 hdr2 hsame hlt hcs hlt2 hcs2 hex hey
          rcases Bool.eq_false_or_eq_true (nm.toList == nm'.toList) with hq | hq
          rotate_left
          · have HF := Lib.hid (show sameN a b = false by rw [HI.out.res, HSM.out, hq]; simp)
            have hqI : (nm.toList != nm'.toList) = true := by rw [bne, hq]; rfl
            go_wp2
            go_quiet (fail)
            have hnq : (wr.drewN nq).cell? ⟨ab, ao + i * 4, none⟩ = some (.string nm) := by rw [RdT.cell_drew rfl]; exact hnc
            have hnq2 : (wr.drewN nq).cell? ⟨bb, bo + i * 4, none⟩ = some (.string nm') := by rw [RdT.cell_drew rfl]; exact hnc2
            have HB2 := Lib.hid (below_drewN HBL.out nq)
            clear hnc hnc2 hx2' hy2' hq0 hq1
            generalize wr.drewN nq = W4 at *
            go_wp2
            go_quiet (fail)
            go_wp2
            go_ret
            exact ⟨by rw [HF.out]; rfl, below_drewN HB2.out _⟩
          have hqI : (nm.toList != nm'.toList) = false := by rw [bne, hq]; rfl
          obtain ⟨hk1, hk2, hk3, hk4, A2, c2, hk5, hk6⟩ := kid_at HX.out.2.1 hil HX.out.1
          obtain ⟨hj1, hj2, hj3, hj4, A3, c3, hj5, hj6⟩ := kid_at HX.out.2.2.2 hil2 HX.out.2.2.1
          obtain ⟨r2, hr2⟩ : ∃ r2 : Pr, r2 = ⟨ab, ao + i * 4 + 1, bb, bo + i * 4 + 1, kidE r.x.es i, kidE r.y.es i⟩ := ⟨_, rfl⟩
          have hat2 : PrAt W0 B r2 := by
            rw [hr2]
            refine ⟨Nat.lt_of_lt_of_le HX.out.1 hBW, Nat.lt_of_lt_of_le HX.out.2.2.1 hBW, ⟨hk1, ?_, ⟨_, ?_, hk6⟩, hk3, hk4⟩, hj1, ?_, ⟨_, ?_, hj6⟩, hj3, hj4⟩
            · rw [add_none]; exact hk2
            · rw [add_none]; exact hk5
            · rw [add_none]; exact hj2
            · rw [add_none]; exact hj5
          have hres2 : sameN a b = (allP (st ++ [r2]) && sameE (dropE (i + 1) r.x.es) (dropE (i + 1) r.y.es)) := by
            rw [HI.out.res, HSM.out, hq, allP_snoc, hr2]
            cases allP st <;> simp
          have hwt2 : wtP (st ++ [r2]) + (dropE (i + 1) r.x.es).count = g := by
            have h1 := HI.out.wt
            have h2 := drop_count hil
            rw [wtP_snoc, hr2]
            show wtP st + (1 + (kidE r.x.es i).es.count) + _ = g
            omega
          have H9 := Lib.hid (And.intro hat2 (And.intro hres2 hwt2))
          have HP1 := Lib.hid (show (⟨r2.pb, r2.po, none⟩ : Addr) = ⟨ab, ao + i * 4 + 1, none⟩ by rw [hr2])
          have HP2 := Lib.hid (show (⟨r2.qb, r2.qo, none⟩ : Addr) = ⟨bb, bo + i * 4 + 1, none⟩ by rw [hr2])
          have hfew : st.length ≤ 1000001 := by have h1 := len_wtP st; have h2 := HI.out.wt; have h3 := HWT2.out; omega
          clear hk1 hk2 hk3 hk4 hk5 hk6 hj1 hj2 hj3 hj4 hj5 hj6 hat2 hres2 hwt2 hr2 HSM
          go_wp2
          go_quiet (fail)
          have hnq : (wr.drewN nq).cell? ⟨ab, ao + i * 4, none⟩ = some (.string nm) := by rw [RdT.cell_drew rfl]; exact hnc
          have hnq2 : (wr.drewN nq).cell? ⟨bb, bo + i * 4, none⟩ = some (.string nm') := by rw [RdT.cell_drew rfl]; exact hnc2
          have HI2 := Lib.hid (HI.out.drewN nq)
          clear hnc hnc2 hx2' hy2' hq0 hq1 HI
          generalize wr.drewN nq = W4 at *
          go_wp2
          go_quiet (fail)
          have HI3 := Lib.hid (HI2.out.drewN nq)
          clear hnq hnq2 HI2
          generalize W4.drewN nq = W5 at *
          have HB5 := Lib.hid (below_step HBW.out HI3.out.keep.1 (by have := HZ.out; omega))
          obtain ⟨g5, c5, hv5⟩ : ∃ A5 c5, u5 = .slice A5 st.length c5 := by
            rcases HI3.out.own.2 with ⟨h, h0⟩ | ⟨gq, capq, cur, h, _⟩
            · exact ⟨none, 0, by rw [h, h0]⟩
            · exact ⟨_, _, h⟩
          subst hv5
          have HO5 := Lib.hid ((HI3.out.own.alloc (.cells #[.pointer (some ⟨ab, ao + i * 4 + 1, none⟩), .pointer (some ⟨bb, bo + i * 4 + 1, none⟩)] 62)).drew)
          have hnz : ((W5.alloc (.cells #[.pointer (some ⟨ab, ao + i * 4 + 1, none⟩), .pointer (some ⟨bb, bo + i * 4 + 1, none⟩)] 62)).drew).heap[W5.heap.size]? = some (.cells #[.pointer (some ⟨ab, ao + i * 4 + 1, none⟩), .pointer (some ⟨bb, bo + i * 4 + 1, none⟩)] 62) := heap_alloc_new W5 _
          have HNZ := Lib.hid (World.news_of_block hnz)
          have HKP := Lib.hid ((HI3.out.keep.alloc (.cells #[.pointer (some ⟨ab, ao + i * 4 + 1, none⟩), .pointer (some ⟨bb, bo + i * 4 + 1, none⟩)] 62)).drew)
          clear hnz
          go_wp2
          go_region_law ((refine step_append_lies _ (by rfl) _ _ _ (by rfl) W0.heap.size 62 i0 _ 2 16 Tryd.underlying63 hi0 hz0 hz1 hzb rfl (by omega) (.slice g5 st.length c5) st.length _ (by rfl) HO5.out ⟨W5.heap.size, 0, none⟩ 1 1 [.pointer (some ⟨ab, ao + i * 4 + 1, none⟩), .pointer (some ⟨bb, bo + i * 4 + 1, none⟩)] (by rfl) (by rfl) HNZ.out (by intro u hu; simp at hu; rcases hu with rfl | rfl <;> rfl) (by omega) (by unfold maxLen; omega) (by omega) (by have := HKP.out.2; exact this) (W5.heap.size + 1) (by simp) ?_; intro gg cap6 W6 hown6 hgrow6 hat6 hlt6))
          all_goals
            have hzw : W5.heap.size + 1 ≤ W6.heap.size := by have := hgrow6.size; simpa using this
            have hbx := (hgrow6.block g6 (by have := block_lt HI3.out.box; show g6 < ((W5.alloc _).drew).heap.size; simp; omega) (fun e => HI3.out.ne e.symm)).trans ((old_block W5 (.cells #[.pointer (some ⟨ab, ao + i * 4 + 1, none⟩), .pointer (some ⟨bb, bo + i * 4 + 1, none⟩)] 62) g6 (block_lt HI3.out.box)).trans HI3.out.box)
            have hne6 : (Value.slice (some ⟨gg, 0, none⟩) (st.length + 1) cap6).ownBlock ≠ some g6 := fun e => by
              have e' : gg = g6 := by simpa [Value.ownBlock] using e
              rcases hat6 with h | h
              · exact HI3.out.ne (by rw [h, e'])
              · have := block_lt HI3.out.box; omega
            have hkp6 : KeepW W0 W0.heap.size W6 := ⟨HKP.out.1.grown hgrow6 HKP.out.2 (fun k e => (HI3.out.own.lt k e).1), Nat.le_trans HKP.out.2 hgrow6.size⟩
            have HN := Lib.hid (show SiAt W0 B (sameN a b) (st ++ [r2]) r.x.es r.y.es (i + 1) g g6 r (.slice (some ⟨gg, 0, none⟩) (st.length + 1) cap6) W6 from by
              refine ⟨?_, hkp6, hbx, hne6, fun q hq => ?_, H9.out.2.1, H9.out.2.2⟩
              · rw [flatP_snoc, HP1.out, HP2.out, List.length_append]
                exact hown6
              · rw [List.mem_append, List.mem_singleton] at hq
                rcases hq with hq | rfl
                · exact HI3.out.at' q hq
                · exact H9.out.1)
            clear hown6 hgrow6 hat6 hlt6 hzw hbx hne6 hkp6 HO5 HNZ HKP HI3
            have hw9 : IntKind.i64.wrap ((i : Int) + 1) = (i : Int) + 1 := IntWalk.i64_in _ (by have := len_le_count r.x.es; have := HCT.out; omega)
            go_wp2
            go_roundg gi
            case measure => omega
            case rel => exact ⟨st ++ [r2], i + 1, by simp, by omega, HN.out⟩
end Go.Proofs.YtmcafiihicanfaaDoor
