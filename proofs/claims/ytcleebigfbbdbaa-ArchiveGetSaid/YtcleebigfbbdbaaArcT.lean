/- archive: Get. -/
import Derived.Test.YtcleebigfbbdbaaArcR
set_option linter.unusedVariables false
set_option linter.unusedSimpArgs false
namespace Go.Proofs.Ytcleebigfbbdbaa
open Go Go.RowKit Go.BigFrame
open Fil (Es Nd Sp)
open Arc (BL num4 num2 encT letK encE encN sizE sizN rfN rdN rfE rdE rdT rd2 beN)
attribute [local go_sem] Oper.semAt_some

def GPost (w : World) (r : Nat × Nd) (e : Ending) (W : World) : Prop :=
  Below w.heap.size w W ∧ ∃ v, e = .returned (.tuple #[v, .int .i64 (r.1 : Int)]) ∧ NdS W (Nw w W) v r.2
theorem get_results {fn : Func} (hfn : fn.results = #[.cell 2 24, .cell 3 28]) {W : World} {g q : Nat} {cs : Array Value} {x : Int} {t : Array Value} (hcs : cs.size = 3) (h : W.heap[g]? = some (.cells cs 24 (0, 0))) (hq : W.cell? ⟨q, 0, none⟩ = some (.int .i64 x)) (hp : t.getD 2 undef = .pointer (some ⟨g, 0, none⟩)) (hp3 : t.getD 3 undef = .pointer (some ⟨q, 0, none⟩)) :
    (results fn t).run Try.prog W = .ok (.tuple #[.agg cs, .int .i64 x]) W := by
  have hi : (Try.prog.info? 24).map (·.size) = some cs.size := by rw [hcs]; kernel_rfl
  have hp' : t[2]?.getD undef = .pointer (some ⟨g, 0, none⟩) := by simpa using hp
  have hp3' : t[3]?.getD undef = .pointer (some ⟨q, 0, none⟩) := by simpa using hp3
  have hl := run_loadVar_row W g _ 24 cs (0, 0) _ h Try.underlying24 (by rfl) hi
  have hl2 : (loadVar 28 ⟨q, 0, none⟩).run Try.prog W = .ok (.int .i64 x) W := by simp [hq, go_sem]
  simp [results, hfn, hp', hp3', asAddr, hl, hl2]
def getD1 (w : World) : Deferred := { target := .fn (.func 30) #[.pointer (some ⟨w.heap.size, 0, none⟩), .pointer (some ⟨w.heap.size + 1, 0, none⟩)], args := #[] }
/-- Given up: the deferred call answers. -/
theorem get_door {w W : World} {t : Array Value} {r : Nat × Nd} (h1 : W.heap[w.heap.size]? = some (ndCells 0 ⟨#[]⟩ (.slice none 0 0))) (h2 : W.heap[w.heap.size + 1]? = some (.cells #[.int .i64 0] 28 (0, 0))) (hb : Below w.heap.size w W) (hr : r = (80, zNd))
    (ht2 : t.getD 2 undef = .pointer (some ⟨w.heap.size, 0, none⟩)) (ht3 : t.getD 3 undef = .pointer (some ⟨w.heap.size + 1, 0, none⟩)) :
    bodyPostD Try.prog Try.f14 (GPost w r) (Exit.panic noCh) { tmps := t, defers := [getD1 w] } W := by
  refine leaves_cons (f := 30) (args := #[.pointer (some ⟨w.heap.size, 0, none⟩), .pointer (some ⟨w.heap.size + 1, 0, none⟩)]) (by simp) (by simp [go_sem]) ?_
  refine (get1_panic _ _ _ _ _ _ _ h1 h2).mono ?_
  rintro e u' w'' ⟨rfl, rfl, rfl⟩
  have hx1 : ((W.setRow w.heap.size #[.int .u8 0, .string ⟨#[]⟩, .slice none 0 0]).setCell ⟨w.heap.size + 1, 0, none⟩ (.int .i64 80)).heap[w.heap.size]? = some (.cells #[.int .u8 0, .string ⟨#[]⟩, .slice none 0 0] 24 (0, 0)) :=
    (heap_setCell_other _ _ _ _ (by show w.heap.size ≠ w.heap.size + 1; omega)).trans (setRow_heap _ _ _ _ _ _ h1)
  have hx2 : ((W.setRow w.heap.size #[.int .u8 0, .string ⟨#[]⟩, .slice none 0 0]).setCell ⟨w.heap.size + 1, 0, none⟩ (.int .i64 80)).heap[w.heap.size + 1]? = some (.cells #[.int .i64 80] 28 (0, 0)) :=
    one_put ((setRow_other _ _ _ _ (by omega)).trans h2) _
  refine ⟨_, get_results rfl rfl hx1 (one_box hx2).1 ht2 ht3, ?_, .agg #[.int .u8 0, .string ⟨#[]⟩, .slice none 0 0], ?_, ?_⟩
  · exact (below_setRow hb (Nat.le_refl _) _).setCell (p := ⟨w.heap.size + 1, 0, none⟩) (by show w.heap.size ≤ w.heap.size + 1; omega) _
  · rw [hr]; rfl
  · rw [hr]; exact ⟨_, rfl, EsS.nil _ _, Nat.zero_le _, by decide⟩
theorem get_keep {w W W2 : World} {g : Nat} (h1 : W.heap[w.heap.size]? = some (ndCells 0 ⟨#[]⟩ (.slice none 0 0))) (h2 : W.heap[w.heap.size + 1]? = some (.cells #[.int .i64 0] 28 (0, 0))) (hb : Below w.heap.size w W) (hc : Ch W W2 (One g)) (hg : g = w.heap.size + 1 + 1) (hz : w.heap.size + 3 ≤ W.heap.size) :
    W2.heap[w.heap.size]? = some (ndCells 0 ⟨#[]⟩ (.slice none 0 0)) ∧ W2.heap[w.heap.size + 1]? = some (.cells #[.int .i64 0] 28 (0, 0)) ∧ Below w.heap.size w W2 ∧ W.heap.size ≤ W2.heap.size :=
  ⟨hc.heap h1 (fun e => by have : w.heap.size = g := e; omega), hc.heap h2 (fun e => by have : w.heap.size + 1 = g := e; omega), hb.trans (hc.below (by omega) (fun k hk => by have : k = g := hk; omega)), hc.size⟩
theorem rdN_count {f : Nat} {l r : BL} {m : Nat} {y : Nd} (h : rdN f l 0 = some (y, r, m)) : y.es.count ≤ 4096 := by
  rw [Arc.rdN_cut] at h
  cases hf : rfN f l with
  | none => rw [hf] at h; cases h
  | some p =>
    obtain ⟨y', r'⟩ := p
    rw [hf] at h
    have h' : (if 0 + y'.count ≤ 4096 then some (y', r', 0 + y'.count) else none) = some (y, r, m) := h
    by_cases hc : 0 + y'.count ≤ 4096
    · rw [if_pos hc] at h'
      cases h'
      have : y.count = 1 + y.es.count := rfl
      omega
    · rw [if_neg hc] at h'
      cases h'
theorem getB_rd (b : BL) : getB b = (match rdN 33 b 0 with | none => (80, zNd) | some (y, r, _) => if r = [] then (if y.right then (0, y) else (80, zNd)) else (80, zNd)) := by
  unfold getB
  rw [Arc.rdN_cut]
  cases h : rfN 33 b with
  | none => rfl
  | some p =>
    obtain ⟨y, r⟩ := p
    show _ = (match (if 0 + y.count ≤ 4096 then some (y, r, 0 + y.count) else none) with | none => _ | some (y, r, _) => _)
    by_cases hc : 0 + y.count ≤ 4096
    · rw [if_pos hc]
      cases r with
      | nil => rfl
      | cons a r => rfl
    · rw [if_neg hc]
      have hr : y.right = false := by
        unfold Fil.Nd.right
        rw [decide_eq_false (by omega : ¬ y.count ≤ 4096)]
        rfl
      cases r with
      | nil => simp only [hr]; rfl
      | cons a r => rfl
set_option maxRecDepth 1000000 in
set_option maxRecDepth 100000 in
set_option maxHeartbeats 4000000 in
theorem getArc_any (l : BL) (w : World) (B : Nat) (hBw : B ≤ w.heap.size) (v : Value) (hv : BytAt w B v l) :
    Calls Try.prog 14 #[v] w (GPost w (getR l)) := by
  have hmf : ∀ (fn : Fn) (first cap : Array Value) (w : World), (Instr.makeFunc fn first cap).run Try.prog w = .ok (.func fn first cap) w := fun _ _ _ _ => rfl
  have HV := Lib.hid hv
  obtain ⟨A, cap, rfl, hcp⟩ := hv.form
  clear hv
  rcases Nat.lt_or_ge 1048576 l.length with hbg | hsm
  · have hI : decide ((1048576 : Int) < (l.length : Int)) = true := decide_eq_true (by omega)
    have hI2 : (1048576 : Int) < (l.length : Int) := by omega
    have HR := Lib.hid (show getR l = (3, zNd) by unfold getR; rw [if_pos hbg])
    go_enter_defers Try.func14, Try.ntmps14
    go_wp2
    have hb2 : Below w.heap.size w ((w.alloc (.cells #[.int .u8 0, .string ⟨#[]⟩, .slice none 0 0] 24)).alloc (.cells #[.int .i64 3] 28)) := ((Below.refl _ w).alloc (Nat.le_refl _) _).alloc (by simp) _
    have hx1 : ((w.alloc (.cells #[.int .u8 0, .string ⟨#[]⟩, .slice none 0 0] 24)).alloc (.cells #[.int .i64 3] 28)).heap[w.heap.size]? = some (.cells #[.int .u8 0, .string ⟨#[]⟩, .slice none 0 0] 24 (0, 0)) := (old_block _ _ _ (by simp)).trans (heap_alloc_new _ _)
    have hx2 : ((w.alloc (.cells #[.int .u8 0, .string ⟨#[]⟩, .slice none 0 0] 24)).alloc (.cells #[.int .i64 3] 28)).heap[w.heap.size + 1]? = some (.cells #[.int .i64 3] 28 (0, 0)) := by
      have := heap_alloc_new (w.alloc (.cells #[.int .u8 0, .string ⟨#[]⟩, .slice none 0 0] 24)) (.cells #[.int .i64 3] 28)
      simpa using this
    refine ⟨_, get_results rfl rfl hx1 (one_box hx2).1 rfl rfl, hb2, .agg #[.int .u8 0, .string ⟨#[]⟩, .slice none 0 0], ?_, ?_⟩
    · rw [HR.out]; rfl
    · rw [HR.out]; exact ⟨_, rfl, EsS.nil _ _, Nat.zero_le _, by decide⟩
  · have hI : decide ((1048576 : Int) < (l.length : Int)) = false := decide_eq_false (by omega)
    have hI2 : ¬ (1048576 : Int) < (l.length : Int) := by omega
    obtain ⟨W0, e0, hx1, hx2, hx3, hb0, hz0⟩ := rows3 w (.cells #[.int .u8 0, .string ⟨#[]⟩, .slice none 0 0] 24) (.cells #[.int .i64 0] 28) (.cells #[.string (strOf l), .int .i64 0] 54)
    have hcv : (convert 27 9 (.slice A l.length cap)).run Try.prog ((w.alloc (.cells #[.int .u8 0, .string ⟨#[]⟩, .slice none 0 0] 24)).alloc (.cells #[.int .i64 0] 28)) = .ok (.string (strOf l)) ((w.alloc (.cells #[.int .u8 0, .string ⟨#[]⟩, .slice none 0 0] 24)).alloc (.cells #[.int .i64 0] 28)) :=
      (HV.out.keep (((Below.refl B w).alloc hBw _).alloc (by simp; omega) _)).conv
    have hgr : getR l = if l.take 4 = [84, 65, 82, 49] then getB (l.drop 4) else (80, zNd) := by unfold getR; rw [if_neg (by omega)]
    have HGR := Lib.hid hgr
    obtain ⟨g, hg⟩ : ∃ g, g = w.heap.size + 1 + 1 := ⟨_, rfl⟩
    have hrd0 : Rdr W0 g l 0 := by rw [hg]; exact hx3
    have HTK := Lib.hid (take_any W0 g l 0 4 hrd0 (by omega))
    have HB0 := Lib.hid (And.intro hx1 (And.intro hx2 (And.intro hb0 hz0)))
    clear hgr hx1 hx2 hx3 hb0 hz0 hrd0
    go_enter_defers Try.func14, Try.ntmps14
    go_wp2_with fail
    rw [← hg, ← e0]
    clear e0 hcv hI hI2
    have HG := Lib.hid hg
    clear hg
    refine HTK.out.mono ?_
    rintro e W1 ⟨hch1, (⟨hle, rfl, hrd1⟩ | ⟨hlt, rfl⟩)⟩
    rotate_left
    · have hb1 := get_keep HB0.out.1 HB0.out.2.1 HB0.out.2.2.1 hch1 HG.out (by have := HB0.out.2.2.2; omega)
      refine get_door hb1.1 hb1.2.1 hb1.2.2.1 ?_ rfl rfl
      rw [HGR.out, if_neg]
      intro e
      have := congrArg List.length e
      rw [List.length_take] at this
      simp at this
      omega
    have HB1 := Lib.hid (get_keep HB0.out.1 HB0.out.2.1 HB0.out.2.2.1 hch1 HG.out (by have := HB0.out.2.2.2; omega))
    have HZ1 := Lib.hid (show w.heap.size + 3 ≤ W1.heap.size by have := hch1.size; have := HB0.out.2.2.2; omega)
    clear hch1
    have hst : (strOf (l.take 4)).toList = l.take 4 := by rw [Lib.toList_data]; simp [strOf]
    obtain ⟨t4, ht4⟩ : ∃ t4, t4 = strOf (l.take 4) := ⟨_, rfl⟩
    by_cases hm : l.take 4 = [84, 65, 82, 49]
    rotate_left
    · have hmb : (t4.toList == [84, 65, 82, 49]) = false := by rw [ht4, hst]; exact beq_eq_false_iff_ne.2 hm
      have HR := Lib.hid (show getR l = (80, zNd) by rw [HGR.out, if_neg hm])
      rw [← ht4]
      clear ht4 hst hm hrd1
      go_wp2_with (first | (refine (amust_false _).mono ?_; intro eQ WQ hQ; obtain ⟨hQ1, hQ2⟩ := hQ; have hQ3 := hQ1.symm; subst hQ3; subst hQ2))
      exact get_door HB1.out.1 HB1.out.2.1 HB1.out.2.2.1 HR.out rfl rfl
    have hmb : (t4.toList == [84, 65, 82, 49]) = true := by rw [ht4, hst, hm]; rfl
    have HGB := Lib.hid (show getR l = (match rdN 33 (l.drop 4) 0 with | none => (80, zNd) | some (y, r, _) => if r = [] then (if y.right then (0, y) else (80, zNd)) else (80, zNd)) by rw [HGR.out, if_pos hm, getB_rd])
    have HND := Lib.hid (rnode_any g 33 0 rfl W1 (l.drop 4) 0 (by rw [List.length_drop]; omega) (by omega) hrd1)
    rw [← ht4]
    clear ht4 hst hm hrd1
    go_wp2_with (first | (refine (amust_true _).mono ?_; intro eQ WQ hQ; obtain ⟨hQ1, vQ, hQ2⟩ := hQ; have hQ3 := hQ1.symm; subst hQ3; subst hQ2))
    clear hmb
    refine HND.out.mono ?_
    rintro e W2 ⟨hch2, hm2⟩
    cases hT : rdN 33 (l.drop 4) 0 with
    | none =>
      rw [hT] at hm2
      subst hm2
      have hb2 := get_keep HB1.out.1 HB1.out.2.1 HB1.out.2.2.1 hch2 HG.out (by have := HZ1.out; omega)
      refine get_door hb2.1 hb2.2.1 hb2.2.2.1 ?_ rfl rfl
      rw [HGB.out, hT]
    | some p =>
      obtain ⟨y, r, n3⟩ := p
      rw [hT] at hm2
      obtain ⟨hl3, hn3, hrd2, v, rfl, ev, rfl, hes, hyd, hyk⟩ := hm2
      dsimp only at hl3 hn3 hrd2 hes hyd hyk
      obtain ⟨A2, c2, rfl, hlc2, hcm2⟩ := hes.form
      have HB2 := Lib.hid (get_keep HB1.out.1 HB1.out.2.1 HB1.out.2.2.1 hch2 HG.out (by have := HZ1.out; omega))
      have HZ2 := Lib.hid (show w.heap.size + 3 ≤ W2.heap.size by have := hch2.size; have := HZ1.out; omega)
      have HRG := Lib.hid (show getR l = if r = [] then (if y.right then (0, y) else (80, zNd)) else (80, zNd) by rw [HGB.out, hT])
      have HNS := Lib.hid (show NdS W2 (Nw W1 W2) (.agg #[.int .u8 (y.k : Int), .string y.d, .slice A2 y.es.len c2]) y from ⟨_, rfl, hes, hyd, hyk⟩)
      have HCT := Lib.hid (show y.es.count ≤ 1000000 by have := rdN_count hT; omega)
      obtain ⟨W3, e3⟩ : ∃ W3, W3 = W2.alloc (.cells #[.int .u8 (y.k : Int), .string y.d, .slice A2 y.es.len c2] 24) := ⟨_, rfl⟩
      have hbl3 : Below W2.heap.size W2 W3 := by rw [e3]; exact (Below.refl _ _).alloc (Nat.le_refl _) _
      have hz3 : W3.heap.size = W2.heap.size + 1 := by rw [e3]; simp
      have hnb3 : W3.heap[W2.heap.size]? = some (ndCells y.k y.d (.slice A2 y.es.len c2)) := by rw [e3]; exact heap_alloc_new _ _
      have HB3 := Lib.hid (show W3.heap[w.heap.size]? = some (ndCells 0 ⟨#[]⟩ (.slice none 0 0)) ∧ W3.heap[w.heap.size + 1]? = some (.cells #[.int .i64 0] 28 (0, 0)) ∧ Below w.heap.size w W3 from
        ⟨(hbl3.block _ (by have := HZ2.out; omega)).trans HB2.out.1, (hbl3.block _ (by have := HZ2.out; omega)).trans HB2.out.2.1, HB2.out.2.2.1.trans (hbl3.mono (by have := HZ2.out; omega))⟩)
      have HN3 := Lib.hid (show NdS W3 (Nw W1 W2) (.agg #[.int .u8 (y.k : Int), .string y.d, .slice A2 y.es.len c2]) y from NdS.keep (fun b hb => ⟨hb, hbl3.block b hb.2⟩) HNS.out)
      have HRC := Lib.hid (right_calls _ y W3 (HN3.out.at (fun b hb => by have := hb.2; omega)) (by have := HCT.out; omega))
      obtain ⟨hc0, _⟩ := two_box (show W3.heap[g]? = some (.cells #[.string (strOf r), .int .i64 (n3 : Int)] 54 (0, 0)) from (hbl3.block _ (block_lt hrd2)).trans hrd2)
      obtain ⟨hn0, hn1, hn2, _⟩ := nd_box hnb3
      have HNB := Lib.hid (And.intro hnb3 hz3)
      have hemp : (strOf r).toList.isEmpty = decide (r = []) := by
        rw [Lib.toList_data]
        show r.isEmpty = _
        cases r with
        | nil => rfl
        | cons a b => rfl
      have hc0' := (two_box hrd2).1
      clear hch2 hT hrd2 hes hlc2 hcm2 hyd hyk hbl3 hnb3 hz3
      by_cases hr : r = []
      rotate_left
      · have he : (strOf r).toList.isEmpty = false := by rw [hemp, decide_eq_false hr]
        have HR := Lib.hid (show getR l = (80, zNd) by rw [HRG.out, if_neg hr])
        clear hemp hr hn0 hn1 hn2
        rw [e3] at hc0
        go_wp2_with fail
        rw [← e3]
        refine (amust_false _).mono ?_
        intro eQ WQ hQ
        obtain ⟨hQ1, hQ2⟩ := hQ
        subst hQ1
        subst hQ2
        exact get_door HB3.out.1 HB3.out.2.1 HB3.out.2.2 HR.out rfl rfl
      have he : (strOf r).toList.isEmpty = true := by rw [hemp, decide_eq_true hr]
      have HR := Lib.hid (show getR l = (if y.right then (0, y) else (80, zNd)) by rw [HRG.out, if_pos hr])
      clear hemp hr
      rw [e3] at hc0 hn0 hn1 hn2
      go_wp2_with fail
      rw [← e3]
      clear hc0 hc0' hn0 hn1 hn2 e3 he
      refine HRC.out.mono ?_
      rintro e W4 ⟨rfl, hb4⟩
      have HB4 := Lib.hid (show W4.heap[w.heap.size]? = some (ndCells 0 ⟨#[]⟩ (.slice none 0 0)) ∧ W4.heap[w.heap.size + 1]? = some (.cells #[.int .i64 0] 28 (0, 0)) ∧ Below w.heap.size w W4 from
        ⟨(hb4.block _ (by have := HNB.out.2; have := HZ2.out; omega)).trans HB3.out.1, (hb4.block _ (by have := HNB.out.2; have := HZ2.out; omega)).trans HB3.out.2.1, HB3.out.2.2.trans (hb4.mono (by have := HNB.out.2; have := HZ2.out; omega))⟩)
      have HN4 := Lib.hid (show NdS W4 (Nw W1 W2) (.agg #[.int .u8 (y.k : Int), .string y.d, .slice A2 y.es.len c2]) y from NdS.keep (fun b hb => ⟨hb, hb4.block b (by have := hb.2; have := HNB.out.2; omega)⟩) HN3.out)
      have HZ4 := Lib.hid (show W2.heap.size ≤ W4.heap.size by have := hb4.size; have := HNB.out.2; omega)
      obtain ⟨hn0, hn1, hn2, _⟩ := nd_box ((hb4.block _ (by have := HNB.out.2; omega)).trans HNB.out.1)
      clear hb4
      cases hri : y.right with
      | false =>
        rw [hri] at HR
        clear hn0 hn1 hn2
        go_wp2_with (first | (refine (amust_false _).mono ?_; intro eQ WQ hQ; obtain ⟨hQ1, hQ2⟩ := hQ; have hQ3 := hQ1.symm; subst hQ3; subst hQ2))
        exact get_door HB4.out.1 HB4.out.2.1 HB4.out.2.2 HR.out rfl rfl
      | true =>
        rw [hri] at HR
        have HHX := Lib.hid ((setRow_heap W4 w.heap.size _ #[.int .u8 (y.k : Int), .string y.d, .slice A2 y.es.len c2] _ _ HB4.out.1))
        have hq2 : (W4.setRow w.heap.size #[.int .u8 (y.k : Int), .string y.d, .slice A2 y.es.len c2]).heap[w.heap.size + 1]? = some (.cells #[.int .i64 0] 28 (0, 0)) := (setRow_other _ _ _ _ (by omega)).trans HB4.out.2.1
        have HQ2 := Lib.hid hq2
        obtain ⟨hq0, hq1⟩ := one_box hq2
        clear hq2
        go_wp2_with (first | (refine (amust_true _).mono ?_; intro eQ WQ hQ; obtain ⟨hQ1, vQ2, hQ2⟩ := hQ; have hQ3 := hQ1.symm; subst hQ3; subst hQ2) | (refine wpList_store_row rfl _ _ _ rfl _ _ rfl rfl _ _ HB4.out.1 (by kernel_rfl) (by rfl) (by simp [Value.oneCell']) ?_))
        refine leaves_cons (f := 30) (args := #[.pointer (some ⟨w.heap.size, 0, none⟩), .pointer (some ⟨w.heap.size + 1, 0, none⟩)]) (by simp) (by simp [go_sem]) ?_
        refine (get1_idle _ _ _).mono ?_
        rintro e u' w'' ⟨rfl, rfl, rfl⟩
        refine ⟨_, get_results rfl rfl ((heap_setCell_other _ _ _ _ (by show w.heap.size ≠ w.heap.size + 1; omega)).trans HHX.out) (one_box (one_put HQ2.out _)).1 rfl rfl, ?_, .agg #[.int .u8 (y.k : Int), .string y.d, .slice A2 y.es.len c2], ?_, ?_⟩
        · exact (below_setRow HB4.out.2.2 (Nat.le_refl _) _).setCell (p := ⟨w.heap.size + 1, 0, none⟩) (by show w.heap.size ≤ w.heap.size + 1; omega) _
        · rw [HR.out]; rfl
        · rw [HR.out]
          refine NdS.keep (fun b hb => ⟨⟨by have := hb.1; have := HZ1.out; omega, ?_⟩, ?_⟩) HN4.out
          · have := hb.1
            have := HZ1.out
            refine (heap_setCell_other _ _ _ _ (?_ : b ≠ w.heap.size + 1)).trans (setRow_other _ _ _ _ ?_) <;> omega
          · have := hb.2
            have := HZ4.out
            simp [World.setRow]
            omega
end Go.Proofs.Ytcleebigfbbdbaa
