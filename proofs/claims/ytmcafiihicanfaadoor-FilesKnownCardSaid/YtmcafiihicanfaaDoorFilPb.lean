/- files: Paths. -/
import Derived.Test.YtmcafiihicanfaaDoorFilZ
import Derived.Test.YtmcafiihicanfaaDoorFilPa
set_option linter.unusedVariables false
set_option linter.unusedSimpArgs false
namespace Go.Proofs.YtmcafiihicanfaaDoor
open Go Go.RowKit Go.BigFrame
open Fil (Es Nd Sp)
attribute [local go_sem] Oper.semAt_some

def ab0 : Nat → ByteArray := fun _ => ⟨#[]⟩
/-- Between two rounds of Paths. -/
def PthI (z b : Nat) (pre : List Sp) (W : World) : Prop :=
  ∃ (v : Value) (cs : Array Value), W.heap[z]? = some (.cells #[v] 35 (0, 0)) ∧ W.heap[z + 1]? = some (.cells cs 73 (0, 0)) ∧ cs.size = 33 ∧ (∀ j, j < 33 → cs[j]? = some (.string (Fil.abF ab0 pre j))) ∧
    W.ownsRow b 9 1 v pre.length ((Fil.pathsF ab0 pre).map Value.string) ∧ ∀ j, (Fil.abF ab0 pre j).size ≤ 256 * pre.length
theorem own_kept {A C : World} {b n : Nat} {v : Value} {xs : List Value} (h : A.ownsRow b 9 1 v n xs) (hk : ∀ (g : Nat) (cs : Array Value), A.heap[g]? = some (.cells cs 9 (0, 0)) → C.heap[g]? = some (.cells cs 9 (0, 0))) : C.ownsRow b 9 1 v n xs := by
  obtain ⟨hl, h0 | ⟨g, cap, cur, e, h1, h2, h3⟩⟩ := h
  · exact ⟨hl, .inl h0⟩
  · exact ⟨hl, .inr ⟨g, cap, cur, e, h1, hk _ _ h2, h3⟩⟩
theorem grown_kept {A C : World} {row : Option Nat} (hg : A.grownBy C row) (hr : ∀ r, row = some r → ∃ o : Obj, A.heap[r]? = some o ∧ (itE o = true ∨ o.isCells = false)) {g : Nat} {cs : Array Value} {T : TypeId} (hT : T ≠ 24) (h : A.heap[g]? = some (.cells cs T (0, 0))) : C.heap[g]? = some (.cells cs T (0, 0)) := by
  refine (hg.block g (Array.getElem?_eq_some_iff.1 h).1 fun e => ?_).trans h
  obtain ⟨o, ho, hq⟩ := hr g e.symm
  rw [h] at ho
  cases ho
  rcases hq with hq | hq
  · exact hT (by simpa [itE] using hq)
  · cases hq
theorem PthI.own (z b D : Nat) : OwnI itE D (PthI z b) := fun pre A C row h hg hr => by
  obtain ⟨v, cs, h1, h2, h3, h4, h5, h6⟩ := h
  have hr' : ∀ r, row = some r → ∃ o : Obj, A.heap[r]? = some o ∧ (itE o = true ∨ o.isCells = false) := fun r e => (hr r e).2
  exact ⟨v, cs, grown_kept hg hr' (by decide) h1, grown_kept hg hr' (by decide) h2, h3, h4, own_kept h5 (fun g cs hc => grown_kept hg hr' (by decide) hc), h6⟩
theorem Rd.of_own {D B bn b : Nat} {W W' : World} {v : Value} {n : Nat} {xs : List Value} (hown : W.ownsRow b 9 1 v n xs) (hg : W.grownBy W' v.ownBlock) (hb : B ≤ b) (hBW : B ≤ W.heap.size) (hbn : bn < W.heap.size) (hne : ∀ cs, W.heap[bn]? ≠ some (.cells cs 9 (0, 0))) : Rd D B bn W W' := by
  obtain ⟨hl, ⟨h0, _⟩ | ⟨g, cap, cur, e, h1, h2, h3⟩⟩ := hown
  · subst h0
    exact Rd.of_below (below_of_grown hg) hBW hbn
  · subst e
    exact Rd.step hg h2 (Nat.le_trans hb h1) hbn (fun e => hne cur (by rw [e]; exact h2)) (by decide)
theorem pathsF_len : ∀ (l : List Sp) (ab : Nat → ByteArray), (Fil.pathsF ab l).length = l.length
  | [], _ => rfl
  | x :: l, ab => by simp [Fil.pathsF, pathsF_len l]
theorem own_ne {W : World} {b n k : Nat} {v : Value} {xs : List Value} {cs : Array Value} {T : TypeId} (h : W.ownsRow b 9 1 v n xs) (hk : W.heap[k]? = some (.cells cs T (0, 0))) (hT : T ≠ 9) : some k ≠ v.ownBlock := fun e => by
  obtain ⟨hl, ⟨h0, _⟩ | ⟨g, cap, cur, e2, h1, h2, h3⟩⟩ := h
  · subst h0; cases e
  · subst e2
    have : k = g := Option.some.inj e
    subst this
    rw [hk] at h2
    cases h2
    exact hT rfl
/-- A round's end: the array, the list. -/
theorem pth_end {w4 Wd w5 : World} {z b D : Nat} {pre : List Sp} {x : Sp} {v v' : Value} {cs : Array Value} {p : ByteArray} (hb : b ≤ z) (hp : p = Fil.pathAt (Fil.abF ab0 pre) x) (hps : p.size ≤ 256 * pre.length + 256) (hdep : x.dep ≤ 32)
    (hn : ∃ nc, Wd.heap[z + 2]? = some (.cells nc 26 (0, 0)))
    (h1 : Wd.heap[z]? = some (.cells #[v] 35 (0, 0))) (h2 : Wd.heap[z + 1]? = some (.cells cs 73 (0, 0))) (h3 : cs.size = 33) (h4 : ∀ j, j < 33 → cs[j]? = some (.string (Fil.abF ab0 pre j))) (h6 : ∀ j, (Fil.abF ab0 pre j).size ≤ 256 * pre.length)
    (h5 : (Wd.setCell ⟨z + 1, x.dep, none⟩ (.string p)).ownsRow b 9 1 v pre.length ((Fil.pathsF ab0 pre).map Value.string))
    (hown : w5.ownsRow b 9 1 v' (pre.length + 1) ((Fil.pathsF ab0 pre).map Value.string ++ [.string p])) (o : Obj) (hg : ((Wd.setCell ⟨z + 1, x.dep, none⟩ (.string p)).alloc o).grownBy w5 v.ownBlock) :
    w5.heap[z]? = some (.cells #[v] 35 (0, 0)) ∧ Rd D b (z + 2) Wd (w5.setCell ⟨z, 0, none⟩ v') ∧ PthI z b (pre ++ [x]) (w5.setCell ⟨z, 0, none⟩ v') := by
  obtain ⟨nc, hn⟩ := hn
  have lz := (Array.getElem?_eq_some_iff.1 h1).1
  have la := (Array.getElem?_eq_some_iff.1 h2).1
  have ln := (Array.getElem?_eq_some_iff.1 hn).1
  have g1 := grown_cell Wd (z + 1) x.dep (.string p)
  have hz1 := g1.size
  have a1 := blk_set h2 x.dep (.string p)
  have l1 := (g1.block z lz (fun e => by have := Option.some.inj e; omega)).trans h1
  have n1 := (g1.block (z + 2) ln (fun e => by have := Option.some.inj e; omega)).trans hn
  have r1 : Rd D b (z + 2) Wd (Wd.setCell ⟨z + 1, x.dep, none⟩ (.string p)) := Rd.step g1 h2 (by omega) ln (by omega) (by decide)
  generalize Wd.setCell ⟨z + 1, x.dep, none⟩ (.string p) = Wa at *
  have g2 := World.grownBy_alloc Wa o none
  have r2 : Rd D b (z + 2) Wa (Wa.alloc o) := Rd.of_below (below_of_grown g2) (by omega) (by omega)
  have a2 := (old_block Wa o (z + 1) (by omega)).trans a1
  have l2 := (old_block Wa o z (by omega)).trans l1
  have n2 := (old_block Wa o (z + 2) (by omega)).trans n1
  have h5b := h5.alloc o
  have hz2 := g2.size
  generalize Wa.alloc o = Wb at *
  have r3 : Rd D b (z + 2) Wb w5 := Rd.of_own h5b hg (Nat.le_refl _) (by omega) (by omega) (fun cs e => by rw [n2] at e; cases e)
  have a3 := (hg.block (z + 1) (by omega) (own_ne h5b a2 (by decide))).trans a2
  have l3 := (hg.block z (by omega) (own_ne h5b l2 (by decide))).trans l2
  have g3 := grown_cell w5 z 0 v'
  have hz3 := hg.size
  have r4 : Rd D b (z + 2) w5 (w5.setCell ⟨z, 0, none⟩ v') := Rd.step g3 l3 hb (by omega) (by omega) (by decide)
  refine ⟨l3, ((r1.trans r2).trans r3).trans r4, v', _, one_put l3 v', (g3.block (z + 1) (by omega) (fun e => by have := Option.some.inj e; omega)).trans a3, by simp [h3], fun j hj => ?_, ?_, fun j => ?_⟩
  · rw [Fil.abF_snoc, ← hp, Array.getElem?_setIfInBounds]
    unfold Fil.putAb
    by_cases hjd : j = x.dep
    · subst hjd; rw [if_pos rfl, if_pos rfl, if_pos (by omega)]
    · rw [if_neg (Ne.symm hjd), if_neg hjd]; exact h4 j hj
  · have : (pre ++ [x]).length = pre.length + 1 := by simp
    rw [this, Fil.pathsF_snoc, ← hp, List.map_append]
    exact own_kept hown (fun g cs hc => (g3.block g (Array.getElem?_eq_some_iff.1 hc).1 (fun e => by have := Option.some.inj e; subst this; rw [l3] at hc; cases hc)).trans hc)
  · rw [Fil.abF_snoc, ← hp]
    unfold Fil.putAb
    have := h6 j
    simp only [List.length_append, List.length_cons, List.length_nil]
    split <;> omega
/-- The paths of a right tree; none of another. -/
def pathsR (nd : Nd) : List ByteArray := if nd.right then nd.paths else []
def PathsPost (w : World) (nd : Nd) (e : Ending) (W : World) : Prop :=
  Below w.heap.size w W ∧ ∃ v, e = .returned v ∧ W.ownsRow w.heap.size 9 1 v (pathsR nd).length ((pathsR nd).map Value.string)
set_option maxRecDepth 1000000 in
set_option maxRecDepth 100000 in
set_option maxHeartbeats 4000000 in
theorem paths_any (n : Nat) (hn : 6 ≤ n) (v : Value) (nd : Nd) (w : World) (hv : NdV w w.heap.size v nd) (hN : nd.flat.length ≤ 1000000000) :
    CallsIn Fence.wide n Tryd.prog 30 #[v] w (PathsPost w nd) := by
  have hro : Fence.wide.round = none := rfl
  obtain ⟨ev, rfl, hes, hd, hk⟩ := hv
  obtain ⟨A, c, rfl, _, _⟩ := hes.form
  have hbw0 : Below w.heap.size w (w.alloc (ndCells nd.k nd.d (.slice A nd.es.len c))) := (Below.refl _ w).alloc (Nat.le_refl _) _
  have hg0 : (w.alloc (ndCells nd.k nd.d (.slice A nd.es.len c))).heap[w.heap.size]? = some (ndCells nd.k nd.d (.slice A nd.es.len c)) := heap_alloc_new _ _
  have hsz : (w.alloc (ndCells nd.k nd.d (.slice A nd.es.len c))).heap.size = w.heap.size + 1 := by simp
  have HRT := Lib.hid (right_any (n - 1) (by omega) _ nd (w.alloc (ndCells nd.k nd.d (.slice A nd.es.len c))) ⟨_, rfl, (hes.keep hbw0).more (by rw [hsz]; omega), hd, hk⟩ hN)
  have HW := Lib.hid (And.intro hbw0 (And.intro hg0 hsz))
  clear hbw0 hg0 hsz
  unfold ndCells at HRT
  refine callsIn_of_wpF Tryd.func30 rfl trivial ?_ hro
  simp only [Tryd.ntmps30, List.size_toArray, List.length_cons, List.length_nil, Nat.reduceAdd, Nat.reduceSub, Array.replicate_succ, Array.replicate_zero, List.push_toArray, List.append_toArray, List.nil_append, List.cons_append]
  refine wpF_seq_in fun K hK => ?_
  gi_wp2
  rcases Bool.eq_false_or_eq_true nd.right with hrt | hrt
  rotate_left
  · rw [hrt] at HRT
    have HR := Lib.hid (show pathsR nd = [] by unfold pathsR; rw [hrt]; rfl)
    clear hrt
    refine wpF_seq_in fun K hK => ?_
    gi_wp2_with (refine ⟨trivial, fun _ => by omega, HRT.out.mono ?_⟩; rintro e W ⟨rfl, hb⟩)
    refine ⟨_, results_tmp rfl _ _ _, HW.out.1.trans (hb.mono (by simp)), _, rfl, ?_⟩
    rw [HR.out]
    exact World.ownsRow_nil _ _ _ _
  · rw [hrt] at HRT
    have HR := Lib.hid (And.intro hrt (show pathsR nd = nd.paths by unfold pathsR; rw [hrt]; rfl))
    clear hrt
    refine wpF_seq_in fun K hK => ?_
    gi_wp2_with (refine ⟨trivial, fun _ => by omega, HRT.out.mono ?_⟩; rintro e W1 ⟨rfl, hb⟩)
    refine wpF_seq_in fun K hK => ?_
    gi_wp2
    refine wpF_seq_in fun K hK => ?_
    gi_wp2
    have hnW1 := (hb.block w.heap.size (by simp)).trans HW.out.2.1
    obtain ⟨hq0, hq1, hq2, _⟩ := nd_box hnW1
    have hz1 : w.heap.size + 1 ≤ W1.heap.size := by have := hb.size; simp at this; omega
    have hbl : Below w.heap.size w W1 := HW.out.1.trans (hb.mono (by simp))
    obtain ⟨W2, hW2⟩ : ∃ W2, W2 = ((W1.alloc (.cells #[.slice none 0 0] 35)).alloc (.cells (Array.replicate 33 (.string ⟨#[]⟩)) 73)) := ⟨_, rfl⟩
    have hb2 : Below W1.heap.size W1 W2 := by rw [hW2]; exact ((Below.refl _ W1).alloc (Nat.le_refl _) _).alloc (by simp) _
    have hs2 : W2.heap.size = W1.heap.size + 2 := by rw [hW2]; simp
    have hlb : W2.heap[W1.heap.size]? = some (.cells #[.slice none 0 0] 35 (0, 0)) := by rw [hW2]; exact (old_block _ _ _ (by simp)).trans (heap_alloc_new _ _)
    have hab : W2.heap[W1.heap.size + 1]? = some (.cells (Array.replicate 33 (.string ⟨#[]⟩)) 73 (0, 0)) := by rw [hW2]; exact heap_alloc2_new W1 _ _
    simp only [Array.replicate_succ, Array.replicate_zero, List.push_toArray, List.nil_append, List.cons_append] at hW2
    rw [← hW2]
    have hm0 := (hb2.cell (p := ⟨w.heap.size, 0, none⟩) (by show w.heap.size < _; omega)).trans hq0
    have hm1 := (hb2.cell (p := ⟨w.heap.size, 1, none⟩) (by show w.heap.size < _; omega)).trans hq1
    have hm2 := (hb2.cell (p := ⟨w.heap.size, 2, none⟩) (by show w.heap.size < _; omega)).trans hq2
    have HB2 := Lib.hid (And.intro hb2 (And.intro hs2 (And.intro hlb (And.intro hab hbl))))
    clear hW2 hb2 hlb hab hq0 hq1 hq2 hnW1 hb
    refine wpF_seq ?_
    refine wpF_seq_in fun K hK => ?_
    gi_wp2_with (refine ⟨trivial, fun _ => by omega, (nodes_any _ _ nd.k nd.d _ rfl A c nd.es.len rfl _).mono ?_⟩; rintro e W ⟨rfl, rfl⟩)
    refine wpF_block ?_
    have hs2 := HB2.out.2.1
    have hes2 := (hes.keep (HB2.out.2.2.2.2)).keep (HB2.out.1.mono (by omega))
    have hnd := box_node hes2 (by omega) hd hk
    rw [hs2] at hnd
    have hb4 : Below W1.heap.size W1 (W2.alloc (.cells #[.int .u8 (nd.k : Int), .string nd.d, .slice A nd.es.len c] 26)) := HB2.out.1.alloc (by omega) _
    have hs4 : (W2.alloc (.cells #[.int .u8 (nd.k : Int), .string nd.d, .slice A nd.es.len c] 26)).heap.size = W1.heap.size + 3 := by simp; omega
    have hl4 : (W2.alloc (.cells #[.int .u8 (nd.k : Int), .string nd.d, .slice A nd.es.len c] 26)).heap[W1.heap.size]? = _ := (old_block _ _ _ (by omega)).trans HB2.out.2.2.1
    have ha4 : (W2.alloc (.cells #[.int .u8 (nd.k : Int), .string nd.d, .slice A nd.es.len c] 26)).heap[W1.heap.size + 1]? = _ := (old_block _ _ _ (by omega)).trans HB2.out.2.2.2.1
    have hn4 : (W2.alloc (.cells #[.int .u8 (nd.k : Int), .string nd.d, .slice A nd.es.len c] 26)).heap[W1.heap.size + 2]? = some (.cells #[.int .u8 (nd.k : Int), .string nd.d, .slice A nd.es.len c] 26 (0, 0)) := by rw [← hs2]; exact heap_alloc_new _ _
    have HBL := Lib.hid HB2.out.2.2.2.2
    clear hs2 hes2 hm0 hm1 hm2 HB2
    generalize W2.alloc _ = w4 at *
    generalize hz : W1.heap.size = z at *
    have hfit := Fil.Nd.right_count HR.out.1
    have HNF := Lib.hid (Fil.Nd.flat_names HR.out.1)
    refine wpF_nodes n (by omega) ⟨_, rfl⟩ (g := .tmp 11) (bn := z + 2) (B := w.heap.size) (nd := nd) rfl (by omega) (by omega) hnd hN
      (PthI z w.heap.size) (PthI.own _ _ _) ⟨_, _, hl4, ha4, by simp, fun j hj => by simp [hj, Fil.abF, ab0], World.ownsRow_nil _ _ _ _, fun j => by simp [Fil.abF, ab0]; decide⟩ (fun _ _ _ => False)
      (fun x a' W => ∃ g, w4.heap.size ≤ g ∧ a' = { tmps := #[.agg #[.int .u8 (nd.k : Int), .string nd.d, .slice A nd.es.len c], .pointer (some ⟨w.heap.size, 0, none⟩), .slice none 0 0, .pointer (some ⟨z, 0, none⟩), .pointer (some ⟨z + 1, 0, none⟩), .pointer (some ⟨g, 0, none⟩), undef, .agg #[.int .u8 (nd.k : Int), .string nd.d, .slice A nd.es.len c], .bool true, .bool false, .agg #[.int .u8 (nd.k : Int), .string nd.d, .slice A nd.es.len c], .func (.func 51) #[] #[.pointer (some ⟨z + 2, 0, none⟩)], spV x.1, undef, undef, undef, undef, undef, undef, undef, undef, undef, undef, undef, undef, undef, undef, undef, undef, undef, undef, undef, undef, undef, undef, undef], defers := [] } ∧ BoxSp W g x.1) (fun x a' => boxSp_own _ x.1 _) ?_ ?_ ?_ ?_
    · intro l pre x W K hWs _ hK
      unfold spV at hK ⊢
      gi_wp2
      exact hK _ _ (World.grownBy_alloc W _ none) ⟨W.heap.size, hWs, rfl, heap_alloc_new _ _⟩
    · rintro l pre x a' W hWs hnk ⟨v, cs, h1, h2, h3, h4, h5, h6⟩ ⟨g, hg, rfl, hbx⟩ hlen hsx
      have hxd : x.1.sp.dep ≤ 32 := (HNF.out x.1.sp (hsx.subset (by simp))).2
      have hxn : x.1.nm.size ≤ 255 := (HNF.out x.1.sp (hsx.subset (by simp))).1
      have hxd' : x.1.dep < 33 := by have : x.1.dep ≤ 32 := hxd; omega
      obtain ⟨hx0, hx1, _⟩ := boxSp_cells hbx
      have hn2 : ∃ nc, W.heap[z + 2]? = some (.cells nc 26 (0, 0)) := ⟨_, hnk.box.trans hn4⟩
      obtain ⟨i0, hi0, hz0, hz1', hzb'⟩ := info_parts infoStrF
      have lz := (Array.getElem?_eq_some_iff.1 h1).1
      have la := (Array.getElem?_eq_some_iff.1 h2).1
      rcases Bool.eq_false_or_eq_true (decide (1 < x.1.dep)) with hdp | hdp
      rotate_left
      · have hdpI : decide ((1 : Int) < (x.1.dep : Int)) = false := decide_eq_false (by have := of_decide_eq_false hdp; omega)
        have HPP := Lib.hid (show x.1.nm = Fil.pathAt (Fil.abF ab0 pre) x.1.sp by
          unfold Fil.pathAt
          rw [if_neg (by have := of_decide_eq_false hdp; exact this)]
          rfl)
        have HPS := Lib.hid (show x.1.nm.size ≤ 255 from hxn)
        have H1 := h1
        have H2 := h2
        have H5 := h5
        have HN2 := hn2
        clear h1 h2 h5 hn2
        have hgr := grown_cell W (z + 1) x.1.dep (.string x.1.nm)
        have hza := hgr.size
        have HZE := Lib.hid (show (W.setCell ⟨z + 1, x.1.dep, none⟩ (.string x.1.nm)).heap.size = W.heap.size by show (W.heap.modify _ _).size = _; rw [Array.size_modify])
        have hl2 := (hgr.block z (by omega) (fun e => by have := Option.some.inj e; omega)).trans H1
        obtain ⟨hlc, _⟩ := one_box hl2
        have hac : W.cell? ⟨z + 1, x.1.dep, none⟩ = some (.string (Fil.abF ab0 pre x.1.dep)) := by rw [cell_of_row _ _ _ _ _ _ H2]; exact h4 _ (by omega)
        have haf : W.frozen? ⟨z + 1, x.1.dep, none⟩ = false := frozen_of_row _ _ _ _ _ H2
        have OWN := Lib.hid (own_kept (C := W.setCell ⟨z + 1, x.1.dep, none⟩ (.string x.1.nm)) H5 (fun g cs hc => (hgr.block g (Array.getElem?_eq_some_iff.1 hc).1 (fun e => by have := Option.some.inj e; subst this; rw [H2] at hc; cases hc)).trans hc))
        have HE := Lib.hid (fun (v' : Value) (w5 : World) hown o hg => pth_end (w4 := w4) (z := z) (b := w.heap.size) (D := w4.heap.size) (p := x.1.nm) (x := x.1.sp) (v' := v') (w5 := w5) (Wd := W) (by omega) HPP.out (by have := HPS.out; omega) hxd HN2 H1 H2 h3 h4 h6 OWN.out hown o hg)
        have hzb : w.heap.size ≤ W.heap.size := by omega
        clear hl2 hgr H1 H2 H5 HN2
        gi_wp2_with (gi_at_builtin; refine wpListIn_append_own _ rfl _ _ 35 rfl w.heap.size 9 i0 (.string ⟨#[]⟩) 1 16 Tryd.underlying35 hi0 hz0 hz1' hzb' rfl (by decide) _ _ _ rfl (OWN.out.alloc _) _ 1 1 [.string x.1.nm] rfl rfl ?c1 ?c2 ?c3 ?c4 ?c5 ?_)
        case c1 => rw [← HZE.out]; exact cell_one_new _ _ _
        case c2 => intro u hu; simp at hu; subst hu; rfl
        case c3 => unfold maxLen; omega
        case c4 => omega
        case c5 => simp; omega
        intro v' w5 hown5 hgrow5 _
        obtain ⟨A5, c5', rfl⟩ := own_form hown5
        obtain ⟨hq1, hq2, hq3⟩ := HE.out _ w5 hown5 _ hgrow5
        obtain ⟨hs1, hs2'⟩ := one_box hq1
        have HQ := Lib.hid (And.intro hq2 hq3)
        clear hq1 hq2 hq3 hown5 hgrow5
        gi_wp2
        have h9 := HQ.out
        rw [hs4] at h9
        exact h9
      · have hdpI : decide ((1 : Int) < (x.1.dep : Int)) = true := decide_eq_true (by have := of_decide_eq_true hdp; omega)
        have hd1 : 1 < x.1.dep := of_decide_eq_true hdp
        have HPP := Lib.hid (show Fil.abF ab0 pre (x.1.dep - 1) ++ (⟨#[47]⟩ : ByteArray) ++ x.1.nm = Fil.pathAt (Fil.abF ab0 pre) x.1.sp by
          unfold Fil.pathAt
          rw [if_pos (show 1 < x.1.sp.dep from hd1)]
          rfl)
        have h6d := h6 (x.1.dep - 1)
        have HPS := Lib.hid (show (Fil.abF ab0 pre (x.1.dep - 1) ++ (⟨#[47]⟩ : ByteArray) ++ x.1.nm).size ≤ 256 * pre.length + 256 by
          rw [ByteArray.size_append, ByteArray.size_append]
          have : (⟨#[47]⟩ : ByteArray).size = 1 := rfl
          omega)
        have hwd : IntKind.i64.wrap ((x.1.dep : Int) - 1) = ((x.1.dep - 1 : Nat) : Int) := by rw [show (x.1.dep : Int) - 1 = ((x.1.dep - 1 : Nat) : Int) by omega]; exact IntWalk.i64_in _ (by omega)
        have hca : W.cell? ⟨z + 1, x.1.dep - 1, none⟩ = some (.string (Fil.abF ab0 pre (x.1.dep - 1))) := by rw [cell_of_row _ _ _ _ _ _ h2]; exact h4 _ (by omega)
        have hz47 : (⟨#[47]⟩ : ByteArray).size = 1 := rfl
        have hj1 : ¬ 9223372036854775807 < (Fil.abF ab0 pre (x.1.dep - 1)).size + 1 := by omega
        have hj2 : ¬ 9223372036854775807 < (Fil.abF ab0 pre (x.1.dep - 1)).size + 1 + x.1.nm.size := by omega
        have hmo : Tryd.prog.follows .mixedOrders = true := by kernel_rfl
        have hdl : x.1.dep - 1 < 33 := by omega
        gi_wp2
        gi_region
        all_goals
          obtain ⟨Wd, hWd⟩ : ∃ Wd, Wd = W.drew := ⟨_, rfl⟩
          rw [← hWd]
          have hdr : Below W.heap.size W Wd := by rw [hWd]; exact ⟨rfl, rfl, rfl, Nat.le_refl _, fun _ _ => rfl⟩
          have HDR := Lib.hid (Rd.of_below (D := z + 3) (B := w.heap.size) (bn := z + 2) hdr (by omega) (by omega))
          have H1 := (hdr.block z lz).trans h1
          have H2 := (hdr.block (z + 1) la).trans h2
          have H5 : Wd.ownsRow w.heap.size 9 1 v pre.length ((Fil.pathsF ab0 pre).map Value.string) := by rw [hWd]; exact h5
          have HN2 : ∃ nc, Wd.heap[z + 2]? = some (.cells nc 26 (0, 0)) := by rw [hWd]; exact hn2
          have hx0' : Wd.cell? ⟨g, 0, none⟩ = some (.int .i64 (x.1.dep : Int)) := by rw [hWd]; exact hx0
          have lz' := hdr.size
          clear h1 h2 h5 hn2 hWd hdr hx0 hx1 hca hdl hj1 hj2 hwd hz47
          have hgr := grown_cell Wd (z + 1) x.1.dep (.string (Fil.abF ab0 pre (x.1.dep - 1) ++ (⟨#[47]⟩ : ByteArray) ++ x.1.nm))
          have hza := hgr.size
          have HZE := Lib.hid (show (Wd.setCell ⟨z + 1, x.1.dep, none⟩ (.string (Fil.abF ab0 pre (x.1.dep - 1) ++ (⟨#[47]⟩ : ByteArray) ++ x.1.nm))).heap.size = Wd.heap.size by show (Wd.heap.modify _ _).size = _; rw [Array.size_modify])
          have hl2 := (hgr.block z (by omega) (fun e => by have := Option.some.inj e; omega)).trans H1
          obtain ⟨hlc, _⟩ := one_box hl2
          have hac : Wd.cell? ⟨z + 1, x.1.dep, none⟩ = some (.string (Fil.abF ab0 pre x.1.dep)) := by rw [cell_of_row _ _ _ _ _ _ H2]; exact h4 _ (by omega)
          have haf : Wd.frozen? ⟨z + 1, x.1.dep, none⟩ = false := frozen_of_row _ _ _ _ _ H2
          have OWN := Lib.hid (own_kept (C := Wd.setCell ⟨z + 1, x.1.dep, none⟩ (.string (Fil.abF ab0 pre (x.1.dep - 1) ++ (⟨#[47]⟩ : ByteArray) ++ x.1.nm))) H5 (fun g cs hc => (hgr.block g (Array.getElem?_eq_some_iff.1 hc).1 (fun e => by have := Option.some.inj e; subst this; rw [H2] at hc; cases hc)).trans hc))
          have HE := Lib.hid (fun (v' : Value) (w5 : World) hown o hg => pth_end (w4 := w4) (z := z) (b := w.heap.size) (D := w4.heap.size) (p := (Fil.abF ab0 pre (x.1.dep - 1) ++ (⟨#[47]⟩ : ByteArray) ++ x.1.nm)) (x := x.1.sp) (v' := v') (w5 := w5) (Wd := Wd) (by omega) HPP.out (by have := HPS.out; omega) hxd HN2 H1 H2 h3 h4 h6 OWN.out hown o hg)
          have hzb : w.heap.size ≤ Wd.heap.size := by omega
          clear hl2 hgr H1 H2 H5 HN2
          gi_wp2_with (gi_at_builtin; refine wpListIn_append_own _ rfl _ _ 35 rfl w.heap.size 9 i0 (.string ⟨#[]⟩) 1 16 Tryd.underlying35 hi0 hz0 hz1' hzb' rfl (by decide) _ _ _ rfl (OWN.out.alloc _) _ 1 1 [.string (Fil.abF ab0 pre (x.1.dep - 1) ++ (⟨#[47]⟩ : ByteArray) ++ x.1.nm)] rfl rfl ?c1 ?c2 ?c3 ?c4 ?c5 ?_)
          case c1 => rw [← HZE.out]; exact cell_one_new _ _ _
          case c2 => intro u hu; simp at hu; subst hu; rfl
          case c3 => unfold maxLen; omega
          case c4 => omega
          case c5 => simp; omega
          intro v' w5 hown5 hgrow5 _
          obtain ⟨A5, c5', rfl⟩ := own_form hown5
          obtain ⟨hq1, hq2, hq3⟩ := HE.out _ w5 hown5 _ hgrow5
          obtain ⟨hs1, hs2'⟩ := one_box hq1
          have HQ := Lib.hid (And.intro hq2 hq3)
          clear hq1 hq2 hq3 hown5 hgrow5
          gi_wp2
          have h9 := HQ.out
          rw [hs4] at h9
          exact ⟨HDR.out.trans h9.1, h9.2⟩

    · rintro D W hD hnk ⟨v, cs, h1, h2, h3, h4, h5, h6⟩ hk2
      obtain ⟨hc1, hc2⟩ := one_box h1
      have hgp := grownBy_putObj' W D (.deferred none)
      have HF := Lib.hid (And.intro h5 (And.intro hnk hgp))
      clear h2 h4 h5 h6 hgp
      refine wpF_in ?_
      gi_wp2
      refine ⟨by simp, .inl ⟨_, _, rfl, run_takeDeferred hk2, ?_⟩⟩
      refine ⟨_, results_tmp rfl _ _ _, ?_, v, rfl, ?_⟩
      · refine (((HBL.out.trans (hb4.mono (by omega))).trans HF.out.2.1.below).grown HF.out.2.2 (by have := HF.out.2.1.below.size; omega) (fun k e => by cases e; omega))
      · rw [HR.out.2, ← Fil.Nd.flat_paths nd ab0, pathsF_len]
        exact own_kept HF.out.1 (fun g cs hc => (HF.out.2.2.block g (Array.getElem?_eq_some_iff.1 hc).1 (fun e => by have := Option.some.inj e; subst this; rw [hc] at hk2; cases hk2)).trans hc)
    · intro D ch pre W _ _ h
      exact h.elim
end Go.Proofs.YtmcafiihicanfaaDoor
