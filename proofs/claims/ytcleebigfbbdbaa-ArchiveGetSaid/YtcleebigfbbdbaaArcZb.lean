/- archive: the reference's Get. -/
import Derived.Test.YtcleebigfbbdbaaArcZa
import Derived.Test.YtcleebigfbbdbaaArcX
set_option linter.unusedVariables false
set_option linter.unusedSimpArgs false
namespace Go.Proofs.Ytcleebigfbbdbaa
open Go Go.RowKit Go.BigFrame
open Fil (Es Nd Sp)
open Arc (BL num4 num2 encT letK encE encN sizE sizN rfN rdN rfE rdE rdT rd2 beN)
attribute [local go_sem] Oper.semAt_some

theorem rdT_len4 {b r : BL} {s : ByteArray} (h : rdT b = some (s, r)) : 4 + s.size + r.length ≤ b.length := by
  rw [Arc.rdT_inv h, List.length_append, Arc.encT_len]
  omega
theorem rfE_cnt (node : BL → Option (Nd × BL)) (hn : ∀ b y b', node b = some (y, b') → 4 * y.es.count + 1 + b'.length ≤ b.length) : ∀ (k : Nat) (b : BL) (es : Es) (b' : BL), rfE node k b = some (es, b') → 4 * es.count + b'.length ≤ b.length
  | 0, b, es, b', h => by cases h; show 4 * 0 + _ ≤ _; omega
  | k + 1, b, es, b', h => by
    unfold Arc.rfE at h
    cases hT : rdT b with
    | none => rw [hT] at h; cases h
    | some p =>
      obtain ⟨s, b2⟩ := p
      rw [hT] at h
      simp only [] at h
      cases hN : node b2 with
      | none => rw [hN] at h; cases h
      | some q =>
        obtain ⟨y, b3⟩ := q
        rw [hN] at h
        simp only [] at h
        cases hE : rfE node k b3 with
        | none => rw [hE] at h; cases h
        | some r =>
          obtain ⟨es2, b4⟩ := r
          rw [hE] at h
          cases h
          have h1 := rfE_cnt node hn k b3 es2 b' hE
          have h2 := hn b2 y b3 hN
          have h3 := rdT_len4 hT
          show 4 * (1 + y.es.count + es2.count) + _ ≤ _
          omega
theorem leaf_cnt {k : Nat} {c : UInt8} {b b' : BL} {y : Nd} (h : Arc.leafF k b = some (y, b')) : 4 * y.es.count + 1 + b'.length ≤ (c :: b).length := by
  unfold Arc.leafF at h
  cases hT : rdT b with
  | none => rw [hT] at h; cases h
  | some p =>
    obtain ⟨s, b2⟩ := p
    rw [hT] at h
    cases h
    have h3 := rdT_len4 hT
    show 4 * 0 + 1 + _ ≤ b.length + 1
    omega
theorem rfN_cnt : ∀ (f : Nat) (b : BL) (y : Nd) (b' : BL), rfN f b = some (y, b') → 4 * y.es.count + 1 + b'.length ≤ b.length
  | 0, _, _, _, h => by cases h
  | _ + 1, [], _, _, h => by cases h
  | f + 1, c :: b, y, b', h => by
    unfold Arc.rfN at h
    by_cases h1 : c = 70
    · rw [if_pos h1] at h; exact leaf_cnt h
    rw [if_neg h1] at h
    by_cases h2 : c = 88
    · rw [if_pos h2] at h; exact leaf_cnt h
    rw [if_neg h2] at h
    by_cases h3 : c = 76
    · rw [if_pos h3] at h; exact leaf_cnt h
    rw [if_neg h3] at h
    by_cases h4 : c = 68
    · rw [if_pos h4] at h
      cases h5 : rd2 b with
      | none => rw [h5] at h; cases h
      | some p =>
        obtain ⟨k, b2⟩ := p
        rw [h5] at h
        simp only [] at h
        cases hE : rfE (rfN f) k b2 with
        | none => rw [hE] at h; cases h
        | some r =>
          obtain ⟨es, b3⟩ := r
          rw [hE] at h
          cases h
          have h6 := rfE_cnt (rfN f) (rfN_cnt f) k b2 es b' hE
          have h7 := (Arc.rd2_inv h5).1
          have h8 := congrArg List.length h7
          rw [List.length_append] at h8
          show 4 * es.count + 1 + _ ≤ b.length + 1
          omega
    · rw [if_neg h4] at h; cases h
theorem get_fail {w W : World} (hb : Below w.heap.size w W) : GPost w (80, zNd) (.returned (.tuple #[.agg #[.int .u8 0, .string ⟨#[]⟩, .slice none 0 0], .int .i64 80])) (W.setRow w.heap.size #[.int .u8 0, .string ⟨#[]⟩, .slice none 0 0]) :=
  ⟨below_setRow hb (Nat.le_refl _) _, _, rfl, _, rfl, EsS.nil _ _, Nat.zero_le _, (by decide : (0 : Nat) < 256)⟩
set_option maxRecDepth 1000000 in
set_option maxRecDepth 100000 in
set_option maxHeartbeats 8000000 in
theorem refGet_any (l : BL) (w : World) (B : Nat) (hBw : B ≤ w.heap.size) (v : Value) (hv : BytAt w B v l) :
    Calls Try.prog 15 #[v] w (GPost w (getR l)) := by
  have HV := Lib.hid hv
  obtain ⟨A, cap, rfl, hcp⟩ := hv.form
  clear hv
  have hb1 : Below w.heap.size w (w.alloc (.cells #[.int .u8 0, .string ⟨#[]⟩, .slice none 0 0] 24)) := (Below.refl _ w).alloc (Nat.le_refl _) _
  have HB1 := Lib.hid hb1
  have hx1 : (w.alloc (.cells #[.int .u8 0, .string ⟨#[]⟩, .slice none 0 0] 24)).heap[w.heap.size]? = some (.cells #[.int .u8 0, .string ⟨#[]⟩, .slice none 0 0] 24 (0, 0)) := heap_alloc_new _ _
  have HX1 := Lib.hid hx1
  clear hb1 hx1
  go_enter Try.func15, Try.ntmps15
  rcases Nat.lt_or_ge 1048576 l.length with hbg | hsm
  · have hI : decide ((1048576 : Int) < (l.length : Int)) = true := decide_eq_true (by omega)
    have HR := Lib.hid (show getR l = (3, zNd) by unfold getR; rw [if_pos hbg])
    clear hbg
    go_wp2
    refine bodyPost_ret (node_results rfl (cs := #[.int .u8 0, .string ⟨#[]⟩, .slice none 0 0]) rfl HX1.out rfl) rfl ?_
    rw [HR.out]
    exact ⟨HB1.out, _, rfl, _, rfl, EsS.nil _ _, Nat.zero_le _, (by decide : (0 : Nat) < 256)⟩
  have hI : decide ((1048576 : Int) < (l.length : Int)) = false := decide_eq_false (by omega)
  have HGR := Lib.hid (show getR l = if l.take 4 = [84, 65, 82, 49] then getB (l.drop 4) else (80, zNd) by unfold getR; rw [if_neg (by omega)])
  rcases Nat.lt_or_ge l.length 4 with h4 | h4
  · have hI4 : decide ((l.length : Int) < 4) = true := decide_eq_true (by omega)
    have HR := Lib.hid (show getR l = (80, zNd) by
      rw [HGR.out, if_neg]
      intro e
      have := congrArg List.length e
      rw [List.length_take] at this
      simp at this
      omega)
    clear h4
    go_wp2
    refine bodyPost_ret (node_results rfl (cs := #[.int .u8 0, .string ⟨#[]⟩, .slice none 0 0]) rfl HX1.out rfl) rfl ?_
    rw [HR.out]
    exact ⟨HB1.out, _, rfl, _, rfl, EsS.nil _ _, Nat.zero_le _, (by decide : (0 : Nat) < 256)⟩
  have hI4 : decide ((l.length : Int) < 4) = false := decide_eq_false (by omega)
  obtain ⟨W1, e1⟩ : ∃ W1, W1 = w.alloc (.cells #[.int .u8 0, .string ⟨#[]⟩, .slice none 0 0] 24) := ⟨_, rfl⟩
  rw [← e1] at HB1 HX1
  have HV1 := Lib.hid (HV.out.keep (HB1.out.mono hBw))
  have hz1 : W1.heap.size = w.heap.size + 1 := by rw [e1]; simp
  obtain ⟨ab, ao, cap', he, hcap, hcm, hab, hcs⟩ := HV1.out.cells (by omega)
  injection he with he1 _ he2
  subst he1
  subst he2
  have hcv := conv_part (W := W1) (ab := ab) (ao := ao) (cap := cap) hcs 0 4 cap (by omega) ao (.inr rfl)
  rw [List.drop_zero] at hcv
  have hcap4 : (4 : Int) ≤ (cap : Int) := by omega
  have hcap4n : 4 ≤ cap := by omega
  have hst : (strOf (l.take 4)).toList = l.take 4 := by rw [Lib.toList_data]; simp [strOf]
  obtain ⟨t4, ht4⟩ : ∃ t4, t4 = strOf (l.take 4) := ⟨_, rfl⟩
  rw [← ht4] at hcv
  rw [e1] at hcv
  by_cases hm : l.take 4 = [84, 65, 82, 49]
  rotate_left
  · have hmb : (t4.toList != [84, 65, 82, 49]) = true := by rw [ht4, hst]; exact bne_iff_ne.2 hm
    have hmb2 : (t4.toList == [84, 65, 82, 49]) = false := by rw [ht4, hst]; exact beq_eq_false_iff_ne.2 hm
    have HR := Lib.hid (show getR l = (80, zNd) by rw [HGR.out, if_neg hm])
    clear ht4 hst hm hcs hz1 hsm h4
    go_wp2
    rw [← e1]
    refine bodyPost_ret (node_results rfl (cs := #[.int .u8 0, .string ⟨#[]⟩, .slice none 0 0]) rfl HX1.out rfl) rfl ?_
    rw [HR.out]
    exact ⟨HB1.out, _, rfl, _, rfl, EsS.nil _ _, Nat.zero_le _, (by decide : (0 : Nat) < 256)⟩
  have hmb : (t4.toList != [84, 65, 82, 49]) = false := by rw [ht4, hst, hm]; rfl
  have hmb2 : (t4.toList == [84, 65, 82, 49]) = true := by rw [ht4, hst, hm]; rfl
  have HGB := Lib.hid (show getR l = getB (l.drop 4) by rw [HGR.out, if_pos hm])
  have HLN := Lib.hid (And.intro hsm h4)
  have HND := Lib.hid (getNode_any l (by omega) 33 0 rfl W1 4 h4 B (by omega) _ HV1.out)
  have HZ1 := Lib.hid hz1
  clear ht4 hst hm hcs hz1 hsm h4
  go_wp2_with fail
  rw [← e1]
  clear e1 hcv
  refine HND.out.mono ?_
  rintro e W2 ⟨hb2, v2, y, next, ok, rfl, hy, hm2⟩
  obtain ⟨ev, rfl, hes, hyd, hyk⟩ := hy
  obtain ⟨A3, c3, rfl, hcp3⟩ := hes.form
  have hx2 : W2.heap[w.heap.size]? = some (.cells #[.int .u8 0, .string ⟨#[]⟩, .slice none 0 0] 24 (0, 0)) := (hb2.block _ (by have := HZ1.out; omega)).trans HX1.out
  have hbw2 : Below w.heap.size w W2 := HB1.out.trans (hb2.mono (by have := HZ1.out; omega))
  obtain ⟨W3, e3⟩ : ∃ W3, W3 = W2.alloc (.cells #[.int .u8 (y.k : Int), .string y.d, .slice A3 y.es.len c3] 24) := ⟨_, rfl⟩
  have hz2 : w.heap.size + 1 ≤ W2.heap.size := by have := hb2.size; have := HZ1.out; omega
  have hb3 : Below W2.heap.size W2 W3 := by rw [e3]; exact (Below.refl _ _).alloc (Nat.le_refl _) _
  have hz3 : W3.heap.size = W2.heap.size + 1 := by rw [e3]; simp
  have H3 := Lib.hid (show W3.heap[w.heap.size]? = some (.cells #[.int .u8 0, .string ⟨#[]⟩, .slice none 0 0] 24 (0, 0)) ∧ Below w.heap.size w W3 from ⟨(hb3.block _ (by omega)).trans hx2, hbw2.trans (hb3.mono (by omega))⟩)
  have H6 := Lib.hid (show (W2.alloc (.cells #[.int .u8 (y.k : Int), .string y.d, .slice A3 y.es.len c3] 24)).heap[w.heap.size]? = some (.cells #[.int .u8 0, .string ⟨#[]⟩, .slice none 0 0] 24 (0, 0)) from e3 ▸ H3.out.1)
  have HN3 := Lib.hid (show NdS W3 (Nw W1 W2) (.agg #[.int .u8 (y.k : Int), .string y.d, .slice A3 y.es.len c3]) y from ⟨_, rfl, hes.keep fun b hb => ⟨hb, hb3.block b hb.2⟩, hyd, hyk⟩)
  have HNB := Lib.hid (show W3.heap[W2.heap.size]? = some (ndCells y.k y.d (.slice A3 y.es.len c3)) by rw [e3]; exact heap_alloc_new _ _)
  have HZ3 := Lib.hid (And.intro hz2 hz3)
  clear hb2 hes hyd hyk hcp3 hx2 hbw2 hz2 hb3 hz3
  cases hN : rfN 33 (l.drop 4) with
  | none =>
    rw [hN] at hm2
    subst hm2
    have HR := Lib.hid (show getR l = (80, zNd) by rw [HGB.out]; unfold getB; rw [hN])
    clear hN
    go_wp2_with (refine wpList_store_row rfl _ _ _ rfl _ _ rfl rfl _ _ H6.out (by kernel_rfl) (by rfl) (by simp [Value.oneCell']) ?_)
    rw [← e3]
    refine bodyPost_ret (node_results rfl (cs := #[.int .u8 0, .string ⟨#[]⟩, .slice none 0 0]) rfl (setRow_heap _ _ _ _ _ _ H3.out.1) rfl) rfl ?_
    rw [HR.out]
    exact get_fail H3.out.2
  | some p =>
    rw [hN] at hm2
    obtain ⟨rfl, rfl, hnx⟩ := hm2
    by_cases hne : next = l.length
    rotate_left
    · have hneI : ((next : Int) != (l.length : Int)) = true := bne_iff_ne.2 (by omega)
      have HR := Lib.hid (show getR l = (80, zNd) by
        rw [HGB.out]
        unfold getB
        rw [hN]
        cases hd : l.drop next with
        | nil =>
          have := congrArg List.length hd
          rw [List.length_drop] at this
          simp at this
          omega
        | cons a b => rfl)
      clear hN hne hnx
      go_wp2_with (refine wpList_store_row rfl _ _ _ rfl _ _ rfl rfl _ _ H6.out (by kernel_rfl) (by rfl) (by simp [Value.oneCell']) ?_)
      rw [← e3]
      refine bodyPost_ret (node_results rfl (cs := #[.int .u8 0, .string ⟨#[]⟩, .slice none 0 0]) rfl (setRow_heap _ _ _ _ _ _ H3.out.1) rfl) rfl ?_
      rw [HR.out]
      exact get_fail H3.out.2
    have hneI : ((next : Int) != (l.length : Int)) = false := by rw [hne]; exact bne_eq_false_iff_eq.2 rfl
    have HR := Lib.hid (show getR l = (if y.right then (0, y) else (80, zNd)) by
      rw [HGB.out]
      unfold getB
      rw [hN, hne, List.drop_length])
    have HCT := Lib.hid (show y.es.count ≤ 1000000 by
      have h1 := rfN_cnt 33 _ _ _ hN
      rw [List.length_drop, List.length_drop] at h1
      have := HLN.out.1
      omega)
    have HRC := Lib.hid (refRight_any W3 W3.heap.size (Nat.le_refl _) _ y (HN3.out.at (fun b hb => by have := hb.2; have := HZ3.out; omega)) HCT.out)
    obtain ⟨hn0, hn1, hn2, _⟩ := nd_box (show (W2.alloc (.cells #[.int .u8 (y.k : Int), .string y.d, .slice A3 y.es.len c3] 24)).heap[W2.heap.size]? = some (ndCells y.k y.d (.slice A3 y.es.len c3)) from e3 ▸ HNB.out)
    clear hN hne hnx
    go_wp2_with fail
    rw [← e3]
    clear e3 hn0 hn1 hn2 H6
    refine HRC.out.mono ?_
    rintro e W4 ⟨rfl, hb4⟩
    have H4 := Lib.hid (show W4.heap[w.heap.size]? = some (.cells #[.int .u8 0, .string ⟨#[]⟩, .slice none 0 0] 24 (0, 0)) ∧ Below w.heap.size w W4 from ⟨(hb4.block _ (by have := HZ3.out; omega)).trans H3.out.1, H3.out.2.trans (hb4.mono (by have := HZ3.out; omega))⟩)
    have HN4 := Lib.hid (show NdS W4 (Nw W1 W2) (.agg #[.int .u8 (y.k : Int), .string y.d, .slice A3 y.es.len c3]) y from NdS.keep (fun b hb => ⟨hb, hb4.block b (by have := hb.2; have := HZ3.out; omega)⟩) HN3.out)
    have HZ4 := Lib.hid (show W2.heap.size < W4.heap.size by have := hb4.size; have := HZ3.out; omega)
    obtain ⟨hn0, hn1, hn2, _⟩ := nd_box ((hb4.block _ (by have := HZ3.out; omega)).trans HNB.out)
    clear hb4
    cases hri : y.right with
    | false =>
      rw [hri] at HR
      go_wp2_with (refine wpList_store_row rfl _ _ _ rfl _ _ rfl rfl _ _ H4.out.1 (by kernel_rfl) (by rfl) (by simp [Value.oneCell']) ?_)
      refine bodyPost_ret (node_results rfl (cs := #[.int .u8 0, .string ⟨#[]⟩, .slice none 0 0]) rfl (setRow_heap _ _ _ _ _ _ H4.out.1) rfl) rfl ?_
      rw [HR.out]
      exact get_fail H4.out.2
    | true =>
      rw [hri] at HR
      go_wp2_with (refine wpList_store_row rfl _ _ _ rfl _ _ rfl rfl _ _ H4.out.1 (by kernel_rfl) (by rfl) (by simp [Value.oneCell']) ?_)
      refine bodyPost_ret (node_results rfl (cs := #[.int .u8 (y.k : Int), .string y.d, .slice A3 y.es.len c3]) rfl (setRow_heap _ _ _ _ _ _ H4.out.1) rfl) rfl ?_
      rw [HR.out]
      have hz5 : (W4.setRow w.heap.size #[.int .u8 (y.k : Int), .string y.d, .slice A3 y.es.len c3]).heap.size = W4.heap.size := by simp [World.setRow]
      exact ⟨below_setRow H4.out.2 (Nat.le_refl _) _, _, rfl, NdS.keep (fun b hb => ⟨⟨by have := hb.1; have := HZ1.out; omega, by rw [hz5]; have := hb.2; have := HZ4.out; omega⟩, setRow_other _ _ _ _ (by have := hb.1; have := HZ1.out; omega)⟩) HN4.out⟩
end Go.Proofs.Ytcleebigfbbdbaa
