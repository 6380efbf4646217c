/- archive: the reference's getNode. -/
import Derived.Test.YtcleebigfbbdbaaArcY
set_option linter.unusedVariables false
set_option linter.unusedSimpArgs false
namespace Go.Proofs.Ytcleebigfbbdbaa
open Go Go.RowKit Go.BigFrame
open Fil (Es Nd Sp)
open Arc (BL num4 num2 encT letK encE encN sizE sizN rfN rdN rfE rdE rdT rd2 beN)
attribute [local go_sem] Oper.semAt_some

theorem byte_is (c x : UInt8) (n : Nat) (hn : x.toNat = n) (h : c = x) : ((c.toNat : Int) == (n : Int)) = true := by subst h; rw [hn]; exact beq_self_eq_true _
theorem byte_not (c x : UInt8) (n : Nat) (hn : x.toNat = n) (h : ¬ c = x) : ((c.toNat : Int) == (n : Int)) = false := by
  rw [beq_eq_false_iff_ne]
  intro e
  exact h (UInt8.toNat_inj.1 (by omega))
theorem leaf_out {w W2 : World} {k : Nat} {s : ByteArray} (hb : Below w.heap.size w W2) (hlt : w.heap.size + 1 < W2.heap.size) (hk : k < 256) (hs : s.size ≤ maxLen) :
    Below w.heap.size w ((W2.setCell ⟨w.heap.size + 1, 1, none⟩ (.string s)).setRow w.heap.size #[.int .u8 (k : Int), .string s, .slice none 0 0]) ∧ NdS ((W2.setCell ⟨w.heap.size + 1, 1, none⟩ (.string s)).setRow w.heap.size #[.int .u8 (k : Int), .string s, .slice none 0 0]) (Nw w ((W2.setCell ⟨w.heap.size + 1, 1, none⟩ (.string s)).setRow w.heap.size #[.int .u8 (k : Int), .string s, .slice none 0 0])) (.agg #[.int .u8 (k : Int), .string s, .slice none 0 0]) ⟨k, s, .nil⟩ :=
  ⟨below_setRow (hb.setCell (p := ⟨w.heap.size + 1, 1, none⟩) (by show w.heap.size ≤ w.heap.size + 1; omega) _) (Nat.le_refl _) _, _, rfl, EsS.nil _ _, hs, hk⟩
theorem zero_out {l : BL} (w : World) : GnPost w none l (.returned (.tuple #[.agg #[.int .u8 0, .string ⟨#[]⟩, .slice none 0 0], .int .i64 0, .bool false])) (w.alloc (.cells #[.int .u8 0, .string ⟨#[]⟩, .slice none 0 0] 24)) :=
  ⟨(Below.refl _ w).alloc (Nat.le_refl _) _, _, zNd, 0, false, rfl, ⟨_, rfl, EsS.nil _ _, Nat.zero_le _, (by decide : (0 : Nat) < 256)⟩, rfl⟩
set_option maxRecDepth 1000000 in
set_option maxRecDepth 100000 in
set_option maxHeartbeats 16000000 in
theorem getNode_any (l : BL) (hl : l.length ≤ 10000000) : ∀ (f dep : Nat), f + dep = 33 → ∀ (w : World) (at' : Nat), at' ≤ l.length → ∀ (B : Nat), B ≤ w.heap.size → ∀ v, BytAt w B v l →
    Calls Try.prog 34 #[v, .int .i64 (at' : Int), .int .i64 (dep : Int)] w (GnPost w (rfN f (l.drop at')) l) := by
  intro f
  induction f with
  | zero =>
    intro dep hfd w at' ha B hBw v hv
    obtain rfl : dep = 33 := by omega
    obtain ⟨A, cap, rfl, hcp⟩ := hv.form
    clear hv
    go_enter Try.func34, Try.ntmps34
    rcases Nat.lt_or_ge at' l.length with h | h
    · have hI : decide ((l.length : Int) ≤ (at' : Int)) = false := decide_eq_false (by omega)
      have hI2 : ¬ (l.length : Int) ≤ (at' : Int) := by omega
      go_wp2
      refine bodyPost_ret (node_results3 rfl (cs := #[.int .u8 0, .string ⟨#[]⟩, .slice none 0 0]) rfl (heap_alloc_new _ _) rfl) rfl ?_
      exact zero_out w
    · have hI : decide ((l.length : Int) ≤ (at' : Int)) = true := decide_eq_true (by omega)
      have hI2 : (l.length : Int) ≤ (at' : Int) := by omega
      go_wp2
      refine bodyPost_ret (node_results3 rfl (cs := #[.int .u8 0, .string ⟨#[]⟩, .slice none 0 0]) rfl (heap_alloc_new _ _) rfl) rfl ?_
      exact zero_out w
  | succ f ih =>
    intro dep hfd w at' ha B hBw v hv
    have HV := Lib.hid hv
    have HIH := Lib.hid ih
    obtain ⟨A, cap, rfl, hcp⟩ := hv.form
    clear hv ih
    have hdI : decide ((32 : Int) < (dep : Int)) = false := decide_eq_false (by omega)
    have hdI2 : ¬ (32 : Int) < (dep : Int) := by omega
    go_enter Try.func34, Try.ntmps34
    rcases Nat.lt_or_ge at' l.length with h | h
    rotate_left
    · have hI : decide ((l.length : Int) ≤ (at' : Int)) = true := decide_eq_true (by omega)
      have hI2 : (l.length : Int) ≤ (at' : Int) := by omega
      have HN := Lib.hid (show rfN (f + 1) (l.drop at') = none by rw [List.drop_eq_nil_of_le h]; rfl)
      go_wp2
      refine bodyPost_ret (node_results3 rfl (cs := #[.int .u8 0, .string ⟨#[]⟩, .slice none 0 0]) rfl (heap_alloc_new _ _) rfl) rfl ?_
      rw [HN.out]
      exact zero_out w
    have hI : decide ((l.length : Int) ≤ (at' : Int)) = false := decide_eq_false (by omega)
    have hI2 : ¬ (l.length : Int) ≤ (at' : Int) := by omega
    have hi0 : (at' : Int) < (l.length : Int) := by omega
    have hat0 : (0 : Int) ≤ (at' : Int) := by omega
    obtain ⟨a1, ha1⟩ : ∃ a1, a1 = at' + 1 := ⟨_, rfl⟩
    have hw1 : IntKind.i64.wrap ((at' : Int) + 1) = (a1 : Int) := by rw [ha1]; push_cast; exact IntWalk.i64_in _ (by omega)
    have ha1l : a1 ≤ l.length := by omega
    obtain ⟨ab, ao, cap', he, hcap, hcm, hab, hcs⟩ := HV.out.cells (by omega)
    injection he with he1 _ he2
    subst he1
    subst he2
    obtain ⟨c, h0⟩ : ∃ c, l[at']? = some c := ⟨_, List.getElem?_eq_getElem (by omega)⟩
    have hc0 := hcs _ _ h0
    have hc : ∀ o1 o2 : Obj, ((w.alloc o1).alloc o2).cell? ⟨ab, ao + at', none⟩ = some (.int .u8 (c.toNat : Int)) := fun o1 o2 => by
      have hb := ((Below.refl w.heap.size w).alloc (Nat.le_refl _) o1).alloc (by simp) o2
      exact (hb.cell (p := ⟨ab, ao + at', none⟩) (by show ab < _; omega)).trans hc0
    have HRN := Lib.hid (show rfN (f + 1) (l.drop at') = (if c = 70 then Arc.leafF 1 (l.drop a1) else if c = 88 then Arc.leafF 2 (l.drop a1) else if c = 76 then Arc.leafF 3 (l.drop a1) else if c = 68 then dirF f (l.drop a1) else none) by
      rw [ha1, List.drop_eq_getElem_cons h]
      rw [List.getElem?_eq_getElem h] at h0
      rw [Option.some.inj h0]
      unfold Arc.rfN dirF
      rfl)
    clear h0 hcs hc0 ha1 h
    by_cases h70 : c = 70
    · have e70 : ((c.toNat : Int) == 70) = true := byte_is c 70 70 rfl h70
      have HRL := Lib.hid (show rfN (f + 1) (l.drop at') = Arc.leafF 1 (l.drop a1) by rw [HRN.out, if_pos h70])
      obtain ⟨W1, e1, hx6, hx9, hb0, hz⟩ := rows2 w (.cells #[.int .u8 0, .string ⟨#[]⟩, .slice none 0 0] 24) (.cells #[.int .u8 1, .string ⟨#[]⟩, .slice none 0 0] 24)
      have HTX := Lib.hid (getText_any l a1 hl ha1l W1 B _ (HV.out.keep (hb0.mono hBw)))
      have HX := Lib.hid (And.intro hx6 (And.intro hx9 (And.intro hb0 hz)))
      clear h70 hx6 hx9 hb0 hz
      go_wp2_with fail
      rw [← e1]
      clear e1 hc
      refine HTX.out.mono ?_
      rintro e W2 ⟨⟨nq, rfl⟩, hm⟩
      have H6 := Lib.hid (show ∀ u, ((W1.drewN nq).setCell ⟨w.heap.size + 1, 1, none⟩ u).heap[w.heap.size]? = some (.cells #[.int .u8 0, .string ⟨#[]⟩, .slice none 0 0] 24 (0, 0)) from fun u => (heap_setCell_other _ _ _ _ (by show w.heap.size ≠ w.heap.size + 1; omega)).trans (by rw [heap_drewN]; exact HX.out.1))
      have h9 : (W1.drewN nq).heap[w.heap.size + 1]? = some (ndCells 1 ⟨#[]⟩ (.slice none 0 0)) := by rw [heap_drewN]; exact HX.out.2.1
      have H9 := Lib.hid h9
      obtain ⟨hn0, hn1, hn2, hf0, hf1, hf2⟩ := nd_box h9
      have hbl : Below w.heap.size w (W1.drewN nq) := below_drewN HX.out.2.2.1 nq
      have HBL := Lib.hid hbl
      clear h9 hbl hf0 hf2
      generalize W1.drewN nq = W2 at *
      cases hT : rdT (l.drop a1) with
      | none =>
        rw [hT] at hm
        subst hm
        have HF := Lib.hid (show rfN (f + 1) (l.drop at') = none by rw [HRL.out]; unfold Arc.leafF; rw [hT])
        clear hT
        go_wp2_with (refine wpList_store_row rfl _ _ _ rfl _ _ rfl rfl _ _ (H6.out _) (by kernel_rfl) (by rfl) (by simp [Value.oneCell']) ?_)
        refine bodyPost_ret (node_results3 rfl (cs := #[.int .u8 1, .string ⟨#[]⟩, .slice none 0 0]) rfl (setRow_heap _ _ _ _ _ _ (H6.out _)) rfl) rfl ?_
        rw [HF.out]
        obtain ⟨h1, h2⟩ := leaf_out (k := 1) (s := ⟨#[]⟩) HBL.out (block_lt H9.out) (by decide) (Nat.zero_le _)
        exact ⟨h1, _, _, 0, false, rfl, h2, rfl⟩
      | some p =>
        obtain ⟨s, r2⟩ := p
        rw [hT] at hm
        obtain ⟨rfl, hr2, hle3⟩ := hm
        dsimp only at hr2 hle3
        have HF := Lib.hid (show rfN (f + 1) (l.drop at') = some (⟨1, s, .nil⟩, r2) by rw [HRL.out]; unfold Arc.leafF; rw [hT])
        obtain ⟨at3, hat3⟩ : ∃ at3, at3 = a1 + 4 + s.size := ⟨_, rfl⟩
        dsimp only
        rw [← hat3] at hr2 hle3 ⊢
        have HSS := Lib.hid (show s.size ≤ maxLen by unfold maxLen; omega)
        have HR2 := Lib.hid (And.intro hr2 hle3)
        clear hT hr2 hat3 hle3
        go_wp2_with (refine wpList_store_row rfl _ _ _ rfl _ _ rfl rfl _ _ (H6.out _) (by kernel_rfl) (by rfl) (by simp [Value.oneCell']) ?_)
        refine bodyPost_ret (node_results3 rfl (cs := #[.int .u8 1, .string s, .slice none 0 0]) rfl (setRow_heap _ _ _ _ _ _ (H6.out _)) rfl) rfl ?_
        rw [HF.out]
        obtain ⟨h1, h2⟩ := leaf_out (k := 1) (s := s) HBL.out (block_lt H9.out) (by decide) HSS.out
        exact ⟨h1, _, _, at3, true, rfl, h2, rfl, by rw [HR2.out.1], HR2.out.2⟩
    have e70 : ((c.toNat : Int) == 70) = false := byte_not c 70 70 rfl h70
    by_cases h88 : c = 88
    · have e88 : ((c.toNat : Int) == 88) = true := byte_is c 88 88 rfl h88
      have HRL := Lib.hid (show rfN (f + 1) (l.drop at') = Arc.leafF 2 (l.drop a1) by rw [HRN.out, if_neg h70, if_pos h88])
      obtain ⟨W1, e1, hx6, hx9, hb0, hz⟩ := rows2 w (.cells #[.int .u8 0, .string ⟨#[]⟩, .slice none 0 0] 24) (.cells #[.int .u8 2, .string ⟨#[]⟩, .slice none 0 0] 24)
      have HTX := Lib.hid (getText_any l a1 hl ha1l W1 B _ (HV.out.keep (hb0.mono hBw)))
      have HX := Lib.hid (And.intro hx6 (And.intro hx9 (And.intro hb0 hz)))
      clear h88 hx6 hx9 hb0 hz
      go_wp2_with fail
      rw [← e1]
      clear e1 hc
      refine HTX.out.mono ?_
      rintro e W2 ⟨⟨nq, rfl⟩, hm⟩
      have H6 := Lib.hid (show ∀ u, ((W1.drewN nq).setCell ⟨w.heap.size + 1, 1, none⟩ u).heap[w.heap.size]? = some (.cells #[.int .u8 0, .string ⟨#[]⟩, .slice none 0 0] 24 (0, 0)) from fun u => (heap_setCell_other _ _ _ _ (by show w.heap.size ≠ w.heap.size + 1; omega)).trans (by rw [heap_drewN]; exact HX.out.1))
      have h9 : (W1.drewN nq).heap[w.heap.size + 1]? = some (ndCells 2 ⟨#[]⟩ (.slice none 0 0)) := by rw [heap_drewN]; exact HX.out.2.1
      have H9 := Lib.hid h9
      obtain ⟨hn0, hn1, hn2, hf0, hf1, hf2⟩ := nd_box h9
      have hbl : Below w.heap.size w (W1.drewN nq) := below_drewN HX.out.2.2.1 nq
      have HBL := Lib.hid hbl
      clear h9 hbl hf0 hf2
      generalize W1.drewN nq = W2 at *
      cases hT : rdT (l.drop a1) with
      | none =>
        rw [hT] at hm
        subst hm
        have HF := Lib.hid (show rfN (f + 1) (l.drop at') = none by rw [HRL.out]; unfold Arc.leafF; rw [hT])
        clear hT
        go_wp2_with (refine wpList_store_row rfl _ _ _ rfl _ _ rfl rfl _ _ (H6.out _) (by kernel_rfl) (by rfl) (by simp [Value.oneCell']) ?_)
        refine bodyPost_ret (node_results3 rfl (cs := #[.int .u8 2, .string ⟨#[]⟩, .slice none 0 0]) rfl (setRow_heap _ _ _ _ _ _ (H6.out _)) rfl) rfl ?_
        rw [HF.out]
        obtain ⟨h1, h2⟩ := leaf_out (k := 2) (s := ⟨#[]⟩) HBL.out (block_lt H9.out) (by decide) (Nat.zero_le _)
        exact ⟨h1, _, _, 0, false, rfl, h2, rfl⟩
      | some p =>
        obtain ⟨s, r2⟩ := p
        rw [hT] at hm
        obtain ⟨rfl, hr2, hle3⟩ := hm
        dsimp only at hr2 hle3
        have HF := Lib.hid (show rfN (f + 1) (l.drop at') = some (⟨2, s, .nil⟩, r2) by rw [HRL.out]; unfold Arc.leafF; rw [hT])
        obtain ⟨at3, hat3⟩ : ∃ at3, at3 = a1 + 4 + s.size := ⟨_, rfl⟩
        dsimp only
        rw [← hat3] at hr2 hle3 ⊢
        have HSS := Lib.hid (show s.size ≤ maxLen by unfold maxLen; omega)
        have HR2 := Lib.hid (And.intro hr2 hle3)
        clear hT hr2 hat3 hle3
        go_wp2_with (refine wpList_store_row rfl _ _ _ rfl _ _ rfl rfl _ _ (H6.out _) (by kernel_rfl) (by rfl) (by simp [Value.oneCell']) ?_)
        refine bodyPost_ret (node_results3 rfl (cs := #[.int .u8 2, .string s, .slice none 0 0]) rfl (setRow_heap _ _ _ _ _ _ (H6.out _)) rfl) rfl ?_
        rw [HF.out]
        obtain ⟨h1, h2⟩ := leaf_out (k := 2) (s := s) HBL.out (block_lt H9.out) (by decide) HSS.out
        exact ⟨h1, _, _, at3, true, rfl, h2, rfl, by rw [HR2.out.1], HR2.out.2⟩
    have e88 : ((c.toNat : Int) == 88) = false := byte_not c 88 88 rfl h88
    by_cases h76 : c = 76
    · have e76 : ((c.toNat : Int) == 76) = true := byte_is c 76 76 rfl h76
      have HRL := Lib.hid (show rfN (f + 1) (l.drop at') = Arc.leafF 3 (l.drop a1) by rw [HRN.out, if_neg h70, if_neg h88, if_pos h76])
      obtain ⟨W1, e1, hx6, hx9, hb0, hz⟩ := rows2 w (.cells #[.int .u8 0, .string ⟨#[]⟩, .slice none 0 0] 24) (.cells #[.int .u8 3, .string ⟨#[]⟩, .slice none 0 0] 24)
      have HTX := Lib.hid (getText_any l a1 hl ha1l W1 B _ (HV.out.keep (hb0.mono hBw)))
      have HX := Lib.hid (And.intro hx6 (And.intro hx9 (And.intro hb0 hz)))
      clear h76 hx6 hx9 hb0 hz
      go_wp2_with fail
      rw [← e1]
      clear e1 hc
      refine HTX.out.mono ?_
      rintro e W2 ⟨⟨nq, rfl⟩, hm⟩
      have H6 := Lib.hid (show ∀ u, ((W1.drewN nq).setCell ⟨w.heap.size + 1, 1, none⟩ u).heap[w.heap.size]? = some (.cells #[.int .u8 0, .string ⟨#[]⟩, .slice none 0 0] 24 (0, 0)) from fun u => (heap_setCell_other _ _ _ _ (by show w.heap.size ≠ w.heap.size + 1; omega)).trans (by rw [heap_drewN]; exact HX.out.1))
      have h9 : (W1.drewN nq).heap[w.heap.size + 1]? = some (ndCells 3 ⟨#[]⟩ (.slice none 0 0)) := by rw [heap_drewN]; exact HX.out.2.1
      have H9 := Lib.hid h9
      obtain ⟨hn0, hn1, hn2, hf0, hf1, hf2⟩ := nd_box h9
      have hbl : Below w.heap.size w (W1.drewN nq) := below_drewN HX.out.2.2.1 nq
      have HBL := Lib.hid hbl
      clear h9 hbl hf0 hf2
      generalize W1.drewN nq = W2 at *
      cases hT : rdT (l.drop a1) with
      | none =>
        rw [hT] at hm
        subst hm
        have HF := Lib.hid (show rfN (f + 1) (l.drop at') = none by rw [HRL.out]; unfold Arc.leafF; rw [hT])
        clear hT
        go_wp2_with (refine wpList_store_row rfl _ _ _ rfl _ _ rfl rfl _ _ (H6.out _) (by kernel_rfl) (by rfl) (by simp [Value.oneCell']) ?_)
        refine bodyPost_ret (node_results3 rfl (cs := #[.int .u8 3, .string ⟨#[]⟩, .slice none 0 0]) rfl (setRow_heap _ _ _ _ _ _ (H6.out _)) rfl) rfl ?_
        rw [HF.out]
        obtain ⟨h1, h2⟩ := leaf_out (k := 3) (s := ⟨#[]⟩) HBL.out (block_lt H9.out) (by decide) (Nat.zero_le _)
        exact ⟨h1, _, _, 0, false, rfl, h2, rfl⟩
      | some p =>
        obtain ⟨s, r2⟩ := p
        rw [hT] at hm
        obtain ⟨rfl, hr2, hle3⟩ := hm
        dsimp only at hr2 hle3
        have HF := Lib.hid (show rfN (f + 1) (l.drop at') = some (⟨3, s, .nil⟩, r2) by rw [HRL.out]; unfold Arc.leafF; rw [hT])
        obtain ⟨at3, hat3⟩ : ∃ at3, at3 = a1 + 4 + s.size := ⟨_, rfl⟩
        dsimp only
        rw [← hat3] at hr2 hle3 ⊢
        have HSS := Lib.hid (show s.size ≤ maxLen by unfold maxLen; omega)
        have HR2 := Lib.hid (And.intro hr2 hle3)
        clear hT hr2 hat3 hle3
        go_wp2_with (refine wpList_store_row rfl _ _ _ rfl _ _ rfl rfl _ _ (H6.out _) (by kernel_rfl) (by rfl) (by simp [Value.oneCell']) ?_)
        refine bodyPost_ret (node_results3 rfl (cs := #[.int .u8 3, .string s, .slice none 0 0]) rfl (setRow_heap _ _ _ _ _ _ (H6.out _)) rfl) rfl ?_
        rw [HF.out]
        obtain ⟨h1, h2⟩ := leaf_out (k := 3) (s := s) HBL.out (block_lt H9.out) (by decide) HSS.out
        exact ⟨h1, _, _, at3, true, rfl, h2, rfl, by rw [HR2.out.1], HR2.out.2⟩
    have e76 : ((c.toNat : Int) == 76) = false := byte_not c 76 76 rfl h76

    by_cases h68 : c = 68
    · have e68 : ((c.toNat : Int) == 68) = true := byte_is c 68 68 rfl h68
      have HRL := Lib.hid (show rfN (f + 1) (l.drop at') = dirF f (l.drop a1) by rw [HRN.out, if_neg h70, if_neg h88, if_neg h76, if_pos h68])
      obtain ⟨W1, e1, hx6, hx9, hb0, hz⟩ := rows2 w (.cells #[.int .u8 0, .string ⟨#[]⟩, .slice none 0 0] 24) (.cells #[.int .u8 0, .string ⟨#[]⟩, .slice none 0 0] 24)
      have HGD := Lib.hid (getDir_any f l hl dep (by omega) (fun w' p hp B' hB' v' hv' => by have := HIH.out (dep + 1) (by omega) w' p hp B' hB' v' hv'; rwa [show ((dep + 1 : Nat) : Int) = (dep : Int) + 1 from rfl] at this) W1 a1 ha1l B (by omega) _ (HV.out.keep (hb0.mono hBw)))
      have HX := Lib.hid (And.intro hx6 (And.intro hb0 hz))
      clear h68 hx6 hx9 hb0 hz
      go_wp2_with fail
      rw [← e1]
      clear e1 hc
      refine HGD.out.mono ?_
      rintro e W2 ⟨hb2, v2, y, next, ok, rfl, hy, hm⟩
      obtain ⟨ev, rfl, hes, hyd, hyk⟩ := hy
      obtain ⟨A3, c3, rfl, hcp3⟩ := hes.form
      have hx6' : W2.heap[w.heap.size]? = some (.cells #[.int .u8 0, .string ⟨#[]⟩, .slice none 0 0] 24 (0, 0)) := (hb2.block _ (by have := HX.out.2.2; omega)).trans HX.out.1
      have H6 := Lib.hid hx6'
      have hz3 : (W2.setRow w.heap.size #[.int .u8 (y.k : Int), .string y.d, .slice A3 y.es.len c3]).heap.size = W2.heap.size := by simp [World.setRow]
      have HG := Lib.hid (show GnPost w (rfN (f + 1) (l.drop at')) l (.returned (.tuple #[.agg #[.int .u8 (y.k : Int), .string y.d, .slice A3 y.es.len c3], .int .i64 (next : Int), .bool ok])) (W2.setRow w.heap.size #[.int .u8 (y.k : Int), .string y.d, .slice A3 y.es.len c3]) from
        ⟨below_setRow (HX.out.2.1.trans (hb2.mono (by have := HX.out.2.2; omega))) (Nat.le_refl _) _, _, y, next, ok, rfl, ⟨_, rfl, hes.keep fun b hb => ⟨⟨by have := hb.1; have := HX.out.2.2; omega, by rw [hz3]; exact hb.2⟩, setRow_other _ _ _ _ (by have := hb.1; have := HX.out.2.2; omega)⟩, hyd, hyk⟩, by rw [HRL.out]; exact hm⟩)
      clear hb2 hes hyd hyk hcp3 hm hx6' hz3
      go_wp2_with (refine wpList_store_row rfl _ _ _ rfl _ _ rfl rfl _ _ H6.out (by kernel_rfl) (by rfl) (by simp [Value.oneCell']) ?_)
      refine bodyPost_ret (node_results3 rfl (cs := #[.int .u8 (y.k : Int), .string y.d, .slice A3 y.es.len c3]) rfl (setRow_heap _ _ _ _ _ _ H6.out) rfl) rfl ?_
      exact HG.out
    have e68 : ((c.toNat : Int) == 68) = false := byte_not c 68 68 rfl h68
    have HRL := Lib.hid (show rfN (f + 1) (l.drop at') = none by rw [HRN.out, if_neg h70, if_neg h88, if_neg h76, if_neg h68])
    have H6 := Lib.hid (show ((w.alloc (.cells #[.int .u8 0, .string ⟨#[]⟩, .slice none 0 0] 24)).alloc (.cells #[.int .u8 0, .string ⟨#[]⟩, .slice none 0 0] 24)).heap[w.heap.size]? = some (.cells #[.int .u8 0, .string ⟨#[]⟩, .slice none 0 0] 24 (0, 0)) from (old_block _ _ _ (by simp)).trans (heap_alloc_new _ _))
    go_wp2_with (refine wpList_store_row rfl _ _ _ rfl _ _ rfl rfl _ _ H6.out (by kernel_rfl) (by rfl) (by simp [Value.oneCell']) ?_)
    refine bodyPost_ret (node_results3 rfl (cs := #[.int .u8 0, .string ⟨#[]⟩, .slice none 0 0]) rfl (setRow_heap _ _ _ _ _ _ H6.out) rfl) rfl ?_
    rw [HRL.out]
    exact ⟨below_setRow (((Below.refl _ w).alloc (Nat.le_refl _) _).alloc (by simp) _) (Nat.le_refl _) _, _, zNd, 0, false, rfl, ⟨_, rfl, EsS.nil _ _, Nat.zero_le _, (by decide : (0 : Nat) < 256)⟩, rfl⟩
end Go.Proofs.Ytcleebigfbbdbaa
