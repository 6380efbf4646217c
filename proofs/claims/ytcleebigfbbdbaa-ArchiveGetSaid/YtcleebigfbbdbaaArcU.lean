/- archive: works. -/
import Derived.Test.YtcleebigfbbdbaaArcT
import Derived.Test.YtcleebigfbbdbaaArcG
import Derived.Test.YtcleebigfbbdbaaFilRa
set_option linter.unusedVariables false
set_option linter.unusedSimpArgs false
namespace Go.Proofs.Ytcleebigfbbdbaa
open Go Go.RowKit Go.BigFrame
open Fil (Es Nd Sp)
open Arc (BL num4 num2 encT letK encE encN sizE sizN rfN rdN rfE rdE rdT rd2 beN)
attribute [local go_sem] Oper.semAt_some

def nA : Nd := ⟨1, ⟨#[104, 105]⟩, .nil⟩
def nB : Nd := ⟨4, ⟨#[]⟩, .nil⟩
def nC : Nd := ⟨4, ⟨#[]⟩, .cons ⟨#[120]⟩ 3 ⟨#[121]⟩ .nil .nil⟩
def lA : BL := [84, 65, 82, 49, 70, 0, 0, 0, 2, 104, 105]
def lB : BL := [84, 65, 82, 49, 68, 0, 0]
def lC : BL := [84, 65, 82, 49, 68, 0, 1, 0, 0, 0, 1, 120, 76, 0, 0, 0, 1, 121]
theorem put_nA : putA nA = (0, lA) := by kernel_rfl
theorem put_nB : putA nB = (0, lB) := by kernel_rfl
theorem put_nC : putA nC = (0, lC) := by kernel_rfl
theorem get_lA : getR lA = (0, nA) := (get_put put_nA).1
theorem len_nA : lenR nA = 11 := by kernel_rfl
theorem put_ex (nd : Nd) (l : BL) (h : putA nd = (0, l)) (hN : nd.es.count ≤ 1000000) (w : World) (v : Value) (hv : NdV w w.heap.size v nd) : Calls Try.prog 10 #[v] w fun e W =>
    Below w.heap.size w W ∧ ∃ A cap, e = .returned (.tuple #[.slice A l.length cap, .int .i64 0]) ∧ BytAt W W.heap.size (.slice A l.length cap) l := by
  refine (putArc_any nd hN w w.heap.size (Nat.le_refl _) v hv).mono ?_
  rintro e W ⟨hb, v, he, hv⟩
  rw [h] at he hv
  obtain ⟨A, cap, rfl, _⟩ := hv.form
  exact ⟨hb, A, cap, he, hv⟩
theorem entRow8 {W : World} {g n : Nat} {es : Es} {xs : List Value} (hg : W.heap[g]? = some (.cells xs.toArray 42 (0, 0))) (hn : es.len = n) (hm : n ≤ maxLen) (hl : EntL W W.heap.size es xs) : EsAt W W.heap.size (.slice (some ⟨g, 0, none⟩) n n) es := by
  subst hn
  refine ⟨_, _, rfl, Nat.le_refl _, hm, (fun h => by cases h), fun _ => ⟨_, rfl, block_lt hg, ents_cells hl fun j u hu => ?_⟩⟩
  rw [Nat.zero_add, cell_of_row _ _ _ _ _ _ hg]
  simpa using hu
theorem nC_at (W : World) : NdV (W.alloc (.cells #[.string ⟨#[120]⟩, .int .u8 3, .string ⟨#[121]⟩, .slice none 0 0] 42)) (W.alloc (.cells #[.string ⟨#[120]⟩, .int .u8 3, .string ⟨#[121]⟩, .slice none 0 0] 42)).heap.size (.agg #[.int .u8 4, .string ⟨#[]⟩, .slice (some ⟨W.heap.size, 0, none⟩) 1 1]) nC :=
  ⟨_, rfl, entRow8 (es := nC.es) (n := 1) (xs := [.string ⟨#[120]⟩, .int .u8 3, .string ⟨#[121]⟩, .slice none 0 0]) (heap_alloc_new W _) rfl (by decide) ⟨_, [], rfl, by decide, by decide, by decide, EsAt.nil _ _, rfl⟩, by decide, by decide⟩
theorem bytes_lit (W : World) (g : Nat) (l : BL) (fr : Nat × Nat) (hl : l.length ≤ maxLen) (hg : W.heap[g]? = some (.cells (valB l).toArray 5 fr)) : BytAt W W.heap.size (.slice (some ⟨g, 0, none⟩) l.length l.length) l := by
  refine ⟨_, _, rfl, Nat.le_refl _, hl, (fun h => by cases h), fun _ => ⟨_, rfl, block_lt hg, fun i hi => ?_⟩⟩
  rw [add_none, Nat.zero_add, Joins.cell_of_block hg]
  simp [valB, dOf, hi]
def cA : Array Value := #[.int .u8 84, .int .u8 65, .int .u8 82, .int .u8 49, .int .u8 70, .int .u8 0, .int .u8 0, .int .u8 0, .int .u8 2, .int .u8 104, .int .u8 105]
theorem cA_val : (valB lA).toArray = cA := by kernel_rfl
theorem lit_A (w : World) : (convert 27 27 (.slice (some ⟨w.heap.size, 0, none⟩) 11 11)).run Try.prog (w.alloc (.cells #[.int .u8 84, .int .u8 65, .int .u8 82, .int .u8 49, .int .u8 70, .int .u8 0, .int .u8 0, .int .u8 0, .int .u8 2, .int .u8 104, .int .u8 105] 5)) = .ok (.slice (some ⟨w.heap.size, 0, none⟩) 11 11) (w.alloc (.cells cA 5 (11, 12))) :=
  Lib.run_convert_bytes_const w _ _ cA 11 11 (by kernel_rfl) (by kernel_rfl)
set_option maxRecDepth 1000000 in
set_option maxRecDepth 100000 in
set_option maxHeartbeats 8000000 in
theorem aworks_any (w : World) : Calls Try.prog 9 #[] w fun e W => e = .returned (.bool true) ∧ Below w.heap.size w W := by
  go_enter Try.func9, Try.ntmps9
  go_wp2_with fail
  refine (file_any ⟨#[104, 105]⟩ (by decide) w).mono ?_
  rintro e W1 ⟨hb1, v1, rfl, hv1⟩
  have HB1 := Lib.hid hb1
  have HV1 := Lib.hid hv1
  clear hb1 hv1
  go_wp2_with fail
  refine (put_ex nA lA put_nA (by decide) W1 v1 HV1.out).mono ?_
  rintro e W2 ⟨hb2, A2, c2, rfl, ha2⟩
  have HB2 := Lib.hid (HB1.out.trans (hb2.mono HB1.out.size))
  have HA2 := Lib.hid ha2
  clear hb2 ha2
  go_wp2_with fail
  refine (put_ex nB lB put_nB (by decide) W2 (.agg #[.int .u8 4, .string ⟨#[]⟩, .slice none 0 0]) ⟨_, rfl, EsAt.nil _ _, by decide, by decide⟩).mono ?_
  rintro e W3 ⟨hb3, A3, c3, rfl, ha3⟩
  have HB3 := Lib.hid (HB2.out.trans (hb3.mono HB2.out.size))
  have HA3 := Lib.hid (And.intro ((HA2.out.keep hb3).more hb3.size) ha3)
  clear hb3 ha3
  go_wp2_with fail
  refine (put_ex nC lC put_nC (by decide) _ _ (nC_at W3)).mono ?_
  rintro e W4 ⟨hb4, A4, c4, rfl, ha4⟩
  have hb34 : Below W3.heap.size W3 W4 := ((Below.refl _ W3).alloc (Nat.le_refl _) _).trans (hb4.mono (by simp))
  have HB4 := Lib.hid (HB3.out.trans (hb34.mono HB3.out.size))
  have HA4 := Lib.hid (And.intro ((HA3.out.1.keep hb34).more hb34.size) (And.intro ((HA3.out.2.keep hb34).more hb34.size) ha4))
  clear hb34 hb4 ha4
  have hcl := lit_A W4
  obtain ⟨W5, e5⟩ : ∃ W5, W5 = W4.alloc (.cells cA 5 (11, 12)) := ⟨_, rfl⟩
  rw [← e5] at hcl
  have hb5 : Below W4.heap.size W4 W5 := by rw [e5]; exact (Below.refl _ W4).alloc (Nat.le_refl _) _
  have HB5 := Lib.hid (HB4.out.trans (hb5.mono HB4.out.size))
  have HA5 := Lib.hid (show BytAt W5 W5.heap.size (.slice A2 lA.length c2) lA ∧ BytAt W5 W5.heap.size (.slice A3 lB.length c3) lB ∧ BytAt W5 W5.heap.size (.slice A4 lC.length c4) lC from ⟨(HA4.out.1.keep hb5).more hb5.size, (HA4.out.2.1.keep hb5).more hb5.size, (HA4.out.2.2.keep hb5).more hb5.size⟩)
  have HL5 := Lib.hid (bytes_lit W5 W4.heap.size lA (11, 12) (by decide) (by rw [e5, cA_val]; exact heap_alloc_new W4 _))
  clear e5 hb5
  go_wp2_with fail
  refine (getArc_any lA W5 W5.heap.size (Nat.le_refl _) _ HL5.out).mono ?_
  rintro e W6 ⟨hb6, v6, he6, hv6⟩
  rw [get_lA] at he6 hv6
  subst he6
  obtain ⟨ev, rfl, hes, hd, hk⟩ := hv6
  obtain ⟨A7, c7, rfl, _⟩ := hes.form
  obtain ⟨W7, e7⟩ : ∃ W7, W7 = W6.alloc (.cells #[.int .u8 1, .string ⟨#[104, 105]⟩, .slice A7 0 c7] 24) := ⟨_, rfl⟩
  have hb7 : Below W5.heap.size W5 W7 := by rw [e7]; exact hb6.alloc hb6.size _
  have hcA := ((HA5.out.1.keep hb7).more hb7.size).conv
  have hcB := ((HA5.out.2.1.keep hb7).more hb7.size).conv
  have hcC := ((HA5.out.2.2.keep hb7).more hb7.size).conv
  have HB7 := Lib.hid (HB5.out.trans (hb7.mono HB5.out.size))
  have hn7 : W7.heap[W6.heap.size]? = some (ndCells 1 ⟨#[104, 105]⟩ (.slice A7 0 c7)) := by rw [e7]; exact heap_alloc_new W6 _
  obtain ⟨hn0, hn1, hn2, _⟩ := nd_box hn7
  have hvn : NdV W7 W7.heap.size (.agg #[.int .u8 1, .string ⟨#[104, 105]⟩, .slice A7 0 c7]) nA := by
    have hx := NdS.keep (S' := fun b => b < W7.heap.size) (w' := W7) (fun b hb => ⟨by rw [e7]; simp; have := hb.2; omega, by rw [e7]; exact old_block _ _ _ hb.2⟩) (show NdS W6 (Nw W5 W6) (.agg #[.int .u8 1, .string ⟨#[104, 105]⟩, .slice A7 0 c7]) nA from ⟨_, rfl, hes, hd, hk⟩)
    exact hx.at (fun b hb => hb)
  have HLN := Lib.hid (len_any nA (by decide) W7 W7.heap.size (Nat.le_refl _) _ hvn)
  have eA : ((strOf lA).toList == [84, 65, 82, 49, 70, 0, 0, 0, 2, 104, 105]) = true := by kernel_rfl
  have eB : ((strOf lB).toList == [84, 65, 82, 49, 68, 0, 0]) = true := by kernel_rfl
  have eC : ((strOf lC).toList == [84, 65, 82, 49, 68, 0, 1, 0, 0, 0, 1, 120, 76, 0, 0, 0, 1, 121]) = true := by kernel_rfl
  generalize strOf lA = tA at *
  generalize strOf lB = tB at *
  generalize strOf lC = tC at *
  rw [e7] at hcA hcB hcC hn0 hn1 hn2
  rw [len_nA] at HLN
  clear hes hd hk hb6 hb7 hn7 hvn
  dsimp only [nA, Es.len]
  go_wp2_with fail
  rw [← e7]
  refine HLN.out.mono ?_
  rintro e W8 ⟨rfl, hb8⟩
  have HB8 := Lib.hid (HB7.out.trans (hb8.mono HB7.out.size))
  clear hb8 hcA hcB hcC hn0 hn1 hn2 e7 eA eB eC
  go_wp2
  go_ret
  exact ⟨rfl, HB8.out⟩
end Go.Proofs.Ytcleebigfbbdbaa
