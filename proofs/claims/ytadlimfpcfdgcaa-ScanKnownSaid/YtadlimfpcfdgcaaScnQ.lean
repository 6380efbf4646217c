/- scan: Refs and Tree of the reference, Tree, few, ScanRefs. -/
import Derived.Test.YtadlimfpcfdgcaaScnO
set_option linter.unusedVariables false
set_option linter.unusedSimpArgs false
namespace Go.Proofs.Ytadlimfpcfdgcaa
open Go Go.RowKit Go.BigFrame Go.Maps
open Scn (runOf wins winsTo firsts)
open Fil (Es Nd Sp)

set_option maxRecDepth 1000000 in
theorem file_any (s : ByteArray) (hs : s.size ≤ maxLen) (w : World) :
    Calls Try.prog 15 #[.string s] w fun e W => Below w.heap.size w W ∧ ∃ v, e = .returned v ∧ NdV W W.heap.size v ⟨1, s, .nil⟩ := by
  go_enter Try.func15, Try.ntmps15
  have hbw := (Below.refl w.heap.size w).alloc (Nat.le_refl _) (.cells #[.int .u8 1, .string s, .slice none 0 0] 40)
  have hnb := heap_alloc_new w (.cells #[.int .u8 1, .string s, .slice none 0 0] 40)
  have hi : (Try.prog.info? 40).map (·.size) = some 3 := by kernel_rfl
  have HH := Lib.hid (And.intro hbw hnb)
  clear hbw hnb
  go_wp2
  refine bodyPost_ret (results_cell_row rfl _ _ _ _ _ _ _ rfl HH.out.2 Try.underlying40 (by rfl) hi) rfl ⟨HH.out.1, _, rfl, _, rfl, EsAt.nil _ _, hs, (by decide : (1 : Nat) < 256)⟩
theorem toldF_mem (names : List ByteArray) {a b : List ByteArray} (h : ∀ x, x ∈ a ↔ x ∈ b) : toldF names a = toldF names b := by
  unfold toldF
  congr 1
  funext s
  have : isIn (Nam.headS s) a = isIn (Nam.headS s) b := by rw [Bool.eq_iff_iff, isIn_iff, isIn_iff]; exact h _
  rw [this]
set_option maxRecDepth 100000 in
set_option maxHeartbeats 4000000 in
theorem refRefs_any (v a : Value) (l : List UInt8) (names : List ByteArray) (B : Nat) (w : World) (hv : BytAt w B v l) (ha : Reads w B a (strs names)) (hBw : B ≤ w.heap.size) (hs : SmallT names) (hn : names.length ≤ 1000000) (hl : l.length ≤ 1000000) :
    Calls Try.prog 26 #[v, a] w (AllPost w (refsF (strOf l) names)) := by
  have HE := Lib.hid (show refsF (strOf l) names = toldF names (allF (strOf l)) from toldF_mem names (fun x => (all_win _ x).symm))
  have HP := Lib.hid (fun (W W2 : World) (v : Value) (hb : Below w.heap.size w W) (h : AllPost W (refsF (strOf l) names) (.returned v) W2) => show AllPost w (refsF (strOf l) names) (.returned v) W2 from by
    obtain ⟨h1, v', e, h2⟩ := h
    cases e
    exact ⟨below_step hb h1 hb.size, v, rfl, own_base h2 hb.size⟩)
  have HR := Lib.hid (refAll_any v l B w hv hBw hl)
  have HA := Lib.hid ha
  obtain ⟨A, cap, rfl, _⟩ := hv.form
  obtain ⟨A2, c2, rfl, _⟩ := ha.shape
  clear hv ha
  generalize hq : AllPost w (refsF (strOf l) names) = post at *
  clear hq
  go_enter Try.func26, Try.ntmps26
  go_wp2_with fail
  refine HR.out.mono ?_
  rintro e W2 ⟨hb2, v2, rfl, ho2⟩
  have HS := Lib.hid (refSome_any v2 _ (allF (strOf l)) names _ W2 (Reads.own ho2) ((HA.out.below (hb2.mono hBw)).more (Nat.le_trans hBw hb2.size)) (Nat.le_refl _) hs hn)
  rw [← HE.out] at HS
  have HB2 := Lib.hid hb2
  clear hb2 ho2 HR
  go_wp2_with fail
  refine HS.out.mono ?_
  intro e W3 hp
  obtain ⟨v3, rfl⟩ : ∃ v, e = .returned v := by obtain ⟨_, v, e1, _⟩ := hp; exact ⟨v, e1⟩
  have HQ := Lib.hid (HP.out W2 W3 v3 HB2.out hp)
  clear hp HS
  go_wp2
  exact HQ.out
/-- What Tree answers. -/
def treeF (nd : Nd) (names : List ByteArray) : List ByteArray := if nd.right then toldF names (gN winB nd) else []
theorem right_c (v : Value) (nd : Nd) (w : World) (hv : NdV w w.heap.size v nd) (hc : nd.es.count ≤ 1000000) : Calls Try.prog 29 #[v] w fun e W => e = .returned (.bool nd.right) ∧ Below w.heap.size w W :=
  callsIn_wide.1 (right_any 5 (Nat.le_refl _) v nd w hv (by rw [Fil.Nd.flat_len]; unfold Fil.Nd.count; omega))
theorem wei_count : ∀ es : Es, es.count ≤ weiE es
  | .nil => Nat.le_refl _
  | .cons _ _ _ s nx => by have h1 := wei_count s; have h2 := wei_count nx; simp only [Es.count, weiE, weiN]; omega
theorem ndv_w {w W : World} {B : Nat} {v : Value} {nd : Nd} (h : NdV w B v nd) (hb : Below B w W) (hB : B ≤ W.heap.size) : NdV W W.heap.size v nd := (h.keep hb).more hB
set_option maxRecDepth 100000 in
set_option maxHeartbeats 4000000 in
theorem tree_c (v a : Value) (nd : Nd) (names : List ByteArray) (B : Nat) (w : World) (hv : NdV w B v nd) (ha : Reads w B a (strs names)) (hBw : B ≤ w.heap.size) (hs : SmallT names) (hn : names.length ≤ 1000000) (hw : weiN nd ≤ 400000) :
    Calls Try.prog 17 #[v, a] w (AllPost w (treeF nd names)) := by
  have hcw := wei_count nd.es
  have hcount : nd.es.count ≤ 1000000 := by unfold weiN at hw; omega
  have HP := Lib.hid (fun (W W2 : World) (v : Value) (hr : nd.right = true) (hb : Below w.heap.size w W) (h : AllPost W (toldF names (gN winB nd)) (.returned v) W2) => show AllPost w (treeF nd names) (.returned v) W2 from by
    obtain ⟨h1, v', e, h2⟩ := h
    cases e
    unfold treeF
    rw [if_pos hr]
    exact ⟨below_step hb h1 hb.size, v, rfl, own_base h2 hb.size⟩)
  have HN := Lib.hid (fun (W : World) (hr : nd.right = false) (hb : Below w.heap.size w W) => show AllPost w (treeF nd names) (.returned (.slice none 0 0)) W from by
    unfold treeF
    rw [if_neg (by simp [hr])]
    exact ⟨hb, _, rfl, World.ownsRow_nil _ _ _ _⟩)
  generalize hq : AllPost w (treeF nd names) = post at *
  clear hq hcw
  have HV := Lib.hid hv
  have HA := Lib.hid ha
  obtain ⟨ev, rfl, hes, hd, hk⟩ := hv
  obtain ⟨A, c, rfl, hlc, hcm⟩ := hes.form
  obtain ⟨A2, c2, rfl, _⟩ := ha.shape
  clear ha hes
  go_enter Try.func17, Try.ntmps17
  have hb0 : Below w.heap.size w (w.alloc (ndCells nd.k nd.d (.slice A nd.es.len c))) := (Below.refl _ w).alloc (Nat.le_refl _) _
  have hg0 : (w.alloc (ndCells nd.k nd.d (.slice A nd.es.len c))).heap[w.heap.size]? = some (ndCells nd.k nd.d (.slice A nd.es.len c)) := heap_alloc_new _ _
  have hsz : (w.alloc (ndCells nd.k nd.d (.slice A nd.es.len c))).heap.size = w.heap.size + 1 := by simp
  go_upto_region 1 with (fail)
  change Code.wp _ _ _ _ (w.alloc (ndCells nd.k nd.d (.slice A nd.es.len c)))
  generalize w.alloc (ndCells nd.k nd.d (.slice A nd.es.len c)) = W1 at *
  obtain ⟨hx0, hx1, hx2, _⟩ := nd_box hg0
  have HR := Lib.hid (right_c _ nd W1 (ndv_w HV.out (hb0.mono hBw) (Nat.le_trans hBw hb0.size)) hcount)
  have HB0 := Lib.hid hb0
  have HG0 := Lib.hid (And.intro hg0 hsz)
  clear hb0 hg0 hsz
  cases hr : nd.right with
  | false =>
    have HRT := Lib.hid hr
    rw [hr] at HR
    clear hr
    go_wp2_with fail
    refine HR.out.mono ?_
    rintro e W2 ⟨rfl, hb2⟩
    have HQ := Lib.hid (HN.out W2 HRT.out (below_step HB0.out hb2 HB0.out.size))
    clear hb2 hx0 hx1 hx2
    go_wp2
    exact HQ.out
  | true =>
    have HRT := Lib.hid hr
    rw [hr] at HR
    clear hr
    go_wp2_with fail
    refine HR.out.mono ?_
    rintro e W2 ⟨rfl, hb2⟩
    have HB2 := Lib.hid (below_step HB0.out hb2 HB0.out.size)
    have HG2 := Lib.hid (And.intro ((hb2.block _ (by have := HG0.out.2; omega)).trans HG0.out.1) (show w.heap.size + 1 ≤ W2.heap.size by have := hb2.size; have := HG0.out.2; omega))
    have HF := Lib.hid (find_any _ names B W2 (HA.out.below (HB2.out.mono hBw)) (Nat.le_trans hBw HB2.out.size) hs hn)
    clear hb2 hx0 hx1 hx2 HR
    go_wp2_with fail
    refine HF.out.mono ?_
    rintro e W3 ⟨hb3, fb, mb, n, rfl, hF, hnn⟩
    have HB3 := Lib.hid (below_step HB2.out hb3 HB2.out.size)
    have HG3 := Lib.hid ((hb3.block _ (by have := HG2.out.2; omega)).trans HG2.out.1)
    have HFD := Lib.hid hF
    have hfl : W2.heap.size ≤ fb := hF.fbl
    have hml : W2.heap.size ≤ mb := hF.mbl
    obtain ⟨hx0, hx1, hx2, _⟩ := nd_box HG3.out
    have hcnt : CntAt W3 mb (headsF names) [] n := ⟨_, n, hF.map, by simp, fun s => by simp, fun s => by simp⟩
    have HT := Lib.hid (tree_any _ nd (Nat.le_refl _) hw [] (headsF names) fb mb n W3 B (Nat.le_trans hBw HB3.out.size) (by have := HB2.out.size; omega) (by have := HB2.out.size; omega) hF.ne hF.box hcnt (by omega) (by simp; omega) _ (HV.out.keep (HB3.out.mono hBw)))
    clear hb3 hF hcnt HF
    go_wp2_with fail
    refine HT.out.mono ?_
    rintro e W4 ⟨⟨ve, rfl⟩, hl4⟩
    rw [List.nil_append] at hl4
    have HB4 := Lib.hid (HB3.out.grown hl4.grown HB3.out.size (fun k e => by cases e; have := HB2.out.size; omega))
    obtain ⟨c4, n4, h41, h42, h43, h44⟩ := hl4.cnt
    have HTD := Lib.hid (told_any _ names (gN winB nd) (headsF names) c4 fb mb n4 B W4 (HA.out.below (HB4.out.mono hBw)) (Nat.le_trans hBw HB4.out.size) hs hn hl4.box h41 rfl h43)
    clear hl4 h41 h42 h43 h44 hx0 hx1 hx2 HT
    go_wp2_with fail
    refine HTD.out.mono ?_
    intro e W5 hp
    obtain ⟨v5, rfl⟩ : ∃ v, e = .returned v := by obtain ⟨_, v, e1, _⟩ := hp; exact ⟨v, e1⟩
    have HQ := Lib.hid (HP.out W4 W5 v5 HRT.out HB4.out hp)
    clear hp HTD
    go_wp2
    exact HQ.out
set_option maxRecDepth 100000 in
set_option maxHeartbeats 4000000 in
theorem refTree_c (v a : Value) (nd : Nd) (names : List ByteArray) (B : Nat) (w : World) (hv : NdV w B v nd) (ha : Reads w B a (strs names)) (hBw : B ≤ w.heap.size) (hs : SmallT names) (hn : names.length ≤ 1000000) (hw : weiN nd ≤ 400000) :
    Calls Try.prog 28 #[v, a] w (AllPost w (treeF nd names)) := by
  have hcw := wei_count nd.es
  have hcount : nd.es.count ≤ 1000000 := by unfold weiN at hw; omega
  have HP := Lib.hid (fun (W W2 : World) (v : Value) (hr : nd.right = true) (hb : Below w.heap.size w W) (h : AllPost W (toldF names (gN allF nd)) (.returned v) W2) => show AllPost w (treeF nd names) (.returned v) W2 from by
    obtain ⟨h1, v', e, h2⟩ := h
    cases e
    rw [toldF_mem names (gN_mem all_win · nd)] at h2
    unfold treeF
    rw [if_pos hr]
    exact ⟨below_step hb h1 hb.size, v, rfl, own_base h2 hb.size⟩)
  have HN := Lib.hid (fun (W : World) (hr : nd.right = false) (hb : Below w.heap.size w W) => show AllPost w (treeF nd names) (.returned (.slice none 0 0)) W from by
    unfold treeF
    rw [if_neg (by simp [hr])]
    exact ⟨hb, _, rfl, World.ownsRow_nil _ _ _ _⟩)
  generalize hq : AllPost w (treeF nd names) = post at *
  clear hq hcw
  have HV := Lib.hid hv
  have HA := Lib.hid ha
  obtain ⟨ev, rfl, hes, hd, hk⟩ := hv
  obtain ⟨A, c, rfl, hlc, hcm⟩ := hes.form
  obtain ⟨A2, c2, rfl, _⟩ := ha.shape
  clear ha hes
  go_enter Try.func28, Try.ntmps28
  have hb0 : Below w.heap.size w (w.alloc (ndCells nd.k nd.d (.slice A nd.es.len c))) := (Below.refl _ w).alloc (Nat.le_refl _) _
  have hg0 : (w.alloc (ndCells nd.k nd.d (.slice A nd.es.len c))).heap[w.heap.size]? = some (ndCells nd.k nd.d (.slice A nd.es.len c)) := heap_alloc_new _ _
  have hsz : (w.alloc (ndCells nd.k nd.d (.slice A nd.es.len c))).heap.size = w.heap.size + 1 := by simp
  go_upto_region 1 with (fail)
  change Code.wp _ _ _ _ (w.alloc (ndCells nd.k nd.d (.slice A nd.es.len c)))
  generalize w.alloc (ndCells nd.k nd.d (.slice A nd.es.len c)) = W1 at *
  obtain ⟨hx0, hx1, hx2, _⟩ := nd_box hg0
  have HR := Lib.hid (refRight_any W1 B (Nat.le_trans hBw hb0.size) _ nd (HV.out.keep (hb0.mono hBw)) hcount)
  have HB0 := Lib.hid hb0
  have HG0 := Lib.hid (And.intro hg0 hsz)
  clear hb0 hg0 hsz
  cases hr : nd.right with
  | false =>
    have HRT := Lib.hid hr
    rw [hr] at HR
    clear hr
    go_wp2_with fail
    refine HR.out.mono ?_
    rintro e W2 ⟨rfl, hb2⟩
    have HQ := Lib.hid (HN.out W2 HRT.out (below_step HB0.out hb2 HB0.out.size))
    clear hb2 hx0 hx1 hx2
    go_wp2
    exact HQ.out
  | true =>
    have HRT := Lib.hid hr
    rw [hr] at HR
    clear hr
    go_wp2_with fail
    refine HR.out.mono ?_
    rintro e W2 ⟨rfl, hb2⟩
    have HB2 := Lib.hid (below_step HB0.out hb2 HB0.out.size)
    have HG2 := Lib.hid ((hb2.block _ (by have := HG0.out.2; omega)).trans HG0.out.1)
    clear hx0 hx1 hx2
    obtain ⟨hx0, hx1, hx2, _⟩ := nd_box HG2.out
    have HGA := Lib.hid (gather_any _ nd (Nat.le_refl _) hw W2 B (Nat.le_trans hBw HB2.out.size) _ (HV.out.keep (HB2.out.mono hBw)))
    clear hb2 HR
    go_wp2_with fail
    refine HGA.out.mono ?_
    rintro e W3 ⟨hb3, v3, rfl, ho3⟩
    have HB3 := Lib.hid (below_step HB2.out hb3 HB2.out.size)
    have HS := Lib.hid (refSome_any v3 _ (gN allF nd) names _ W3 (Reads.own ho3) ((HA.out.below (HB3.out.mono hBw)).more (Nat.le_trans hBw HB3.out.size)) (Nat.le_refl _) hs hn)
    clear hb3 ho3 hx0 hx1 hx2 HGA
    go_wp2_with fail
    refine HS.out.mono ?_
    intro e W5 hp
    obtain ⟨v5, rfl⟩ : ∃ v, e = .returned v := by obtain ⟨_, v, e1, _⟩ := hp; exact ⟨v, e1⟩
    have HQ := Lib.hid (HP.out W3 W5 v5 HRT.out HB3.out hp)
    clear hp HS
    go_wp2
    exact HQ.out
def FewT (l : List ByteArray) : Prop := l.length ≤ 30 ∧ ∀ s ∈ l, s.size ≤ 120
theorem FewT.small {l : List ByteArray} (h : FewT l) : SmallT l := fun s hs => by have := h.2 s hs; unfold maxLen; omega
set_option maxRecDepth 100000 in
set_option maxHeartbeats 4000000 in
theorem few_any (a : Value) (names : List ByteArray) (B : Nat) (w : World) (ha : Reads w B a (strs names)) (hBw : B ≤ w.heap.size) (hf : FewT names) : Calls Try.prog 25 #[a] w fun e W => e = .returned (.bool true) ∧ Below w.heap.size w W := by
  obtain ⟨A, ca, rfl, hla, hma, hza, hra⟩ := ha
  simp only [strs_len] at *
  have HRA := Lib.hid hra
  have HF := Lib.hid hf
  have hn := hf.1
  clear hra hf
  have h30 : ¬ (30 : Int) < (names.length : Int) := by omega
  go_enter Try.func25, Try.ntmps25
  go_wp2
  go_loopw [3] (fun i wr => ∃ k : Nat, k ≤ names.length ∧ i = .int .i64 k ∧ Hid (Below w.heap.size w wr)) (fun i _ => names.length - (intOf i).toNat)
  case atStart => exact ⟨0, by omega, rfl, Lib.hid (Below.refl _ _)⟩
  case round =>
    obtain ⟨k, hk, rfl, HB⟩ := hrel
    have hw1 : IntKind.i64.wrap ((k : Int) + 1) = (k : Int) + 1 := IntWalk.i64_in _ (by omega)
    by_cases hlt : k < names.length
    · obtain ⟨ad, rfl, hbl, hc⟩ := HRA.out (by omega)
      have hi1 : (k : Int) < (names.length : Int) := by omega
      have hi0' : (0 : Int) ≤ (k : Int) := by omega
      have hcx := (HB.out.cell (by rw [add_block]; omega)).trans (hc k _ (strs_get names k hlt))
      have hsz := HF.out.2 _ (getT_mem hlt)
      generalize names.getD k ⟨#[]⟩ = x at *
      have h120 : ¬ (120 : Int) < (x.size : Int) := by omega
      clear hc
      go_wp2
      go_roundw
      case rel => exact ⟨k + 1, by omega, by go_num, HB⟩
      case measure => simp [intOf]; omega
    · have hi1 : ¬ (k : Int) < (names.length : Int) := by omega
      go_wp2
      go_ret
      exact ⟨rfl, HB.out⟩
end Go.Proofs.Ytadlimfpcfdgcaa
