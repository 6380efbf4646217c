/- scan: ScanAll, walked. -/
import Derived.Test.YtadlimfpcfdgcaaScnJ
import Derived.ProofKit
import Derived.OpenShut
set_option linter.unusedVariables false
set_option linter.unusedSimpArgs false
namespace Go.Proofs.Ytadlimfpcfdgcaa
open Go Go.RowKit Go.BigFrame Go.Maps
open Scn (runOf wins winsTo firsts)

theorem add_nonS (g j : Nat) : (⟨g, 0, none⟩ : Addr).add j = ⟨g, j, none⟩ := by unfold Addr.add; split <;> simp_all
/-- A block of bytes. -/
def OwnB (W : World) (g n : Nat) : Prop := ∃ cs m, W.heap[g]? = some (.cells cs 5 (m, m + 1)) ∧ n ≤ m ∧ ∀ j < n, ∃ b : Nat, b < 256 ∧ cs[j]? = some (.int .u8 (b : Int))
theorem OwnB.at {W : World} {g n : Nat} (h : OwnB W g n) {j : Nat} (hj : j < n) : ∃ b : Nat, b < 256 ∧ W.cell? ⟨g, j, none⟩ = some (.int .u8 (b : Int)) ∧ W.frozen? ⟨g, j, none⟩ = false := by
  obtain ⟨cs, m, h1, h2, h3⟩ := h
  obtain ⟨b, h4, h5⟩ := h3 j hj
  refine ⟨b, h4, (Joins.cell_of_block h1 j).trans h5, ?_⟩
  simp [World.frozen?, h1]
  omega
theorem own_conv (W : World) (l : List UInt8) (hn : l.length ≤ maxLen) : ∃ cap w2, (convert 9 22 (.string (strOf l))).run Try.prog W = .ok (.slice (some ⟨W.heap.size, 0, none⟩) l.length cap) w2 ∧ l.length ≤ cap ∧ cap ≤ maxLen ∧ Below W.heap.size W w2 ∧ OwnB w2 W.heap.size l.length ∧ BytAt w2 w2.heap.size (.slice (some ⟨W.heap.size, 0, none⟩) l.length cap) l ∧ W.heap.size < w2.heap.size := by
  have h := run_bytes_of_string (P := Try.prog) W 9 22 5 (strOf l) Try.underlying9 Try.underlying22 Try.underlying5
  have hz : (strOf l).size = l.length := strOf_size l
  rw [hz] at h
  have hcells : ∀ j (hj : j < l.length), (bytesRow (strOf l) (grownCap W l.length 0 5))[j]? = some (.int .u8 ((l[j].toNat : Nat) : Int)) := fun j hj => by
    unfold bytesRow
    have h1 : (strOf l).data = l.toArray := rfl
    rw [h1, Array.getElem?_append_left (by simp; exact hj)]
    simp [hj]
  have hsz : l.length ≤ (bytesRow (strOf l) (grownCap W l.length 0 5)).size := by
    unfold bytesRow
    have h1 : (strOf l).data = l.toArray := rfl
    rw [h1]
    simp
  generalize hC : bytesRow (strOf l) (grownCap W l.length 0 5) = C at *
  have hnew := heap_alloc_new W.drew (.cells C 5 (C.size, C.size + 1))
  refine ⟨_, _, h, grownCap_ge W l.length 0 _, grownCap_le_maxLen W l.length 0 _ hn, ((Below.refl _ _).drew).alloc (Nat.le_refl _) _, ⟨C, C.size, hnew, hsz, fun j hj => ⟨_, (l[j]).toNat_lt, hcells j hj⟩⟩, ⟨_, _, rfl, grownCap_ge W l.length 0 _, grownCap_le_maxLen W l.length 0 _ hn, (fun e => by cases e), fun _ => ⟨_, rfl, by simp, fun j hj => ?_⟩⟩, by simp⟩
  rw [add_nonS]
  refine (Joins.cell_of_block hnew j).trans ?_
  rw [hcells j hj]
  simp [dOf, hj]
theorem OwnB.put {W : World} {g n i : Nat} (h : OwnB W g n) {b : Nat} (hb : b < 256) : OwnB (W.setCell ⟨g, i, none⟩ (.int .u8 (b : Int))) g n := by
  obtain ⟨cs, m, h1, h0, h2⟩ := h
  refine ⟨_, m, Joins.block_setCell h1 _, h0, fun j hj => ?_⟩
  obtain ⟨b', h3, h4⟩ := h2 j hj
  by_cases e : i = j
  · subst e
    refine ⟨b, hb, ?_⟩
    rw [Array.getElem?_setIfInBounds_self_of_lt (Array.getElem?_eq_some_iff.1 h4).1]
  · exact ⟨b', h3, by rw [Array.getElem?_setIfInBounds_ne e]; exact h4⟩

theorem OwnB.block {W W' : World} {g n : Nat} (h : OwnB W g n) (hb : W'.heap[g]? = W.heap[g]?) : OwnB W' g n := by
  obtain ⟨cs, m, h1, h2⟩ := h
  exact ⟨cs, m, hb.trans h1, h2⟩
theorem grown_cellS (W : World) (g i : Nat) (v : Value) : W.grownBy (W.setCell ⟨g, i, none⟩ v) (some g) :=
  ⟨rfl, rfl, rfl, (KeepsWalks.setCell W _ v).size, fun k _ hk => Below.heap_setCell _ _ _ k (fun e => hk (by rw [e]))⟩
theorem OwnB.lt {W : World} {g n : Nat} (h : OwnB W g n) : g < W.heap.size := by
  obtain ⟨cs, m, h1, h2⟩ := h
  exact block_lt h1
set_option maxRecDepth 100000 in
set_option maxHeartbeats 8000000 in
theorem scanAll_walk (vb : Value) (l : List UInt8) (w : World) (hvb : BytAt w w.heap.size vb l) : Calls Try.prog 3 #[vb] w fun e w' => e = .returned (.bool true) ∧ Below w.heap.size w w' := by
  have HVB := Lib.hid hvb
  obtain ⟨Ab, cb, rfl, hcb⟩ := hvb.form
  clear hvb
  go_enter Try.func3, Try.ntmps3
  rcases Nat.lt_or_ge 600 l.length with hl | hl
  · have hlI : decide ((600 : Int) < (l.length : Int)) = true := decide_eq_true (by omega)
    clear hl
    go_wp2_with fail
    refine (works_any w).mono ?_
    rintro e W2 ⟨rfl, hb2⟩
    have HB2 := Lib.hid hb2
    clear hb2
    go_wp2_with fail
    go_ret
    exact ⟨rfl, HB2.out⟩
  have hlI : decide ((600 : Int) < (l.length : Int)) = false := decide_eq_false (by omega)
  have hc1 := HVB.out.conv
  obtain ⟨cap, W1, hc2, hcap, hcm, hb1, how, hby, hgz⟩ := own_conv w l (by unfold maxLen; omega)
  obtain ⟨g, hg⟩ : ∃ g, g = w.heap.size := ⟨_, rfl⟩
  rw [← hg] at hc2 how hby hgz
  have HL := Lib.hid hl
  have H1 := Lib.hid (And.intro hb1 (And.intro how (And.intro hby hgz)))
  have HG := Lib.hid hg
  have HX := Lib.hid (all_any _ l _ W1 hby (Nat.le_refl _) (by omega))
  clear hb1 how hby hgz hg
  go_wp2_with fail
  refine HX.out.mono ?_
  rintro e W2 ⟨hb2, v2, rfl, ho2⟩
  have HZ2 := Lib.hid (show w.heap.size ≤ W2.heap.size from Nat.le_trans H1.out.1.size hb2.size)
  have HB2 := Lib.hid (below_step H1.out.1 hb2 H1.out.1.size)
  have HZ12 := Lib.hid hb2.size
  have HO2 := Lib.hid (And.intro ho2 (And.intro (H1.out.2.1.block (hb2.block g H1.out.2.2.2)) (H1.out.2.2.1.keep hb2)))
  have HR := Lib.hid (refAll_any _ l _ W2 (HVB.out.keep HB2.out) HZ2.out (by omega))
  clear hb2 ho2 HX
  go_wp2_with fail
  refine HR.out.mono ?_
  rintro e W3 ⟨hb3, v3, rfl, ho3⟩
  have HO3 := Lib.hid (And.intro (own_below HO2.out.1 hb3 (Nat.le_refl _)) (And.intro (own_base ho3 HZ12.out) (And.intro (HO2.out.2.1.block (hb3.block g HO2.out.2.1.lt)) (HO2.out.2.2.keep (hb3.mono HZ12.out)))))
  have HB3 := Lib.hid (below_step HB2.out hb3 HZ2.out)
  have HZ3 := Lib.hid (show W1.heap.size ≤ W3.heap.size from Nat.le_trans HZ12.out hb3.size)
  have HS := Lib.hid (sameTexts_any v2 v3 _ _ _ W3 (Reads.own HO3.out.1) (Reads.own HO3.out.2.1))
  rw [decide_eq_true rfl] at HS
  clear hb3 ho3 HR
  go_wp2_with fail
  refine HS.out.mono ?_
  rintro e W4 ⟨rfl, nq, hw4⟩
  have hb4 : Below W3.heap.size W3 W4 := by rw [hw4]; exact below_drewN (Below.refl _ _) _
  clear hw4
  have HO4 := Lib.hid (And.intro (own_below HO3.out.1 hb4 (Nat.le_refl _)) (And.intro (own_below HO3.out.2.1 hb4 (Nat.le_refl _)) (HO3.out.2.2.1.block (hb4.block g HO3.out.2.2.1.lt))))
  have HB4 := Lib.hid (below_step HB3.out hb4 HB3.out.size)
  have hc4 := (HO3.out.2.2.2.keep (hb4.mono HZ3.out)).conv
  have hc5 := (HVB.out.keep HB4.out).conv
  clear hb4 HS hc1 hc2
  generalize strOf l = tl at *
  have htt : (tl.toList != tl.toList) = false := by simp
  have htt2 : (tl.toList == tl.toList) = true := by simp
  go_wp2
  clear hc4 hc5
  go_loopg [6] l.length (fun k u6 wx => ∃ i : Nat, u6 = .int .i64 (i : Int) ∧ i + k = l.length ∧ Hid (W4.grownBy wx (some g) ∧ OwnB wx g l.length))
  case atStart => exact ⟨0, rfl, by omega, Lib.hid ⟨World.grownBy.refl _ _, HO4.out.2.2⟩⟩
  case round =>
    obtain ⟨i, rfl, hik, HI⟩ := hrel
    cases gk with
    | zero =>
      obtain rfl : i = l.length := by omega
      have hgl := H1.out.2.2.2
      have HSM := Lib.hid (sameTexts_any v2 v3 _ _ _ wr (Reads.own (own_kept HO4.out.1 HI.out.1 (fun r e => by cases e; exact hgl))) (Reads.own (own_kept HO4.out.2.1 HI.out.1 (fun r e => by cases e; exact hgl))))
      rw [decide_eq_true rfl] at HSM
      have HBW := Lib.hid (show Below w.heap.size w wr from HB4.out.grown HI.out.1 HB4.out.size (fun k e => by cases e; rw [HG.out]; exact Nat.le_refl _))
      clear hgl
      go_wp2_with fail
      refine HSM.out.mono ?_
      rintro e W7 ⟨rfl, nq7, hw7⟩
      have HB7 := Lib.hid (show Below w.heap.size w W7 from by rw [hw7]; exact below_drewN HBW.out _)
      clear hw7
      go_wp2_with fail
      refine (works_any W7).mono ?_
      rintro e W8 ⟨rfl, hb8⟩
      have HB8 := Lib.hid (below_step HB7.out hb8 HB7.out.size)
      clear hb8
      go_wp2_with fail
      go_ret
      exact ⟨rfl, HB8.out⟩
    | succ q =>
      have hil : i < l.length := by omega
      obtain ⟨b, hb, hcell, hfz⟩ := HI.out.2.at hil
      have hiI : (i : Int) < (l.length : Int) := by omega
      have hi0 : (0 : Int) ≤ (i : Int) := by omega
      have hw1 : IntKind.i64.wrap ((i : Int) + 1) = (i : Int) + 1 := IntWalk.i64_in _ (by have := HL.out; omega)
      have HP := Lib.hid (show W4.grownBy (wr.setCell ⟨g, i, none⟩ (.int .u8 63)) (some g) ∧ OwnB (wr.setCell ⟨g, i, none⟩ (.int .u8 63)) g l.length from
        ⟨grown_trans HI.out.1 (grown_cellS wr g i _) (fun r e => .inl (by cases e; rfl)), HI.out.2.put (i := i) (b := 63) (by omega)⟩)
      go_wp2
      go_roundg q
      case measure => omega
      case rel => exact ⟨i + 1, by simp, by omega, HP⟩
theorem open_bytA {H : Type} {enc : TypeId × Value → H} {w : World} {base : Nat} {sp : Nat → Bool} {held : Bool} {r : Reach} {b0 : Nat} {v : Value} {x : DataW H} {ps : List MemPlace} (lt : ∀ x ∈ ps, x.block < w.heap.size)
    (hval : Value.okWide Try.prog w r b0 22 v) (hd : DataW.Trod enc Try.prog w base sp held 22 v x ps) :
    ∃ (a : Value) (l : List UInt8), BytAt w w.heap.size a l ∧ a = v := by
  obtain ⟨d, n, cap, A, h1, h2, h3, h4, h5, rfl⟩ := open_byteslice Try.underlying22 Try.underlying5 (by kernel_rfl) lt hval hd
  refine ⟨_, txt d n, ⟨A, cap, by rw [txt_len], by rw [txt_len]; exact h2, h3, h5, fun hp => ?_⟩, rfl⟩
  rw [txt_len] at hp
  obtain ⟨ad, e, hb, hc⟩ := h4 hp
  refine ⟨ad, e, hb, fun i hi => ?_⟩
  rw [txt_len] at hi
  rw [hc i hi]
  simp [dOf, txt, hi]
  have := h1 i
  omega
end Go.Proofs.Ytadlimfpcfdgcaa
