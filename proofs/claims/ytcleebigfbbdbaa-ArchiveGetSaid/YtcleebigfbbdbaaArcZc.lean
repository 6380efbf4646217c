/- archive: ArchiveGet, walked. -/
import Derived.Test.YtcleebigfbbdbaaArcZb
set_option linter.unusedVariables false
set_option linter.unusedSimpArgs false
namespace Go.Proofs.Ytcleebigfbbdbaa
open Go Go.RowKit Go.BigFrame
open Fil (Es Nd Sp)
open Arc (BL num4 num2 encT letK encE encN sizE sizN rfN rdN rfE rdE rdT rd2 beN)
attribute [local go_sem] Oper.semAt_some

/-- A block of bytes. -/
def OwnB (W : World) (g n : Nat) : Prop := ∃ cs m, W.heap[g]? = some (.cells cs 5 (m, m + 1)) ∧ n ≤ m ∧ ∀ j < n, ∃ b : Nat, b < 256 ∧ cs[j]? = some (.int .u8 (b : Int))
theorem OwnB.at {W : World} {g n : Nat} (h : OwnB W g n) {j : Nat} (hj : j < n) : ∃ b : Nat, b < 256 ∧ W.cell? ⟨g, j, none⟩ = some (.int .u8 (b : Int)) ∧ W.frozen? ⟨g, j, none⟩ = false := by
  obtain ⟨cs, m, h1, h2, h3⟩ := h
  obtain ⟨b, h4, h5⟩ := h3 j hj
  refine ⟨b, h4, (Joins.cell_of_block h1 j).trans h5, ?_⟩
  simp [World.frozen?, h1]
  omega
theorem own_conv (W : World) (l : BL) (hn : l.length ≤ maxLen) : ∃ cap w2, (convert 9 27 (.string (strOf l))).run Try.prog W = .ok (.slice (some ⟨W.heap.size, 0, none⟩) l.length cap) w2 ∧ l.length ≤ cap ∧ cap ≤ maxLen ∧ Below W.heap.size W w2 ∧ OwnB w2 W.heap.size l.length ∧ BytAt w2 w2.heap.size (.slice (some ⟨W.heap.size, 0, none⟩) l.length cap) l ∧ W.heap.size < w2.heap.size := by
  have h := run_bytes_of_string (P := Try.prog) W 9 27 5 (strOf l) Try.underlying9 Try.underlying27 Try.underlying5
  have hz : (strOf l).size = l.length := strOf_size l
  rw [hz] at h
  have hcells : ∀ j (hj : j < l.length), (bytesRow (strOf l) (grownCap W l.length 0 5))[j]? = some (.int .u8 ((l[j].toNat : Nat) : Int)) := fun j hj => by
    unfold bytesRow
    have h1 : (strOf l).data = l.toArray := rfl
    rw [h1, Array.getElem?_append_left (by simp; exact hj)]
    simp [hj]
  have hsz : l.length ≤ (bytesRow (strOf l) (grownCap W l.length 0 5)).size := by
    unfold bytesRow
    have h1 : (strOf l).data = l.toArray := rfl
    rw [h1]
    simp
  generalize hC : bytesRow (strOf l) (grownCap W l.length 0 5) = C at *
  have hnew := heap_alloc_new W.drew (.cells C 5 (C.size, C.size + 1))
  refine ⟨_, _, h, grownCap_ge W l.length 0 _, grownCap_le_maxLen W l.length 0 _ hn, ((Below.refl _ _).drew).alloc (Nat.le_refl _) _, ⟨C, C.size, hnew, hsz, fun j hj => ⟨_, (l[j]).toNat_lt, hcells j hj⟩⟩, ⟨_, _, rfl, grownCap_ge W l.length 0 _, grownCap_le_maxLen W l.length 0 _ hn, (fun e => by cases e), fun _ => ⟨_, rfl, by simp, fun j hj => ?_⟩⟩, by simp⟩
  rw [add_none, Nat.zero_add]
  refine (Joins.cell_of_block hnew j).trans ?_
  rw [hcells j hj]
  simp [dOf, hj]
theorem getR_count (l : BL) : (getR l).2.es.count ≤ 4096 := by
  unfold getR
  split
  · exact Nat.zero_le _
  · split
    · unfold getB
      split
      · rename_i y _
        split
        · rename_i hr
          exact right_count hr
        · exact Nat.zero_le _
      · exact Nat.zero_le _
    · exact Nat.zero_le _
theorem OwnB.put {W : World} {g n i : Nat} (h : OwnB W g n) {b : Nat} (hb : b < 256) : OwnB (W.setCell ⟨g, i, none⟩ (.int .u8 (b : Int))) g n := by
  obtain ⟨cs, m, h1, h0, h2⟩ := h
  refine ⟨_, m, Joins.block_setCell h1 _, h0, fun j hj => ?_⟩
  obtain ⟨b', h3, h4⟩ := h2 j hj
  by_cases e : i = j
  · subst e
    refine ⟨b, hb, ?_⟩
    rw [Array.getElem?_setIfInBounds_self_of_lt (Array.getElem?_eq_some_iff.1 h4).1]
  · exact ⟨b', h3, by rw [Array.getElem?_setIfInBounds_ne e]; exact h4⟩
set_option maxRecDepth 1000000 in
set_option maxRecDepth 100000 in
set_option maxHeartbeats 8000000 in
theorem archiveGet_walk (vb : Value) (l : BL) (w : World) (hvb : BytAt w w.heap.size vb l) : Calls Try.prog 4 #[vb] w fun e w' => e = .returned (.bool true) ∧ Below w.heap.size w w' := by
  have HVB := Lib.hid hvb
  obtain ⟨Ab, cb, rfl, hcb⟩ := hvb.form
  clear hvb
  go_enter Try.func4, Try.ntmps4
  rcases Nat.lt_or_ge 3000 l.length with hl | hl
  · have hlI : decide ((3000 : Int) < (l.length : Int)) = true := decide_eq_true (by omega)
    clear hl
    go_wp2_with fail
    refine (aworks_any w).mono ?_
    rintro e W2 ⟨rfl, hb2⟩
    have HB2 := Lib.hid hb2
    clear hb2
    go_wp2_with fail
    go_ret
    exact ⟨rfl, HB2.out⟩
  have hlI : decide ((3000 : Int) < (l.length : Int)) = false := decide_eq_false (by omega)
  have hc1 := HVB.out.conv
  obtain ⟨cap, W1, hc2, hcap, hcm, hb1, how, hby, hgz⟩ := own_conv w l (by unfold maxLen; omega)
  obtain ⟨g, hg⟩ : ∃ g, g = w.heap.size := ⟨_, rfl⟩
  rw [← hg] at hc2 how hby hgz
  have HL := Lib.hid hl
  have H1 := Lib.hid (And.intro hb1 (And.intro how (And.intro hby hgz)))
  have HG := Lib.hid hg
  have HX := Lib.hid (get_ex l W1 _ hby)
  clear hb1 how hby hgz hg
  go_wp2_with fail
  refine HX.out.mono ?_
  rintro e W2 ⟨hb2, Ax, cx, rfl, hvx⟩
  have HCN := Lib.hid (getR_count l)
  have HB2 := Lib.hid hb2
  have HVX := Lib.hid hvx
  have HRG := Lib.hid (refGet_any l)
  clear hb2 hvx HX
  generalize getR l = gr at *
  obtain ⟨ex, x⟩ := gr
  try dsimp only at HCN
  try dsimp only at HB2
  try dsimp only at HVX
  try dsimp only
  obtain ⟨W3, e3⟩ : ∃ W3, W3 = W2.alloc (.cells #[.int .u8 (x.k : Int), .string x.d, .slice Ax x.es.len cx] 24) := ⟨_, rfl⟩
  have hb3 : Below W2.heap.size W2 W3 := by rw [e3]; exact (Below.refl _ _).alloc (Nat.le_refl _) _
  have HZ3 := Lib.hid (show W3.heap.size = W2.heap.size + 1 ∧ W1.heap.size ≤ W2.heap.size from ⟨by rw [e3]; simp, HB2.out.size⟩)
  have HB3 := Lib.hid (H1.out.1.trans ((HB2.out.trans (hb3.mono HB2.out.size)).mono (Nat.le_of_lt (by rw [← HG.out]; exact H1.out.2.2.2))))
  have HB13 := Lib.hid (HB2.out.trans (hb3.mono HB2.out.size))
  have HN3 := Lib.hid (show W3.heap[W2.heap.size]? = some (ndCells x.k x.d (.slice Ax x.es.len cx)) by rw [e3]; exact heap_alloc_new _ _)
  have HY := Lib.hid (HRG.out W3 w.heap.size HB3.out.size _ (HVB.out.keep HB3.out))
  clear hb3 hc1 hc2 HRG
  go_wp2_with fail
  rw [← e3]
  refine HY.out.mono ?_
  rintro e W4 ⟨hb4, vy, rfl, evy, rfl, hesy, hdy, hky⟩
  try dsimp only at hesy
  try dsimp only at hdy
  try dsimp only at hky
  obtain ⟨Ay, cy, rfl, hcpy⟩ := hesy.form
  try dsimp only
  have HGE := Lib.hid (show ∀ a : Value, True from fun _ => trivial)
  obtain ⟨W5, e5⟩ : ∃ W5, W5 = W4.alloc (.cells #[.int .u8 (x.k : Int), .string x.d, .slice Ay x.es.len cy] 24) := ⟨_, rfl⟩
  have hb5 : Below W4.heap.size W4 W5 := by rw [e5]; exact (Below.refl _ _).alloc (Nat.le_refl _) _
  have hz5 : W5.heap.size = W4.heap.size + 1 := by rw [e5]; simp
  have hn5 : W5.heap[W4.heap.size]? = some (ndCells x.k x.d (.slice Ay x.es.len cy)) := by rw [e5]; exact heap_alloc_new _ _
  have hb15 : Below W1.heap.size W1 W5 := HB13.out.trans ((hb4.trans (hb5.mono hb4.size)).mono (by have := HZ3.out; omega))
  have HZ5 := Lib.hid (And.intro hz5 hb4.size)
  have HX5 := Lib.hid (show NdS W5 (Nw W1 W2) (.agg #[.int .u8 (x.k : Int), .string x.d, .slice Ax x.es.len cx]) x from NdS.keep (fun b hb => ⟨hb, by
    have h2 := hb.2
    have h3 := HZ3.out
    have h4 := hb4.size
    have e1 : W3.heap[b]? = W2.heap[b]? := by rw [e3]; exact old_block _ _ _ h2
    exact (hb5.block b (by omega)).trans ((hb4.block b (by omega)).trans e1)⟩) HVX.out)
  have HY5 := Lib.hid (show NdS W5 (Nw W3 W4) (.agg #[.int .u8 (x.k : Int), .string x.d, .slice Ay x.es.len cy]) x from NdS.keep (fun b hb => ⟨hb, hb5.block b hb.2⟩) ⟨_, rfl, hesy, hdy, hky⟩)
  have HX4 := Lib.hid (show W5.heap[W2.heap.size]? = some (ndCells x.k x.d (.slice Ax x.es.len cx)) from (hb5.block _ (by have := HZ3.out; have := hb4.size; omega)).trans ((hb4.block _ (by have := HZ3.out; omega)).trans HN3.out))
  have HN5 := Lib.hid hn5
  have HB5 := Lib.hid (show Below w.heap.size w W5 ∧ OwnB W5 g l.length ∧ BytAt W5 W5.heap.size (.slice (some ⟨g, 0, none⟩) l.length cap) l ∧ BytAt W5 w.heap.size (.slice Ab l.length cb) l ∧ W1.heap.size ≤ W5.heap.size ∧ g < W1.heap.size from by
    obtain ⟨h1, ⟨cs, m, h2, h3⟩, h4, h5⟩ := H1.out
    have hb := h1.trans (hb15.mono (by have := HG.out; omega))
    exact ⟨hb, ⟨cs, m, (hb15.block _ h5).trans h2, h3⟩, (h4.keep hb15).more hb15.size, HVB.out.keep hb, hb15.size, h5⟩)
  clear hb4 hesy hdy hky hb5 hz5 hn5 hb15 hcpy
  have HSM := Lib.hid (refSame_any _ x x (Nat.le_refl _) (by have := HCN.out; omega) W5 W4.heap.size (by have := HZ5.out; omega) _ _ (HX5.out.at (fun b hb => by have := hb.2; have := HZ3.out; have := HZ5.out; omega)) (HY5.out.at (fun b hb => hb.2)))
  rw [sameN_refl] at HSM
  obtain ⟨hm0, hm1, hm2, _⟩ := nd_box HN5.out
  obtain ⟨hn0, hn1, hn2, _⟩ := nd_box HX4.out
  rw [e5] at hm0 hm1 hm2 hn0 hn1 hn2
  have hee : ((ex : Int) != (ex : Int)) = false := by simp
  go_wp2_with fail
  rw [← e5]
  clear e5 e3 hm0 hm1 hm2 hn0 hn1 hn2
  refine HSM.out.mono ?_
  rintro e W6 ⟨rfl, hb6⟩
  have hbw6 : Below w.heap.size W5 W6 := hb6.mono HB5.out.1.size
  have hco := ((HB5.out.2.2.1.keep hb6).more hb6.size).conv
  have hcb2 := (HB5.out.2.2.2.1.keep hbw6).conv
  have HB6 := Lib.hid (show Below w.heap.size w W6 ∧ OwnB W6 g l.length from by
    obtain ⟨cs, m, h2, h3⟩ := HB5.out.2.1
    exact ⟨HB5.out.1.trans hbw6, cs, m, (hb6.block _ (block_lt h2)).trans h2, h3⟩)
  have HS6 := Lib.hid hb6
  clear hb6 hbw6 HSM
  generalize strOf l = tl at *
  have htt : (tl.toList != tl.toList) = false := by simp
  have htt2 : (tl.toList == tl.toList) = true := by simp
  go_wp2
  clear hco hcb2
  go_loopg [8] l.length (fun k u8 wx => ∃ i : Nat, u8 = .int .i64 (i : Int) ∧ i + k = l.length ∧ Hid (Ch W6 wx (One g) ∧ OwnB wx g l.length))
  case atStart => exact ⟨0, rfl, by omega, Ch.refl _ _, HB6.out.2⟩
  case round =>
    obtain ⟨i, rfl, hik, HI⟩ := hrel
    cases gk with
    | zero =>
      obtain rfl : i = l.length := by omega
      have hg1 := HB5.out.2.2.2.2.2
      have hz3 := HZ3.out
      have hz5 := HZ5.out
      have hs6 := HS6.out.size
      have hkb : ∀ b, W1.heap.size ≤ b → b < W5.heap.size → wr.heap[b]? = W5.heap[b]? := fun b h1 h2 => (HI.out.1.block b (by omega) (fun e => by have : b = g := e; omega)).trans (HS6.out.block b h2)
      have hxw : NdS wr (Nw W1 W2) (.agg #[.int .u8 (x.k : Int), .string x.d, .slice Ax x.es.len cx]) x := NdS.keep (fun b hb => ⟨hb, hkb b hb.1 (by have := hb.2; omega)⟩) HX5.out
      have hyw : NdS wr (Nw W3 W4) (.agg #[.int .u8 (x.k : Int), .string x.d, .slice Ay x.es.len cy]) x := NdS.keep (fun b hb => ⟨hb, hkb b (by have := hb.1; omega) (by have := hb.2; omega)⟩) HY5.out
      have hwz := HI.out.1.size
      have HSM := Lib.hid (refSame_any _ x x (Nat.le_refl _) (by have := HCN.out; omega) wr W4.heap.size (by omega) _ _ (hxw.at (fun b hb => by have := hb.2; omega)) (hyw.at (fun b hb => hb.2)))
      rw [sameN_refl] at HSM
      obtain ⟨hm0, hm1, hm2, _⟩ := nd_box ((hkb _ (by omega) (by omega)).trans HN5.out)
      obtain ⟨hn0, hn1, hn2, _⟩ := nd_box ((hkb _ (by omega) (by omega)).trans HX4.out)
      have HBW := Lib.hid (show Below w.heap.size w wr from HB6.out.1.trans (HI.out.1.below HB6.out.1.size (fun k hk => by have : k = g := hk; rw [this, HG.out]; exact Nat.le_refl _)))
      clear hg1 hz3 hz5 hs6 hkb hxw hyw hwz
      go_wp2_with fail
      refine HSM.out.mono ?_
      rintro e W7 ⟨rfl, hb7⟩
      have HB7 := Lib.hid (HBW.out.trans (hb7.mono HBW.out.size))
      clear hb7 hm0 hm1 hm2 hn0 hn1 hn2
      go_wp2_with fail
      refine (aworks_any W7).mono ?_
      rintro e W8 ⟨rfl, hb8⟩
      have HB8 := Lib.hid (HB7.out.trans (hb8.mono HB7.out.size))
      clear hb8
      go_wp2_with fail
      go_ret
      exact ⟨rfl, HB8.out⟩
    | succ q =>
      have hil : i < l.length := by omega
      obtain ⟨b, hb, hcell, hfz⟩ := HI.out.2.at hil
      have hiI : (i : Int) < (l.length : Int) := by omega
      have hi0 : (0 : Int) ≤ (i : Int) := by omega
      have hw1 : IntKind.i64.wrap ((i : Int) + 1) = (i : Int) + 1 := IntWalk.i64_in _ (by omega)
      have hwu : IntKind.u8.wrap ((b : Int) + 1) = (((b + 1) % 256 : Nat) : Int) := by rw [IntKind.wrap_u8]; push_cast; rfl
      have HP := Lib.hid (And.intro (HI.out.1.setCell (p := ⟨g, i, none⟩) rfl (.int .u8 (((b + 1) % 256 : Nat) : Int))) (HI.out.2.put (i := i) (b := (b + 1) % 256) (by omega)))
      generalize (b + 1) % 256 = b1 at *
      go_wp2
      go_roundg q
      case measure => omega
      case rel => exact ⟨i + 1, by simp, by omega, HP.out⟩
end Go.Proofs.Ytcleebigfbbdbaa
