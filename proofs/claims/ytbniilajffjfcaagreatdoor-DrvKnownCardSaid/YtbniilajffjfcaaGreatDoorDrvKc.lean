/- drv's laws: the walk of DrvGet. -/
import Derived.Test.YtbniilajffjfcaaGreatDoorDrvKb
set_option linter.unusedVariables false
set_option linter.unusedSimpArgs false
namespace Go.Proofs.YtbniilajffjfcaaGreatDoor
open Go.RowKit Go.BigFrame Go.Maps

/-- A row of bytes made of a text: with a mark behind the last cell. -/
structure MByt (w : World) (g n : Nat) (cs : Array Value) : Prop where
  blk : w.heap[g]? = some (.cells cs 5 (cs.size, cs.size + 1))
  len : n ≤ cs.size
  u8 : ∀ j, j < n → ∃ x : Int, cs[j]? = some (.int .u8 x) ∧ 0 ≤ x ∧ x ≤ 255
theorem MByt.cell {w : World} {g n : Nat} {cs : Array Value} (h : MByt w g n cs) (j : Nat) : w.cell? ⟨g, j, none⟩ = cs[j]? := cell_of_row _ _ _ _ _ _ h.blk
theorem MByt.free {w : World} {g n : Nat} {cs : Array Value} (h : MByt w g n cs) {j : Nat} (hj : j < n) : w.frozen? ⟨g, j, none⟩ = false := by
  have := h.len
  unfold World.frozen?
  rw [h.blk]
  simp
  omega
theorem MByt.set {w : World} {g n : Nat} {cs : Array Value} (h : MByt w g n cs) {j : Nat} (hj : j < n) (x : Int) (h0 : 0 ≤ x) (h1 : x ≤ 255) : MByt (w.setCell ⟨g, j, none⟩ (.int .u8 x)) g n (cs.setIfInBounds j (.int .u8 x)) := by
  have hl := h.len
  refine ⟨?_, by rw [Array.size_setIfInBounds]; exact hl, fun k hk => ?_⟩
  · unfold World.setCell
    rw [Array.getElem?_modify, if_pos rfl, h.blk]
    simp [Array.size_setIfInBounds]
  · rw [Array.getElem?_setIfInBounds]
    by_cases e : j = k
    · rw [if_pos e, if_pos (by omega)]; exact ⟨x, rfl, h0, h1⟩
    · rw [if_neg e]; exact h.u8 k hk
theorem MByt.below {w w' : World} {g n : Nat} {cs : Array Value} (h : MByt w g n cs) (hb : Below w.heap.size w w') : MByt w' g n cs := ⟨(hb.block g (block_lt h.blk)).trans h.blk, h.len, h.u8⟩
theorem own_made (w : World) (l : List UInt8) (hl : l.length ≤ maxLen) :
    ∃ cap w2 cs, (convert 9 26 (.string (strOf l))).run Tryz.prog w = .ok (.slice (some ⟨w.heap.size, 0, none⟩) l.length cap) w2 ∧ l.length ≤ cap ∧ cap ≤ maxLen ∧ Byt w2 (.slice (some ⟨w.heap.size, 0, none⟩) l.length cap) l ∧ Below w.heap.size w w2 ∧ MByt w2 w.heap.size l.length cs := by
  have h := run_bytes_of_string (P := Tryz.prog) w 9 26 5 (strOf l) Tryz.underlying9 Tryz.underlying26 Tryz.underlying5
  have hz : (strOf l).size = l.length := strOf_size l
  obtain ⟨cap, w2, h1, h2, h3, h4, h5, h6⟩ := bytes_of_txt (P := Tryz.prog) w 5 9 26 (dOf l) l.length (dOf_lt l) hl Tryz.underlying9 Tryz.underlying26 Tryz.underlying5
  rw [dOf_txt] at h3
  have h7 := h.symm.trans h3
  rw [hz] at h7
  injection h7 with e1 e2
  refine ⟨cap, w2, bytesRow (strOf l) (grownCap w l.length 0 5), h3, h1, h2, ⟨_, cap, rfl, h1, h2, h5, fun h => by cases h⟩, h4, ⟨?_, ?_, ?_⟩⟩
  · rw [← e2]; exact heap_alloc_new w.drew _
  · unfold bytesRow
    rw [Array.size_append, Array.size_map]
    have : (strOf l).data.size = l.length := hz
    omega
  · intro j hj
    have hj2 : j < (strOf l).data.size := by rw [show (strOf l).data.size = l.length from hz]; exact hj
    refine ⟨((strOf l).data[j].toNat : Int), ?_, by omega, ?_⟩
    · unfold bytesRow
      rw [Array.getElem?_append_left (by rw [Array.size_map]; exact hj2), Array.getElem?_map, Array.getElem?_eq_getElem hj2]
      rfl
    · have := (strOf l).data[j].toNat_lt
      omega

def gotQ (l : List UInt8) : ByteArray × List ByteArray × ByteArray × Int := match getS l with | some (n, i, r) => (n, i, r, 0) | none => (⟨#[]⟩, [], ⟨#[]⟩, 150)
def GotIs (nm : ByteArray) (ins : List ByteArray) (rc : ByteArray) (c : Int) (w : World) (e : Ending) (w' : World) : Prop :=
  ∃ A cap, e = .returned (.tuple #[.agg #[.string nm, .slice A ins.length cap, .string rc], .int .i64 c]) ∧ TRow w' (fun b => w.heap.size ≤ b) (.slice A ins.length cap) ins ∧ Below w.heap.size w w'
theorem GetP.is {l : List UInt8} {w : World} {e : Ending} {w' : World} (h : GetP l w e w') : GotIs (gotQ l).1 (gotQ l).2.1 (gotQ l).2.2.1 (gotQ l).2.2.2 w e w' := by
  obtain ⟨hb, h⟩ := h
  unfold gotQ
  cases hg : getS l with
  | none =>
    rw [hg] at h
    exact ⟨none, 0, h, RdS.nil _ _, hb⟩
  | some q =>
    obtain ⟨nm, ins, rc⟩ := q
    rw [hg] at h
    obtain ⟨v, rfl, ho⟩ := h
    obtain ⟨A, cap, rfl⟩ := own_form ho
    exact ⟨A, cap, rfl, RdS.own ho, hb⟩
set_option maxRecDepth 100000 in
set_option maxHeartbeats 8000000 in
theorem drvGet_at (u : Value) (l : List UInt8) (w : World) (ht : Sha.Tabs w) (hy : Byt w u l) :
    Calls Tryz.prog 8 #[u] w fun e w' => e = .returned (.bool true) ∧ Below w.heap.size w w' := by
  have HT := Lib.hid (fun (w1 : World) (h : Below w.heap.size w w1) => works_any w1 (ht.below h))
  have HY := Lib.hid (fun (w1 : World) (h : Below w.heap.size w w1) => show Byt w1 u l from hy.below h)
  have hcv := hy.conv
  have hy' := hy
  obtain ⟨B, cb, rfl, hlb, hmb, _, _⟩ := hy'
  unfold maxLen at hmb
  clear hy ht
  go_enter Tryz.func8, Tryz.ntmps8
  by_cases hlen : l.length ≤ 3000
  case neg =>
    have hli : (3000 : Int) < (l.length : Int) := by omega
    go_wp2_with fail
    refine (HT.out w (Below.refl _ _)).mono ?_
    rintro e w3 ⟨rfl, hb3⟩
    go_wp2
    go_ret
    exact ⟨rfl, hb3⟩
  have hli : ¬ (3000 : Int) < (l.length : Int) := by omega
  obtain ⟨cap, w2, cs, hrun, hc1, hc2, hby, hb2, hmb2⟩ := own_made w l (by unfold maxLen; omega)
  unfold maxLen at hc2
  have HB2 := Lib.hid hb2
  have HM2 := Lib.hid hmb2
  have HGE := Lib.hid (get_any _ l w2 hby (by omega))
  have HYO := Lib.hid (fun (w1 : World) (h : Below w2.heap.size w2 w1) => hby.below h)
  have HGL := Lib.hid (block_lt hmb2.blk)
  obtain ⟨g, hg⟩ : ∃ g, g = w.heap.size := ⟨_, rfl⟩
  rw [← hg] at hrun HYO HM2 HGE HGL
  have HGG := Lib.hid hg
  clear hb2 hmb2 hby hg
  go_wp2_with fail
  refine HGE.out.mono ?_
  intro e w3 h3
  have h3' := h3.is
  have HRF := Lib.hid (fun (x : World) (h : Byt x (.slice B l.length cb) l) => (refGetD_any _ l x h (by omega)).mono fun e w' h => h.is)
  generalize (gotQ l).1 = nm at *
  generalize (gotQ l).2.1 = ins at *
  generalize (gotQ l).2.2.1 = rc at *
  generalize (gotQ l).2.2.2 = c at *
  obtain ⟨V1, cv1, rfl, hr1, hb3⟩ := h3'
  have HX3 := Lib.hid hb3
  have HR1 := Lib.hid (show TRow w3 (fun b => b ≠ g) _ ins from RdS.weak hr1 fun b _ h => by have := HGL.out; omega)
  clear h3 hb3 hr1 hcv hrun HGE
  go_upto_region 5 with (fail)
  obtain ⟨w4, hw4, hg4, hb4, hz4⟩ := row_new w3 (.cells #[.string nm, .slice V1 ins.length cv1, .string rc] 28)
  rw [← hw4]
  have HX4 := Lib.hid (step HX3.out hb4)
  have HR1' := Lib.hid (RdS.below HR1.out hb4)
  have HG4 := Lib.hid hg4
  have HN4 := Lib.hid (show w3.heap.size ≠ g by have := HGL.out; have := HX3.out.size; omega)
  generalize w3.heap.size = g4 at *
  clear hw4 hg4 hb4 hz4 HX3 HR1
  go_wp2_with fail
  refine (HRF.out w4 (HY.out w4 (step HB2.out HX4.out))).mono ?_
  rintro e w5 ⟨V2, cv2, rfl, hr2, hb5⟩
  have HX5 := Lib.hid (step HX4.out hb5)
  have HR1 := Lib.hid (RdS.below HR1'.out hb5)
  have HG4' := Lib.hid ((hb5.block _ (block_lt HG4.out)).trans HG4.out)
  have HR2 := Lib.hid (show TRow w5 (fun b => b ≠ g) _ ins from RdS.weak hr2 fun b _ h => by have := HGL.out; have := HX4.out.size; omega)
  clear hr2 hb5 HX4 HR1' HG4 HRF
  go_upto_region 6 with (fail)
  obtain ⟨w6, hw6, hg6, hb6, hz6⟩ := row_new w5 (.cells #[.string nm, .slice V2 ins.length cv2, .string rc] 28)
  rw [← hw6]
  have HX6 := Lib.hid (step HX5.out hb6)
  have HR1' := Lib.hid (RdS.below HR1.out hb6)
  have HR2' := Lib.hid (RdS.below HR2.out hb6)
  have HG4 := Lib.hid ((hb6.block _ (block_lt HG4'.out)).trans HG4'.out)
  have HG6 := Lib.hid hg6
  have HN6 := Lib.hid (show w5.heap.size ≠ g by have := HGL.out; have := HX5.out.size; omega)
  generalize w5.heap.size = g6 at *
  obtain ⟨hc40, hc41, hc42⟩ := three_cells HG4.out
  obtain ⟨hc60, hc61, hc62⟩ := three_cells HG6.out
  have HSA := Lib.hid (same_any nm _ ins rc nm _ ins rc w6 (RdS.all HR1'.out) (RdS.all HR2'.out) ⟨rfl, rfl, rfl⟩)
  clear hw6 hg6 hb6 hz6 HX5 HR1 HR2 HG4'
  go_wp2_with fail
  refine HSA.out.mono ?_
  rintro e y ⟨rfl, hby⟩
  have HXY := Lib.hid (step HX6.out hby)
  have HR1 := Lib.hid (RdS.below HR1'.out hby)
  have HR2 := Lib.hid (RdS.below HR2'.out hby)
  have HG4' := Lib.hid ((hby.block _ (block_lt HG4.out)).trans HG4.out)
  have HG6' := Lib.hid ((hby.block _ (block_lt HG6.out)).trans HG6.out)
  have hcv1 := (HYO.out y HXY.out).conv
  have hcv2 := (HY.out y (step HB2.out HXY.out)).conv
  have HMY := Lib.hid (HM2.out.below HXY.out)
  have hll : ((strOf l).toList != (strOf l).toList) = false := by simp
  clear hby hc40 hc41 hc42 hc60 hc61 hc62 HSA HX6 HR1' HR2' HG4 HG6 HM2 HYO
  go_wp2
  go_loopw [8] (fun iv wr => ∃ (i : Nat) (cs : Array Value), i ≤ l.length ∧ iv = .int .i64 (i : Int) ∧ Hid (MByt wr g l.length cs) ∧ Hid (Ch y wr (fun b => b = g))) (fun iv _ => l.length - (intOf iv).toNat)
  case atStart => exact ⟨0, _, by omega, rfl, HMY, Lib.hid (Ch.refl _ _)⟩
  case round =>
    clear HMY
    obtain ⟨i, cs, hi, rfl, HM, HC⟩ := hrel
    by_cases hlt : i < l.length
    · have hii : (i : Int) < (l.length : Int) := by omega
      obtain ⟨x, hx, hx0, hx1⟩ := HM.out.u8 i hlt
      have hcx := (HM.out.cell i).trans hx
      have hfx := HM.out.free hlt
      have HM2 := Lib.hid (HM.out.set hlt ((x + 1) % 256) (by omega) (by omega))
      have HC2 := Lib.hid (HC.out.setCell (p := ⟨g, i, none⟩) rfl (.int .u8 ((x + 1) % 256)))
      go_wp2
      go_roundw
      case rel => exact ⟨i + 1, _, by omega, by go_num, HM2, HC2⟩
      case measure => simp [intOf]; omega
    · have hii : ¬ (i : Int) < (l.length : Int) := by omega
      have HFB := Lib.hid (fun (x : World) (h : Below wr.heap.size wr x) => show Below w.heap.size w x from (HB2.out.trans ((HXY.out.mono HB2.out.size).trans (HC.out.below (by have := HXY.out.size; have := HB2.out.size; omega) (B := w.heap.size) fun k e => by have := HGG.out; omega))).trans (h.mono (by have := HC.out.size; have := HXY.out.size; have := HB2.out.size; omega)))
      obtain ⟨hc40, hc41, hc42⟩ := three_cells (HC.out.heap HG4'.out HN4.out)
      obtain ⟨hc60, hc61, hc62⟩ := three_cells (HC.out.heap HG6'.out HN6.out)
      have HSA := Lib.hid (same_any nm _ ins rc nm _ ins rc wr (RdS.all (RdS.keep HR1.out (HC.out.same _ fun b _ h e => h e))) (RdS.all (RdS.keep HR2.out (HC.out.same _ fun b _ h e => h e))) ⟨rfl, rfl, rfl⟩)
      go_wp2_with fail
      refine HSA.out.mono ?_
      rintro e z ⟨rfl, hbz⟩
      have HBZ := Lib.hid (HFB.out z hbz)
      clear hbz hc40 hc41 hc42 hc60 hc61 hc62
      go_wp2_with fail
      refine (HT.out z HBZ.out).mono ?_
      rintro e z2 ⟨rfl, hbz⟩
      have HBF := Lib.hid (step HBZ.out hbz)
      clear hbz
      go_wp2
      go_ret
      exact ⟨rfl, HBF.out⟩
theorem drvGet_walk (d : Nat → Nat) (A : Option Addr) (n cap : Nat) (w : World) (ht : Sha.Tabs w) (hd : ∀ i, d i < 256) (hnc : n ≤ cap) (hcm : cap ≤ maxLen) (hh : Holds w w.heap.size A n d) (hz : A = none → cap = 0) :
    Calls Tryz.prog 8 #[.slice A n cap] w fun e w' => e = .returned (.bool true) ∧ Below w.heap.size w w' :=
  drvGet_at _ _ w ht (byt_of hd hnc hcm hh hz)
end Go.Proofs.YtbniilajffjfcaaGreatDoor
