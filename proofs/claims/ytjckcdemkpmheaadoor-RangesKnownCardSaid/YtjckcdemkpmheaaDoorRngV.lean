/- Contracts of the reference's near, allows. -/
import Derived.Test.YtjckcdemkpmheaaDoorRngU
namespace Go.Proofs.YtjckcdemkpmheaaDoor
open Go.RowKit Go.BigFrame
open Ver (cmpV BL parts)

theorem take_getD (l : List Int) (m k : Nat) (h : k < m) : (l.take m).getD k 0 = l.getD k 0 := by simp [List.getD, List.getElem?_take, h]
set_option maxRecDepth 100000 in
set_option maxHeartbeats 1000000 in
theorem refnear_any (a b : Value) (xs ys : List Int) (p q : ByteArray) (w : World) (ha : Reads w w.heap.size a (ints xs)) (hb : Reads w w.heap.size b (ints ys)) (hy : 1 ≤ ys.length) (hp : p.size ≤ 1000000) (hq : q.size ≤ 1000000) :
    Calls Tryd.prog 52 #[.agg #[b, .string q], .agg #[a, .string p]] w fun e w' => e = .returned (.bool (nearV (ys, q.data.toList) (xs, p.data.toList))) ∧ Below w.heap.size w w' := by
  obtain ⟨A, ca, rfl⟩ := ha.form
  obtain ⟨A', cb, rfl⟩ := hb.form
  have hla : xs.length ≤ ca ∧ ca ≤ maxLen := by obtain ⟨_, _, e, h1, h2, _⟩ := ha; rw [ints_len] at e h1; cases e; exact ⟨h1, h2⟩
  have hlb : ys.length ≤ cb ∧ cb ≤ maxLen := by obtain ⟨_, _, e, h1, h2, _⟩ := hb; rw [ints_len] at e h1; cases e; exact ⟨h1, h2⟩
  unfold maxLen at hla hlb
  obtain ⟨m, hm⟩ : ∃ m, m = max 1 (ys.length - 1) := ⟨_, rfl⟩
  have hmy : m ≤ ys.length := by omega
  have HMI := Lib.hid (show max 1 ((ys.length : Int) - 1) = (m : Int) by omega)
  have hwr : IntKind.i64.wrap ((ys.length : Int) - 1) = (ys.length : Int) - 1 := IntWalk.i64_in _ (by omega)
  have HA := Lib.hid ha
  have HB := Lib.hid hb
  have HN := Lib.hid (show nearV (ys, q.data.toList) (xs, p.data.toList) = (decide (m ≤ xs.length) && decide (xs.take m = ys.take m) && decide (0 ≤ cmpV (xs, p.data.toList) (ys, q.data.toList))) by unfold nearV; rw [hm])
  clear ha hb hm
  go_enter Tryd.func52, Tryd.ntmps52
  go_upto_region 1 with (fail)
  obtain ⟨W1, hW1, hg0, hg1, hb1, hz1⟩ := rows2 w (.cells #[.slice A' ys.length cb, .string q] 61) (.cells #[.slice A xs.length ca, .string p] 61)
  rw [← hW1]
  clear hW1
  have HA1 := Lib.hid ((HA.out.below hb1).more hb1.size)
  have HB1 := Lib.hid ((HB.out.below hb1).more hb1.size)
  have HBE := Lib.hid hb1
  obtain ⟨hc0, hc1, _, _⟩ := cell_two hg0
  obtain ⟨hd0, hd1, _, _⟩ := cell_two hg1
  clear hg0 hg1 HA HB hz1 hb1
  go_upto_region 2 with (fail)
  rw [HMI.out]
  by_cases hlt : m ≤ xs.length
  · have hlt1 : ¬ (xs.length : Int) < (m : Int) := by omega
    go_wp2
    have HC := Lib.hid (show ∀ (nq : Nat) (wr : World), wr = W1.drewN nq → wr.cell? ⟨w.heap.size, 0, none⟩ = some (.slice A' ys.length cb) ∧ wr.cell? ⟨w.heap.size, 1, none⟩ = some (.string q) ∧ wr.cell? ⟨w.heap.size + 1, 0, none⟩ = some (.slice A xs.length ca) ∧ wr.cell? ⟨w.heap.size + 1, 1, none⟩ = some (.string p) from fun nq wr h => ⟨(cell_drew h _).trans hc0, (cell_drew h _).trans hc1, (cell_drew h _).trans hd0, (cell_drew h _).trans hd1⟩)
    clear hc0 hc1 hd0 hd1
    go_loopw [6] (fun i wr => ∃ (k nq : Nat), k ≤ m ∧ i = .int .i64 k ∧ Hid (wr = W1.drewN nq) ∧ Hid (∀ j, j < k → xs.getD j 0 = ys.getD j 0)) (fun i _ => m - (intOf i).toNat)
    case atStart => exact ⟨0, 0, by omega, rfl, Lib.hid rfl, Lib.hid fun j h => absurd h (Nat.not_lt_zero j)⟩
    case round =>
      obtain ⟨k, nq, hk, rfl, HW, HS⟩ := hrel
      obtain ⟨hc0, hc1, hd0, hd1⟩ := HC.out nq wr HW.out
      by_cases hkm : k < m
      · obtain ⟨_, _, e', _, _, _, hcs⟩ := HA1.out
        rw [ints_len] at e' hcs
        cases e'
        obtain ⟨ad, rfl, hbl, hc⟩ := hcs (by omega)
        obtain ⟨_, _, e', _, _, _, hcs'⟩ := HB1.out
        rw [ints_len] at e' hcs'
        cases e'
        obtain ⟨ad', rfl, hbl', hc'⟩ := hcs' (by omega)
        have hcx := (cell_drew HW.out _).trans (hc k _ (ints_get xs k (by omega)))
        have hcy := (cell_drew HW.out _).trans (hc' k _ (ints_get ys k (by omega)))
        clear hc hc' hbl hbl' hcs hcs'
        have hi1 : (k : Int) < (xs.length : Int) := by omega
        have hi2 : (k : Int) < (ys.length : Int) := by omega
        have hi3 : (k : Int) < (m : Int) := by omega
        have hi0 : (0 : Int) ≤ (k : Int) := by omega
        obtain ⟨x, hx⟩ : ∃ x, x = xs.getD k 0 := ⟨_, rfl⟩
        obtain ⟨y, hy⟩ : ∃ y, y = ys.getD k 0 := ⟨_, rfl⟩
        rw [← hx] at hcx
        rw [← hy] at hcy
        by_cases hxy : x = y
        · have HS' : Hid (∀ j, j < k + 1 → xs.getD j 0 = ys.getD j 0) := Lib.hid fun j hj => by
            rcases Nat.lt_or_ge j k with h | h
            · exact HS.out j h
            · obtain rfl : j = k := by omega
              rw [← hx, ← hy]; exact hxy
          have hbe : (x != y) = false := by rw [hxy]; simp
          clear hx hy hxy
          go_wp2
          go_quiet (fail)
          go_wp2
          go_roundw
          case rel => exact ⟨k + 1, _, by omega, by go_num, Lib.hid (by rw [HW.out]; exact World.drewN_drewN _ _ _), HS'⟩
          case measure => simp [intOf]; omega
        · have HF := Lib.hid (show nearV (ys, q.data.toList) (xs, p.data.toList) = false by
            rw [HN.out, show decide (xs.take m = ys.take m) = false from decide_eq_false (list_ne _ _ _ k (by rw [take_getD _ _ _ hkm, take_getD _ _ _ hkm, ← hx, ← hy]; exact hxy)), Bool.and_false, Bool.false_and])
          have hbe : (x != y) = true := by rw [bne_iff_ne]; exact hxy
          clear hx hy hxy
          go_wp2
          go_quiet (fail)
          go_wp2
          go_ret
          exact ⟨ret_bool HF.out.symm, below_drewN (by rw [HW.out]; exact below_drewN HBE.out _) _⟩
      · have hi3 : ¬ (k : Int) < (m : Int) := by omega
        have HF := Lib.hid (show nearV (ys, q.data.toList) (xs, p.data.toList) = decide (cmpV (xs, p.data.toList) (ys, q.data.toList) ≥ 0) by
          rw [HN.out, decide_eq_true hlt, show decide (xs.take m = ys.take m) = true from decide_eq_true (list_eq _ _ _ (by rw [List.length_take, List.length_take]; omega) fun j hj => by
            rw [List.length_take] at hj
            rw [take_getD _ _ _ (by omega), take_getD _ _ _ (by omega)]; exact HS.out j (by omega)), Bool.true_and, Bool.true_and])
        have HA2 := Lib.hid (HA1.out.below (w' := wr) (by rw [HW.out]; exact below_drewN (Below.refl _ _) nq))
        have HB2 := Lib.hid (HB1.out.below (w' := wr) (by rw [HW.out]; exact below_drewN (Below.refl _ _) nq))
        have hz2 : W1.heap.size ≤ wr.heap.size := by rw [HW.out]; exact (below_drewN (Below.refl W1.heap.size W1) nq).size
        have HBR := Lib.hid (show Below w.heap.size w wr by rw [HW.out]; exact below_drewN HBE.out nq)
        go_wp2_with (go_at_call 51; refine (refCompare_any _ _ _ _ p q W1.heap.size _ HA2.out HB2.out hz2 hp hq).mono ?_; rintro e w5 ⟨rfl, hb5⟩)
        go_ret
        exact ⟨ret_bool HF.out.symm, below_step HBR.out hb5 HBR.out.size⟩
  · have hlt1 : (xs.length : Int) < (m : Int) := by omega
    have HF := Lib.hid (HN.out.trans (by rw [decide_eq_false hlt, Bool.false_and, Bool.false_and]))
    go_wp2
    go_ret
    exact ⟨ret_bool HF.out.symm, HBE.out⟩
/-- What the reference's Parse leaves, of any text. -/
theorem refParse_w (s : ByteArray) (w : World) (hs : s.size ≤ 1000000) : Calls Tryd.prog 33 #[.string s] w fun e w' => ∃ A n cap t, ∃ x : Int, e = .returned (.tuple #[.agg #[.slice A n cap, .string t], .int .i64 x]) ∧ Reads w' w'.heap.size (.slice A n cap) (ints (verOf s).1) ∧ t.data.toList = (verOf s).2 ∧ t.size ≤ 16 ∧ Below w.heap.size w w' := by
  cases ho : okS s
  · refine (refParse_no s w hs ho).mono ?_
    rintro e w' ⟨rfl, hb⟩
    have hv : verOf s = ([], []) := by
      unfold okS at ho
      unfold verOf
      cases hp : Ver.prs s.data.toList with
      | none => rfl
      | some v => rw [hp] at ho; cases ho
    refine ⟨_, _, _, _, _, rfl, ?_, by rw [hv], by decide, hb⟩
    rw [hv]
    exact RdS.reads (S := AllB) (xs := []) (RdS.nil w' AllB)
  · refine (refParse_yes s w hs ho).mono ?_
    rintro e w' ⟨a, t, rfl, hr, h1, h2, hb, ⟨A, n, cap, rfl, _⟩⟩
    exact ⟨_, _, _, _, _, rfl, hr, h1, h2, hb⟩
set_option maxRecDepth 100000 in
set_option maxHeartbeats 1000000 in
theorem refallow_any (b : Bd) (a : Value) (xs : List Int) (p : ByteArray) (w : World) (hm : mayB b = true) (hv : b.2.size ≤ 1000000) (ha : Reads w w.heap.size a (ints xs)) (hp : p.size ≤ 1000000) :
    Calls Tryd.prog 34 #[.agg #[.int .u8 (b.1 : Int), .string b.2], .agg #[a, .string p]] w fun e w' => e = .returned (.bool (opV b.1 (xs, p.data.toList) (verOf b.2))) ∧ Below w.heap.size w w' := by
  have HS := Lib.hid (may_seven b hm)
  have ho := mayB_le b hm
  obtain ⟨o, v⟩ := b
  dsimp only at *
  obtain ⟨A, ca, rfl⟩ := ha.form
  have HA := Lib.hid ha
  clear ha hm
  go_enter Tryd.func34, Tryd.ntmps34
  go_upto_region 1 with (fail)
  obtain ⟨W1, hW1, hg0, hg1, hb1, hz1⟩ := rows2 w (.cells #[.int .u8 (o : Int), .string v] 45) (.cells #[.slice A xs.length ca, .string p] 61)
  rw [← hW1]
  clear hW1
  obtain ⟨hc0, hc1, _, _⟩ := cell_two hg0
  have HG0 := Lib.hid hg0
  have HG1 := Lib.hid hg1
  clear hg0 hg1 hz1
  have HB1 := Lib.hid hb1
  have HA1 := Lib.hid ((HA.out.below hb1).more hb1.size)
  clear hb1 HA
  go_wp2_with fail
  refine (refParse_w v _ hv).mono ?_
  rintro e w2 ⟨A', n', cb, t, x, rfl, hr, ht, htz, hb2⟩
  go_upto_region 2 with (fail)
  obtain ⟨W3, hW3, hg3, hq3, hz3, hB3⟩ := row_at w w2 (.cells #[.slice A' n' cb, .string t] 61) (below_step HB1.out hb2 HB1.out.size)
  rw [← hW3]
  have hl0 := block_lt HG0.out
  have hl1 := block_lt HG1.out
  have HG03 := Lib.hid ((hq3.block w.heap.size (Nat.lt_of_lt_of_le hl0 hb2.size)).trans ((hb2.block w.heap.size hl0).trans HG0.out))
  have HG13 := Lib.hid ((hq3.block (w.heap.size + 1) (Nat.lt_of_lt_of_le hl1 hb2.size)).trans ((hb2.block (w.heap.size + 1) hl1).trans HG1.out))
  have HG33 := Lib.hid hg3
  have HX := Lib.hid ((((HA1.out.below hb2).more hb2.size).below hq3).more hq3.size)
  have HY := Lib.hid ((hr.below hq3).more hq3.size)
  have HT := Lib.hid ht
  have HB3 := Lib.hid hB3
  clear hW3 hg3 hq3 hz3 hB3 hc0 hc1 hl0 hl1 hr ht hb2
  obtain ⟨hx0, hx1, _, _⟩ := cell_two HG03.out
  obtain ⟨hd0, hd1, _, _⟩ := cell_two HG13.out
  obtain ⟨hy0, hy1, _, _⟩ := cell_two HG33.out
  have hcm := refCompare_any _ _ xs (verOf v).1 p t W3.heap.size W3 HX.out HY.out (Nat.le_refl _) hp (by omega)
  rw [HT.out] at hcm
  have HCM := Lib.hid hcm
  clear hcm
  obtain ⟨c, hcc⟩ : ∃ c, c = cmpV (xs, p.data.toList) ((verOf v).1, (verOf v).2) := ⟨_, rfl⟩
  rw [← hcc] at HCM
  have HCC := Lib.hid (show cmpV (xs, p.data.toList) (verOf v) = c from hcc.symm)
  clear hcc
  go_upto_region 3 with (go_at_call 51; refine HCM.out.mono ?_; rintro e w4 ⟨rfl, hb4⟩)
  have hl0 := block_lt HG03.out
  have hl1 := block_lt HG13.out
  have hl3 := block_lt HG33.out
  obtain ⟨hx0, hx1, _, _⟩ := cell_two ((hb4.block w.heap.size hl0).trans HG03.out)
  obtain ⟨hd0, hd1, _, _⟩ := cell_two ((hb4.block (w.heap.size + 1) hl1).trans HG13.out)
  obtain ⟨hy0, hy1, _, _⟩ := cell_two ((hb4.block w2.heap.size hl3).trans HG33.out)
  have HX4 := Lib.hid ((HX.out.below hb4).more hb4.size)
  have HY4 := Lib.hid ((HY.out.below hb4).more hb4.size)
  have HB4 := Lib.hid (below_step HB3.out hb4 HB3.out.size)
  clear hl0 hl1 hl3 hb4
  have fin : ∀ (o : Nat) (r : Bool), opV o (xs, p.data.toList) (verOf v) = r → Ending.returned (.bool r) = .returned (.bool (opV o (xs, p.data.toList) (verOf v))) := fun o r h => by rw [h]
  have HFIN := Lib.hid fin
  clear fin
  rcases op_cases o ho with rfl | rfl | rfl | rfl | rfl | rfl | rfl | rfl
  · go_wp2
    go_ret
    exact ⟨HFIN.out 0 _ rfl, HB4.out⟩
  · go_wp2
    go_ret
    exact ⟨HFIN.out 1 _ (by unfold opV; rw [HCC.out]; rfl), HB4.out⟩
  · go_wp2
    go_ret
    exact ⟨HFIN.out 2 _ (by unfold opV; rw [HCC.out]; rfl), HB4.out⟩
  · go_wp2
    go_ret
    exact ⟨HFIN.out 3 _ (by unfold opV; rw [HCC.out]; rfl), HB4.out⟩
  · go_wp2
    go_ret
    exact ⟨HFIN.out 4 _ (by unfold opV; rw [HCC.out]; rfl), HB4.out⟩
  · go_wp2
    go_ret
    exact ⟨HFIN.out 5 _ (by unfold opV; rw [HCC.out]; rfl), HB4.out⟩
  · go_wp2
    go_ret
    exact ⟨HFIN.out 6 _ (by unfold opV; rw [HCC.out]; rfl), HB4.out⟩
  · have HNE := Lib.hid (show ∀ w, _ from fun w h1 h2 => refnear_any (.slice A xs.length ca) (.slice A' n' cb) xs (verOf v).1 p t w h1 h2 (HS.out rfl) hp (by omega))
    go_wp2_with (go_at_call 52; refine (HNE.out _ HX4.out HY4.out).mono ?_; rintro e w5 ⟨rfl, hb5⟩)
    go_ret
    exact ⟨HFIN.out 7 _ (by rw [HT.out]; rfl), below_step HB4.out hb5 HB4.out.size⟩
end Go.Proofs.YtjckcdemkpmheaaDoor
