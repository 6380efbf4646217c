/- Contracts of the reference's near, allows. -/
import Derived.Test.YtcnedecmmplmoaaGreatDoorCm17
set_option linter.unusedVariables false
set_option linter.unusedSimpArgs false
namespace Go.Proofs.YtcnedecmmplmoaaGreatDoor
open Go.RowKit Go.BigFrame
open Ver (cmpV BL parts)

theorem take_getD (l : List Int) (m k : Nat) (h : k < m) : (l.take m).getD k 0 = l.getD k 0 := by simp [List.getD, List.getElem?_take, h]
set_option maxRecDepth 100000 in
set_option maxHeartbeats 1000000 in
theorem refnear_any (a b : Value) (xs ys : List Int) (p q : ByteArray) (w : World) (ha : Reads w w.heap.size a (ints xs)) (hb : Reads w w.heap.size b (ints ys)) (hy : 1 ≤ ys.length) (hp : p.size ≤ 1000000) (hq : q.size ≤ 1000000) :
    Calls Tryz.prog 113 #[.agg #[b, .string q], .agg #[a, .string p]] w fun e w' => e = .returned (.bool (nearV (ys, q.data.toList) (xs, p.data.toList))) ∧ Below w.heap.size w w' := by
  obtain ⟨A, ca, rfl⟩ := ha.form
  obtain ⟨A', cb, rfl⟩ := hb.form
  have hla : xs.length ≤ ca ∧ ca ≤ maxLen := by obtain ⟨_, _, e, h1, h2, _⟩ := ha; rw [ints_len] at e h1; cases e; exact ⟨h1, h2⟩
  have hlb : ys.length ≤ cb ∧ cb ≤ maxLen := by obtain ⟨_, _, e, h1, h2, _⟩ := hb; rw [ints_len] at e h1; cases e; exact ⟨h1, h2⟩
  unfold maxLen at hla hlb
  obtain ⟨m, hm⟩ : ∃ m, m = max 1 (ys.length - 1) := ⟨_, rfl⟩
  have hmy : m ≤ ys.length := by omega
  have HMI := Lib.hid (show max 1 ((ys.length : Int) - 1) = (m : Int) by omega)
  have hwr : IntKind.i64.wrap ((ys.length : Int) - 1) = (ys.length : Int) - 1 := IntWalk.i64_in _ (by omega)
  have HA := Lib.hid ha
  have HB := Lib.hid hb
  have HN := Lib.hid (show nearV (ys, q.data.toList) (xs, p.data.toList) = (decide (m ≤ xs.length) && decide (xs.take m = ys.take m) && decide (0 ≤ cmpV (xs, p.data.toList) (ys, q.data.toList))) by unfold nearV; rw [hm])
  clear ha hb hm
  go_enter Tryz.func113, Tryz.ntmps113
  go_upto_region 1 with (fail)
  obtain ⟨W1, hW1, hg0, hg1, hb1, hz1⟩ := rows2 w (.cells #[.slice A' ys.length cb, .string q] 110) (.cells #[.slice A xs.length ca, .string p] 110)
  rw [← hW1]
  clear hW1
  have HA1 := Lib.hid ((HA.out.below hb1).more hb1.size)
  have HB1 := Lib.hid ((HB.out.below hb1).more hb1.size)
  have HBE := Lib.hid hb1
  obtain ⟨hc0, hc1, _, _⟩ := cell_two hg0
  obtain ⟨hd0, hd1, _, _⟩ := cell_two hg1
  clear hg0 hg1 HA HB hz1 hb1
  go_upto_region 2 with (fail)
  rw [HMI.out]
  by_cases hlt : m ≤ xs.length
  · have hlt1 : ¬ (xs.length : Int) < (m : Int) := by omega
    go_wp2
    have HC := Lib.hid (show ∀ (nq : Nat) (wr : World), wr = W1.drewN nq → wr.cell? ⟨w.heap.size, 0, none⟩ = some (.slice A' ys.length cb) ∧ wr.cell? ⟨w.heap.size, 1, none⟩ = some (.string q) ∧ wr.cell? ⟨w.heap.size + 1, 0, none⟩ = some (.slice A xs.length ca) ∧ wr.cell? ⟨w.heap.size + 1, 1, none⟩ = some (.string p) from fun nq wr h => ⟨(cell_drew h _).trans hc0, (cell_drew h _).trans hc1, (cell_drew h _).trans hd0, (cell_drew h _).trans hd1⟩)
    clear hc0 hc1 hd0 hd1
    go_loopw [6] (fun i wr => ∃ (k nq : Nat), k ≤ m ∧ i = .int .i64 k ∧ Hid (wr = W1.drewN nq) ∧ Hid (∀ j, j < k → xs.getD j 0 = ys.getD j 0)) (fun i _ => m - (intOf i).toNat)
    case atStart => exact ⟨0, 0, by omega, rfl, Lib.hid rfl, Lib.hid fun j h => absurd h (Nat.not_lt_zero j)⟩
    case round =>
      obtain ⟨k, nq, hk, rfl, HW, HS⟩ := hrel
      obtain ⟨hc0, hc1, hd0, hd1⟩ := HC.out nq wr HW.out
      by_cases hkm : k < m
      · obtain ⟨_, _, e', _, _, _, hcs⟩ := HA1.out
        rw [ints_len] at e' hcs
        cases e'
        obtain ⟨ad, rfl, hbl, hc⟩ := hcs (by omega)
        obtain ⟨_, _, e', _, _, _, hcs'⟩ := HB1.out
        rw [ints_len] at e' hcs'
        cases e'
        obtain ⟨ad', rfl, hbl', hc'⟩ := hcs' (by omega)
        have hcx := (cell_drew HW.out _).trans (hc k _ (ints_get xs k (by omega)))
        have hcy := (cell_drew HW.out _).trans (hc' k _ (ints_get ys k (by omega)))
        clear hc hc' hbl hbl' hcs hcs'
        have hi1 : (k : Int) < (xs.length : Int) := by omega
        have hi2 : (k : Int) < (ys.length : Int) := by omega
        have hi3 : (k : Int) < (m : Int) := by omega
        have hi0 : (0 : Int) ≤ (k : Int) := by omega
        obtain ⟨x, hx⟩ : ∃ x, x = xs.getD k 0 := ⟨_, rfl⟩
        obtain ⟨y, hy⟩ : ∃ y, y = ys.getD k 0 := ⟨_, rfl⟩
        rw [← hx] at hcx
        rw [← hy] at hcy
        by_cases hxy : x = y
        · have HS' : Hid (∀ j, j < k + 1 → xs.getD j 0 = ys.getD j 0) := Lib.hid fun j hj => by
            rcases Nat.lt_or_ge j k with h | h
            · exact HS.out j h
            · obtain rfl : j = k := by omega
              rw [← hx, ← hy]; exact hxy
          have hbe : (x != y) = false := by rw [hxy]; simp
          clear hx hy hxy
          go_wp2
          go_quiet (fail)
          go_wp2
          go_roundw
          case rel => exact ⟨k + 1, _, by omega, by go_num, Lib.hid (by rw [HW.out]; exact World.drewN_drewN _ _ _), HS'⟩
          case measure => simp [intOf]; omega
        · have HF := Lib.hid (show nearV (ys, q.data.toList) (xs, p.data.toList) = false by
            rw [HN.out, show decide (xs.take m = ys.take m) = false from decide_eq_false (list_ne _ _ _ k (by rw [take_getD _ _ _ hkm, take_getD _ _ _ hkm, ← hx, ← hy]; exact hxy)), Bool.and_false, Bool.false_and])
          have hbe : (x != y) = true := by rw [bne_iff_ne]; exact hxy
          clear hx hy hxy
          go_wp2
          go_quiet (fail)
          go_wp2
          go_ret
          exact ⟨ret_bool HF.out.symm, below_drewN (by rw [HW.out]; exact below_drewN HBE.out _) _⟩
      · have hi3 : ¬ (k : Int) < (m : Int) := by omega
        have HF := Lib.hid (show nearV (ys, q.data.toList) (xs, p.data.toList) = decide (cmpV (xs, p.data.toList) (ys, q.data.toList) ≥ 0) by
          rw [HN.out, decide_eq_true hlt, show decide (xs.take m = ys.take m) = true from decide_eq_true (list_eq _ _ _ (by rw [List.length_take, List.length_take]; omega) fun j hj => by
            rw [List.length_take] at hj
            rw [take_getD _ _ _ (by omega), take_getD _ _ _ (by omega)]; exact HS.out j (by omega)), Bool.true_and, Bool.true_and])
        have HA2 := Lib.hid (HA1.out.below (w' := wr) (by rw [HW.out]; exact below_drewN (Below.refl _ _) nq))
        have HB2 := Lib.hid (HB1.out.below (w' := wr) (by rw [HW.out]; exact below_drewN (Below.refl _ _) nq))
        have hz2 : W1.heap.size ≤ wr.heap.size := by rw [HW.out]; exact (below_drewN (Below.refl W1.heap.size W1) nq).size
        have HBR := Lib.hid (show Below w.heap.size w wr by rw [HW.out]; exact below_drewN HBE.out nq)
        go_wp2_with (go_at_call 112; refine (refCompare_any _ _ _ _ p q W1.heap.size _ HA2.out HB2.out hz2 hp hq).mono ?_; rintro e w5 ⟨rfl, hb5⟩)
        go_ret
        exact ⟨ret_bool HF.out.symm, below_step HBR.out hb5 HBR.out.size⟩
  · have hlt1 : (xs.length : Int) < (m : Int) := by omega
    have HF := Lib.hid (HN.out.trans (by rw [decide_eq_false hlt, Bool.false_and, Bool.false_and]))
    go_wp2
    go_ret
    exact ⟨ret_bool HF.out.symm, HBE.out⟩
/-- What the reference's Parse leaves, of any text. -/
theorem refParse_w (s : ByteArray) (w : World) (hs : s.size ≤ 1000000) : Calls Tryz.prog 66 #[.string s] w fun e w' => ∃ A n cap t, ∃ x : Int, e = .returned (.tuple #[.agg #[.slice A n cap, .string t], .int .i64 x]) ∧ Reads w' w'.heap.size (.slice A n cap) (ints (verOf s).1) ∧ t.data.toList = (verOf s).2 ∧ t.size ≤ 16 ∧ Below w.heap.size w w' := by
  cases ho : okS s
  · refine (refParse_no s w hs ho).mono ?_
    rintro e w' ⟨rfl, hb⟩
    have hv : verOf s = ([], []) := by
      unfold okS at ho
      unfold verOf
      cases hp : Ver.prs s.data.toList with
      | none => rfl
      | some v => rw [hp] at ho; cases ho
    refine ⟨_, _, _, _, _, rfl, ?_, by rw [hv], by decide, hb⟩
    rw [hv]
    exact RdS.reads (S := AllB) (xs := []) (RdS.nil w' AllB)
  · refine (refParse_yes s w hs ho).mono ?_
    rintro e w' ⟨a, t, rfl, hr, h1, h2, hb, ⟨A, n, cap, rfl, _⟩⟩
    exact ⟨_, _, _, _, _, rfl, hr, h1, h2, hb⟩
set_option maxRecDepth 100000 in
set_option maxHeartbeats 1000000 in
theorem refallow_any (b : Bd) (a : Value) (xs : List Int) (p : ByteArray) (w : World) (hm : mayB b = true) (hv : b.2.size ≤ 1000000) (ha : Reads w w.heap.size a (ints xs)) (hp : p.size ≤ 1000000) :
    Calls Tryz.prog 86 #[.agg #[.int .u8 (b.1 : Int), .string b.2], .agg #[a, .string p]] w fun e w' => e = .returned (.bool (opV b.1 (xs, p.data.toList) (verOf b.2))) ∧ Below w.heap.size w w' := by
  have HS := Lib.hid (may_seven b hm)
  have ho := mayB_le b hm
  obtain ⟨o, v⟩ := b
  dsimp only at *
  obtain ⟨A, ca, rfl⟩ := ha.form
  have HA := Lib.hid ha
  clear ha hm
  go_enter Tryz.func86, Tryz.ntmps86
  go_upto_region 1 with (fail)
  obtain ⟨W1, hW1, hg0, hg1, hb1, hz1⟩ := rows2 w (.cells #[.int .u8 (o : Int), .string v] 57) (.cells #[.slice A xs.length ca, .string p] 110)
  rw [← hW1]
  clear hW1
  obtain ⟨hc0, hc1, _, _⟩ := cell_two hg0
  have HG0 := Lib.hid hg0
  have HG1 := Lib.hid hg1
  clear hg0 hg1 hz1
  have HB1 := Lib.hid hb1
  have HA1 := Lib.hid ((HA.out.below hb1).more hb1.size)
  clear hb1 HA
  go_wp2_with fail
  refine (refParse_w v _ hv).mono ?_
  rintro e w2 ⟨A', n', cb, t, x, rfl, hr, ht, htz, hb2⟩
  go_upto_region 2 with (fail)
  obtain ⟨W3, hW3, hg3, hq3, hz3, hB3⟩ := row_at w w2 (.cells #[.slice A' n' cb, .string t] 110) (below_step HB1.out hb2 HB1.out.size)
  rw [← hW3]
  have hl0 := block_lt HG0.out
  have hl1 := block_lt HG1.out
  have HG03 := Lib.hid ((hq3.block w.heap.size (Nat.lt_of_lt_of_le hl0 hb2.size)).trans ((hb2.block w.heap.size hl0).trans HG0.out))
  have HG13 := Lib.hid ((hq3.block (w.heap.size + 1) (Nat.lt_of_lt_of_le hl1 hb2.size)).trans ((hb2.block (w.heap.size + 1) hl1).trans HG1.out))
  have HG33 := Lib.hid hg3
  have HX := Lib.hid ((((HA1.out.below hb2).more hb2.size).below hq3).more hq3.size)
  have HY := Lib.hid ((hr.below hq3).more hq3.size)
  have HT := Lib.hid ht
  have HB3 := Lib.hid hB3
  clear hW3 hg3 hq3 hz3 hB3 hc0 hc1 hl0 hl1 hr ht hb2
  obtain ⟨hx0, hx1, _, _⟩ := cell_two HG03.out
  obtain ⟨hd0, hd1, _, _⟩ := cell_two HG13.out
  obtain ⟨hy0, hy1, _, _⟩ := cell_two HG33.out
  have hcm := refCompare_any _ _ xs (verOf v).1 p t W3.heap.size W3 HX.out HY.out (Nat.le_refl _) hp (by omega)
  rw [HT.out] at hcm
  have HCM := Lib.hid hcm
  clear hcm
  obtain ⟨c, hcc⟩ : ∃ c, c = cmpV (xs, p.data.toList) ((verOf v).1, (verOf v).2) := ⟨_, rfl⟩
  rw [← hcc] at HCM
  have HCC := Lib.hid (show cmpV (xs, p.data.toList) (verOf v) = c from hcc.symm)
  clear hcc
  go_upto_region 3 with (go_at_call 112; refine HCM.out.mono ?_; rintro e w4 ⟨rfl, hb4⟩)
  have hl0 := block_lt HG03.out
  have hl1 := block_lt HG13.out
  have hl3 := block_lt HG33.out
  obtain ⟨hx0, hx1, _, _⟩ := cell_two ((hb4.block w.heap.size hl0).trans HG03.out)
  obtain ⟨hd0, hd1, _, _⟩ := cell_two ((hb4.block (w.heap.size + 1) hl1).trans HG13.out)
  obtain ⟨hy0, hy1, _, _⟩ := cell_two ((hb4.block w2.heap.size hl3).trans HG33.out)
  have HX4 := Lib.hid ((HX.out.below hb4).more hb4.size)
  have HY4 := Lib.hid ((HY.out.below hb4).more hb4.size)
  have HB4 := Lib.hid (below_step HB3.out hb4 HB3.out.size)
  clear hl0 hl1 hl3 hb4
  have fin : ∀ (o : Nat) (r : Bool), opV o (xs, p.data.toList) (verOf v) = r → Ending.returned (.bool r) = .returned (.bool (opV o (xs, p.data.toList) (verOf v))) := fun o r h => by rw [h]
  have HFIN := Lib.hid fin
  clear fin
  rcases op_cases o ho with rfl | rfl | rfl | rfl | rfl | rfl | rfl | rfl
  · go_wp2
    go_ret
    exact ⟨HFIN.out 0 _ rfl, HB4.out⟩
  · go_wp2
    go_ret
    exact ⟨HFIN.out 1 _ (by unfold opV; rw [HCC.out]; rfl), HB4.out⟩
  · go_wp2
    go_ret
    exact ⟨HFIN.out 2 _ (by unfold opV; rw [HCC.out]; rfl), HB4.out⟩
  · go_wp2
    go_ret
    exact ⟨HFIN.out 3 _ (by unfold opV; rw [HCC.out]; rfl), HB4.out⟩
  · go_wp2
    go_ret
    exact ⟨HFIN.out 4 _ (by unfold opV; rw [HCC.out]; rfl), HB4.out⟩
  · go_wp2
    go_ret
    exact ⟨HFIN.out 5 _ (by unfold opV; rw [HCC.out]; rfl), HB4.out⟩
  · go_wp2
    go_ret
    exact ⟨HFIN.out 6 _ (by unfold opV; rw [HCC.out]; rfl), HB4.out⟩
  · have HNE := Lib.hid (show ∀ w, _ from fun w h1 h2 => refnear_any (.slice A xs.length ca) (.slice A' n' cb) xs (verOf v).1 p t w h1 h2 (HS.out rfl) hp (by omega))
    go_wp2_with (go_at_call 113; refine (HNE.out _ HX4.out HY4.out).mono ?_; rintro e w5 ⟨rfl, hb5⟩)
    go_ret
    exact ⟨HFIN.out 7 _ (by rw [HT.out]; rfl), below_step HB4.out hb5 HB4.out.size⟩
end Go.Proofs.YtcnedecmmplmoaaGreatDoor

/- Contract of the reference's Allows. -/
namespace Go.Proofs.YtcnedecmmplmoaaGreatDoor
open Go.RowKit Go.BigFrame
open Ver (cmpV BL parts)

theorem any_step {α : Type} (f : α → Bool) (l : List α) (k : Nat) (x : α) (hk : l[k]? = some x) : (l.take (k + 1)).any f = ((l.take k).any f || f x) := by
  rw [take_next l k x hk, List.any_append, List.any_cons, List.any_nil, Bool.or_false]
set_option maxRecDepth 100000 in
set_option maxHeartbeats 4000000 in
theorem refAllow_any (r : List (List Bd)) (v : Value) (s : ByteArray) (w : World) (h : RngAt w v r) (hsz : Short r) (hs : s.size ≤ 1000000) :
    Calls Tryz.prog 51 #[v, .string s] w fun e w' => e = .returned (.bool (allowR r s)) ∧ Below w.heap.size w w' := by
  obtain ⟨A, cap, rfl, hcl, hcm⟩ := h.form
  have HR := Lib.hid h
  have HSZ := Lib.hid hsz
  clear h hsz
  unfold maxLen at hcm
  cases ho : okS s
  · have HF := Lib.hid (show allowR r s = false by unfold allowR allowsB; rw [ho, Bool.false_and, Bool.and_false])
    have HO := Lib.hid ho
    clear ho
    go_enter Tryz.func51, Tryz.ntmps51
    go_wp2_with fail
    refine (refParse_no s _ hs HO.out).mono ?_
    rintro e w1 ⟨rfl, hb1⟩
    go_wp2
    go_ret
    exact ⟨ret_bool HF.out.symm, hb1.alloc hb1.size _⟩
  · have HO := Lib.hid ho
    clear ho
    go_enter Tryz.func51, Tryz.ntmps51
    go_wp2_with fail
    refine (refParse_yes s _ hs HO.out).mono ?_
    rintro e w1 ⟨a, t, rfl, hR, htl, htz, hb1, ⟨A', n', cap', rfl, _⟩⟩
    go_upto_region 2 with (fail)
    obtain ⟨W2, hW2, hg2, hq2, hz2, hB2⟩ := row_at w w1 (.cells #[.slice A' n' cap', .string t] 110) hb1
    rw [← hW2]
    have HX := Lib.hid ((hR.below hq2).more hq2.size)
    have HT := Lib.hid (show ((verOf s).1, t.data.toList) = verOf s by rw [htl])
    have HG2 := Lib.hid hg2
    have HB2 := Lib.hid hB2
    have HMY := Lib.hid (may_any r _ W2 (HR.out.below hB2) HSZ.out)
    clear hW2 hg2 hq2 hz2 hB2 hR htl hb1
    cases hm : mayR r
    · rw [hm] at HMY
      have HF := Lib.hid (show allowR r s = false by unfold allowR; rw [hm, Bool.false_and])
      clear hm
      go_wp2_with (go_at_call 85; refine HMY.out.mono ?_; rintro e w3 ⟨rfl, hb3⟩)
      go_ret
      exact ⟨ret_bool HF.out.symm, below_step HB2.out hb3 HB2.out.size⟩
    · rw [hm] at HMY
      have HF := Lib.hid (show allowR r s = (decide (r.length = 0) || r.any (rowAll (verOf s))) by unfold allowR allowsB; rw [hm, HO.out, Bool.true_and, Bool.true_and])
      have HMA := Lib.hid (may_all r hm)
      clear hm
      go_wp2_with (go_at_call 85; refine HMY.out.mono ?_; rintro e w3 ⟨rfl, hb3⟩)
      have HB3 := Lib.hid (below_step HB2.out hb3 HB2.out.size)
      have HG3 := Lib.hid ((hb3.block w1.heap.size (block_lt HG2.out)).trans HG2.out)
      have HX3 := Lib.hid ((HX.out.below hb3).more hb3.size)
      clear hb3 HMY HX HG2 HB2
      go_loopw [7] (fun i wr => ∃ (k : Nat), k ≤ r.length ∧ i = .int .i64 (k : Int) ∧ Hid ((r.take k).any (rowAll (verOf s)) = false) ∧ Hid (Below w3.heap.size w3 wr)) (fun i _ => r.length - (intOf i).toNat)
      case atStart => exact ⟨0, by omega, rfl, Lib.hid rfl, Lib.hid (Below.refl _ _)⟩
      case round =>
        obtain ⟨k, hk, rfl, HANY, HB⟩ := hrel
        by_cases hlt : k < r.length
        · have hltI : (k : Int) < (r.length : Int) := by omega
          have hk0 : (0 : Int) ≤ (k : Int) := by omega
          obtain ⟨ad, u, rfl, hc, hrow⟩ := (HR.out.below (below_step HB3.out HB.out HB3.out.size)).get k hlt
          obtain ⟨row, hrw⟩ : ∃ row, row = r.getD k default := ⟨_, rfl⟩
          rw [← hrw] at hrow
          have HRK := Lib.hid (show r[k]? = some row by rw [hrw]; exact getD_get r k _ hlt)
          have HSR := Lib.hid (show ∀ b ∈ row, b.2.size ≤ 1000000 from HSZ.out row (List.mem_of_getElem? HRK.out))
          have HMR := Lib.hid (show ∀ b ∈ row, mayB b = true from HMA.out row (List.mem_of_getElem? HRK.out))
          obtain ⟨A2, cap2, rfl, hcl2, hcm2⟩ := RdS.form hrow
          have HROW := Lib.hid hrow
          clear hrow hrw
          unfold maxLen at hcm2
          obtain ⟨wo, hwo⟩ : ∃ wo : World, wo = wr := ⟨_, rfl⟩
          rw [← hwo] at HB hc HROW ⊢
          clear hwo wr
          have HC := Lib.hid hc
          clear hc
          go_wp2
          go_loopw [8, 9] (fun f j wq => ∃ (m : Nat) (fl : Bool), m ≤ row.length ∧ f = .bool fl ∧ j = .int .i64 (m : Int) ∧ Hid (fl = !(row.take m).any (bars (verOf s))) ∧ Hid (Below wo.heap.size wo wq)) (fun _ j _ => row.length - (intOf j).toNat)
          case atStart => exact ⟨0, true, by omega, rfl, rfl, Lib.hid rfl, Lib.hid (Below.refl _ _)⟩
          case round =>
            obtain ⟨m, fl, hm, rfl, rfl, HFL, HBI⟩ := hrel
            have hbl0 := block_lt_of_cell (show wo.cell? ⟨(ad.add k).block, (ad.add k).off, (ad.add k).3⟩ = _ from HC.out)
            have hc : wr.cell? (ad.add k) = some (.slice A2 row.length cap2) := (HBI.out.cell hbl0).trans HC.out
            have hbl := block_lt_of_cell (show wr.cell? ⟨(ad.add k).block, (ad.add k).off, (ad.add k).3⟩ = _ from hc)
            clear hbl0
            by_cases hmt : m < row.length
            · have hmtI : (m : Int) < (row.length : Int) := by omega
              have hm0 : (0 : Int) ≤ (m : Int) := by omega
              have HST := Lib.hid (fun x (hx : row[m]? = some x) => any_step (bars (verOf s)) row m x hx)
              obtain ⟨ad2, rfl, hbc⟩ := BRow.get (RdS.below HROW.out HBI.out) m hmt
              cases fl
              · have HN := Lib.hid (show false = !(row.take (m + 1)).any (bars (verOf s)) by
                  rw [HST.out _ (getD_get row m default hmt), show (row.take m).any (bars (verOf s)) = true by have := HFL.out; revert this; cases (row.take m).any (bars (verOf s)) <;> simp]; rfl)
                clear hbc
                go_wp2
                go_quiet (fail)
                go_wp2
                go_roundw
                case rel => exact ⟨m + 1, false, by omega, rfl, by go_num, HN, Lib.hid (below_drewN HBI.out _)⟩
                case measure => simp [intOf]; omega
              · obtain ⟨b, hbb⟩ : ∃ b, b = row.getD m default := ⟨_, rfl⟩
                rw [← hbb] at hbc
                have HBK := Lib.hid (show row[m]? = some b by rw [hbb]; exact getD_get row m _ hmt)
                have hvz : b.2.size ≤ 1000000 := HSR.out b (List.mem_of_getElem? HBK.out)
                have hmb := HMR.out b (List.mem_of_getElem? HBK.out)
                clear hbb
                have hz3 : w3.heap.size ≤ wr.heap.size := Nat.le_trans HB.out.size HBI.out.size
                have hbw3 := below_step HB.out HBI.out HB.out.size
                have hg1 := (hbw3.block w1.heap.size (block_lt HG3.out)).trans HG3.out
                obtain ⟨hv0, hv1, _, _⟩ := cell_two hg1
                have hlv := block_lt hg1
                have hX := (HX3.out.below hbw3).more hbw3.size
                have hal : ∀ w', KeepW wr wr.heap.size w' → Calls Tryz.prog 86 #[.agg #[.int .u8 (b.1 : Int), .string b.2], .agg #[.slice A' n' cap', .string t]] w' fun e w2 => e = .returned (.bool (opV b.1 (verOf s) (verOf b.2))) ∧ KeepW wr wr.heap.size w2 := fun w' hk => by
                  have hw := hk.2
                  have hc := refallow_any b _ (verOf s).1 t w' hmb hvz ((hX.below hk.1).more hk.2) (by omega)
                  rw [HT.out] at hc
                  exact hk.calls hc
                obtain ⟨ok, hok⟩ : ∃ ok, ok = opV b.1 (verOf s) (verOf b.2) := ⟨_, rfl⟩
                rw [← hok] at hal
                have HN := Lib.hid (show ok = !(row.take (m + 1)).any (bars (verOf s)) by
                  rw [HST.out _ HBK.out, show (row.take m).any (bars (verOf s)) = false by have := HFL.out; revert this; cases (row.take m).any (bars (verOf s)) <;> simp]
                  unfold bars
                  rw [Bool.false_or, Bool.not_not, hok])
                obtain ⟨o, tx⟩ := b
                dsimp only at hal hvz
                have hb0 : wr.cell? (ad2.add (m * 2)) = some (.int .u8 (o : Int)) := by have := hbc 0 _ rfl; simpa [add_add] using this
                have hb1 : wr.cell? ⟨(ad2.add (m * 2)).block, (ad2.add (m * 2)).off + 1, none⟩ = some (.string tx) := hbc 1 _ rfl
                have hbl2 := block_lt_of_cell (show wr.cell? ⟨(ad2.add (m * 2)).block, (ad2.add (m * 2)).off, (ad2.add (m * 2)).3⟩ = _ from hb0)
                have HAL := Lib.hid hal
                have hkk : ∀ w', KeepW wr wr.heap.size w' → (w'.cell? (ad.add k) = some (.slice (some ad2) row.length cap2) ∧ w'.cell? (ad2.add (m * 2)) = some (.int .u8 (o : Int)) ∧ w'.cell? ⟨(ad2.add (m * 2)).block, (ad2.add (m * 2)).off + 1, none⟩ = some (.string tx) ∧ w'.cell? ⟨w1.heap.size, 0, none⟩ = some (.slice A' n' cap') ∧ w'.cell? ⟨w1.heap.size, 1, none⟩ = some (.string t)) ∧ KeepW wr wr.heap.size w' := fun w' h =>
                  ⟨⟨(h.1.cell hbl).trans hc, (h.1.cell hbl2).trans hb0, (h.1.cell (p := ⟨(ad2.add (m * 2)).block, (ad2.add (m * 2)).off + 1, none⟩) hbl2).trans hb1, (h.1.cell (p := ⟨w1.heap.size, 0, none⟩) hlv).trans hv0, (h.1.cell (p := ⟨w1.heap.size, 1, none⟩) hlv).trans hv1⟩, h⟩
                have HKK := Lib.hid hkk
                have hk0' : KeepW wr wr.heap.size wr := KeepW.start (Nat.le_refl _)
                clear hkk hal hX hbw3 hg1 hbc hmb hok hlv hbl2 hbl
                go_wp2
                go_region_held3 (fun w' => (w'.cell? (ad.add k) = some (.slice (some ad2) row.length cap2) ∧ w'.cell? (ad2.add (m * 2)) = some (.int .u8 (o : Int)) ∧ w'.cell? ⟨(ad2.add (m * 2)).block, (ad2.add (m * 2)).off + 1, none⟩ = some (.string tx) ∧ w'.cell? ⟨w1.heap.size, 0, none⟩ = some (.slice A' n' cap') ∧ w'.cell? ⟨w1.heap.size, 1, none⟩ = some (.string t)) ∧ KeepW wr wr.heap.size w') (first | exact HKK.out _ (by assumption) | exact HKK.out _ (KeepW.drew (by assumption)) | go_keep) (first | (go_at_call 86; refine (HAL.out _ (by first | assumption | exact KeepW.drew (by assumption))).mono ?_; rintro e w4 ⟨rfl, hk4⟩))
                all_goals
                  have HB4 := Lib.hid (below_step HBI.out hk4.1 HBI.out.size)
                  go_wp2_with fail
                  go_roundw
                  case rel => exact ⟨m + 1, ok, by omega, rfl, by go_num, HN, HB4⟩
                  case measure => simp [intOf]; omega
            · have hmtI : ¬ (m : Int) < (row.length : Int) := by omega
              have HRA := Lib.hid (show fl = rowAll (verOf s) row by
                have := HFL.out
                rw [show m = row.length by omega, List.take_length] at this
                exact this)
              have HBX := Lib.hid (below_step HB.out HBI.out HB.out.size)
              cases fl
              · have HN := Lib.hid (any_next (rowAll (verOf s)) r k row HRK.out HANY.out HRA.out.symm)
                go_wp2
                go_roundw
                case rel => exact ⟨k + 1, by omega, by go_num, HN, HBX⟩
                case measure => simp [intOf]; omega
              · have HN := Lib.hid (show allowR r s = true by rw [HF.out, any_hit (rowAll (verOf s)) r k row HRK.out HRA.out.symm, Bool.or_true])
                go_wp2
                go_ret
                exact ⟨ret_bool HN.out.symm, below_step HB3.out HBX.out HB3.out.size⟩
        · have hke : k = r.length := by omega
          subst hke
          have hltI : ¬ (r.length : Int) < (r.length : Int) := by omega
          have HN := Lib.hid (show allowR r s = ((r.length : Int) == 0) by
            have := HANY.out
            rw [List.take_length] at this
            rw [HF.out, this, Bool.or_false, Bool.eq_iff_iff]
            simp)
          go_wp2
          go_ret
          exact ⟨ret_bool HN.out.symm, below_step HB3.out HB.out HB3.out.size⟩
end Go.Proofs.YtcnedecmmplmoaaGreatDoor
