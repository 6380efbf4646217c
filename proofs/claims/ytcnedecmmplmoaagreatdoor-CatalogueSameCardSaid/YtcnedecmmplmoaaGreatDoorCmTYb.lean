/- catalogue: Same. -/
import Derived.Test.YtcnedecmmplmoaaGreatDoorCmTYa
set_option linter.unusedVariables false
set_option linter.unusedSimpArgs false
namespace Go.Proofs.YtcnedecmmplmoaaGreatDoor
open Go Go.RowKit Go.BigFrame
open Ver (cmpV BL parts brk)

theorem va_ext {x y : Va} (h1 : x.name = y.name) (h2 : x.ver = y.ver) (h3 : x.recipe = y.recipe) (h4 : x.needs = y.needs) (h5 : x.confs = y.confs) : x = y := by cases x; cases y; simp_all
set_option maxRecDepth 100000 in
set_option maxHeartbeats 2000000 in
theorem vaEq_any (x y : Va) (An Ac Bn Bc : Option Addr) (cn cc dn dc : Nat) (w : World) (hn : NdsAt w (.slice An x.needs.length cn) x.needs) (hc : NdsAt w (.slice Ac x.confs.length cc) x.confs) (hn' : NdsAt w (.slice Bn y.needs.length dn) y.needs) (hc' : NdsAt w (.slice Bc y.confs.length dc) y.confs) :
    Calls Tryz.prog 45 #[.agg #[.string x.name, .string x.ver, .slice An x.needs.length cn, .slice Ac x.confs.length cc, .string x.recipe], .agg #[.string y.name, .string y.ver, .slice Bn y.needs.length dn, .slice Bc y.confs.length dc, .string y.recipe]] w fun e w' => e = .returned (.bool (decide (x = y))) ∧ Below w.heap.size w w' := by
  obtain ⟨W, hW, g0, g1, hb, _⟩ := two_rows w w (.cells #[.string x.name, .string x.ver, .slice An x.needs.length cn, .slice Ac x.confs.length cc, .string x.recipe] 53) (.cells #[.string y.name, .string y.ver, .slice Bn y.needs.length dn, .slice Bc y.confs.length dc, .string y.recipe] 53) (Below.refl _ _)
  have e0 : W.cell? ⟨w.heap.size, 0, none⟩ = some (.string x.name) := by rw [cell_of_row _ _ _ _ _ _ g0]; rfl
  have e1 : W.cell? ⟨w.heap.size, 1, none⟩ = some (.string x.ver) := by rw [cell_of_row _ _ _ _ _ _ g0]; rfl
  have e2 : W.cell? ⟨w.heap.size, 2, none⟩ = some (.slice An x.needs.length cn) := by rw [cell_of_row _ _ _ _ _ _ g0]; rfl
  have e3 : W.cell? ⟨w.heap.size, 3, none⟩ = some (.slice Ac x.confs.length cc) := by rw [cell_of_row _ _ _ _ _ _ g0]; rfl
  have e4 : W.cell? ⟨w.heap.size, 4, none⟩ = some (.string x.recipe) := by rw [cell_of_row _ _ _ _ _ _ g0]; rfl
  have f0 : W.cell? ⟨w.heap.size + 1, 0, none⟩ = some (.string y.name) := by rw [cell_of_row _ _ _ _ _ _ g1]; rfl
  have f1 : W.cell? ⟨w.heap.size + 1, 1, none⟩ = some (.string y.ver) := by rw [cell_of_row _ _ _ _ _ _ g1]; rfl
  have f2 : W.cell? ⟨w.heap.size + 1, 2, none⟩ = some (.slice Bn y.needs.length dn) := by rw [cell_of_row _ _ _ _ _ _ g1]; rfl
  have f3 : W.cell? ⟨w.heap.size + 1, 3, none⟩ = some (.slice Bc y.confs.length dc) := by rw [cell_of_row _ _ _ _ _ _ g1]; rfl
  have f4 : W.cell? ⟨w.heap.size + 1, 4, none⟩ = some (.string y.recipe) := by rw [cell_of_row _ _ _ _ _ _ g1]; rfl
  have G0 := Lib.hid g0
  have G1 := Lib.hid g1
  have HB := Lib.hid hb
  have HE1 := Lib.hid (sameNeeds_any _ _ _ _ W (NdsAt.below hn hb) (NdsAt.below hn' hb))
  have HE2 := Lib.hid (fun W2 (h2 : Below W.heap.size W W2) => sameNeeds_any _ _ _ _ W2 (NdsAt.below (NdsAt.below hc hb) h2) (NdsAt.below (NdsAt.below hc' hb) h2))
  clear g0 g1 hb hn hc hn' hc'
  by_cases k1 : x.name = y.name
  · have s1 : (x.name.toList == y.name.toList) = true := by rw [k1]; simp
    have n1 : (!(x.name.toList == y.name.toList)) = false := by rw [s1]; rfl
    by_cases k2 : x.ver = y.ver
    · have s2 : (x.ver.toList == y.ver.toList) = true := by rw [k2]; simp
      have n2 : (!(x.ver.toList == y.ver.toList)) = false := by rw [s2]; rfl
      by_cases k3 : x.recipe = y.recipe
      · have s3 : (x.recipe.toList == y.recipe.toList) = true := by rw [k3]; simp
        have n3 : (!(x.recipe.toList == y.recipe.toList)) = false := by rw [s3]; rfl
        by_cases k4 : x.needs = y.needs
        · have HF := Lib.hid (show decide (x = y) = decide (x.confs = y.confs) by
            rw [decide_eq_decide]; exact ⟨fun e => by rw [e], fun e => va_ext k1 k2 k3 k4 e⟩)
          rw [decide_eq_true k4] at HE1
          clear k1 k2 k3 k4
          go_enter Tryz.func45, Tryz.ntmps45
          go_upto_region 1 with (fail)
          rw [← hW]
          clear hW
          go_wp2_with fail
          refine HE1.out.mono ?_
          rintro e w2 ⟨rfl, hb2⟩
          have p0 := (hb2.block _ (block_lt G0.out)).trans G0.out
          have p1 := (hb2.block _ (block_lt G1.out)).trans G1.out
          have q0 : w2.cell? ⟨w.heap.size, 3, none⟩ = some (.slice Ac x.confs.length cc) := by rw [cell_of_row _ _ _ _ _ _ p0]; rfl
          have q1 : w2.cell? ⟨w.heap.size + 1, 3, none⟩ = some (.slice Bc y.confs.length dc) := by rw [cell_of_row _ _ _ _ _ _ p1]; rfl
          clear p0 p1
          go_wp2_with fail
          refine (HE2.out _ hb2).mono ?_
          rintro e w3 ⟨rfl, hb3⟩
          go_wp2
          go_ret
          exact ⟨ret_bool HF.out.symm, below_step (below_step HB.out hb2 HB.out.size) hb3 (Nat.le_trans HB.out.size hb2.size)⟩
        · have HF := Lib.hid (show decide (x = y) = false from decide_eq_false fun e => k4 (by rw [e]))
          rw [decide_eq_false k4] at HE1
          clear k1 k2 k3 k4
          go_enter Tryz.func45, Tryz.ntmps45
          go_upto_region 1 with (fail)
          rw [← hW]
          clear hW
          go_wp2_with fail
          refine HE1.out.mono ?_
          rintro e w2 ⟨rfl, hb2⟩
          go_wp2
          go_ret
          exact ⟨ret_bool HF.out.symm, below_step HB.out hb2 HB.out.size⟩
      · have s3 : (x.recipe.toList == y.recipe.toList) = false := by rw [str_ne_iff, decide_eq_false k3]
        have n3 : (!(x.recipe.toList == y.recipe.toList)) = true := by rw [s3]; rfl
        have HF := Lib.hid (show decide (x = y) = false from decide_eq_false fun e => k3 (by rw [e]))
        clear k1 k2 k3
        go_enter Tryz.func45, Tryz.ntmps45
        go_upto_region 1 with (fail)
        rw [← hW]
        clear hW
        go_wp2
        go_ret
        exact ⟨ret_bool HF.out.symm, HB.out⟩
    · have s2 : (x.ver.toList == y.ver.toList) = false := by rw [str_ne_iff, decide_eq_false k2]
      have n2 : (!(x.ver.toList == y.ver.toList)) = true := by rw [s2]; rfl
      have HF := Lib.hid (show decide (x = y) = false from decide_eq_false fun e => k2 (by rw [e]))
      clear k1 k2
      go_enter Tryz.func45, Tryz.ntmps45
      go_upto_region 1 with (fail)
      rw [← hW]
      clear hW
      go_wp2
      go_ret
      exact ⟨ret_bool HF.out.symm, HB.out⟩
  · have s1 : (x.name.toList == y.name.toList) = false := by rw [str_ne_iff, decide_eq_false k1]
    have n1 : (!(x.name.toList == y.name.toList)) = true := by rw [s1]; rfl
    have HF := Lib.hid (show decide (x = y) = false from decide_eq_false fun e => k1 (by rw [e]))
    clear k1
    go_enter Tryz.func45, Tryz.ntmps45
    go_upto_region 1 with (fail)
    rw [← hW]
    clear hW
    go_wp2
    go_ret
    exact ⟨ret_bool HF.out.symm, HB.out⟩
set_option maxRecDepth 100000 in
set_option maxHeartbeats 2000000 in
theorem equalV_any (a b : Value) (l m : List Va) (w : World) (ha : VasAt w a l) (hb : VasAt w b m) :
    Calls Tryz.prog 44 #[a, b, .func (.func 45) #[] #[]] w fun e w' => e = .returned (.bool (decide (l = m))) ∧ Below w.heap.size w w' := by
  obtain ⟨A, ca, rfl, hla, hma⟩ := OutM.form ha
  obtain ⟨A', cb, rfl, hlb, hmb⟩ := OutM.form hb
  unfold maxLen at hma hmb
  have HA := Lib.hid ha
  have HC := Lib.hid hb
  clear ha hb
  by_cases hl : l.length = m.length
  · have HL := Lib.hid hl
    have hbn : ((l.length : Int) != (m.length : Int)) = false := by rw [hl]; simp
    have hl1 : l.length ≤ m.length := by omega
    clear hl
    go_enter Tryz.func44, Tryz.ntmps44
    go_wp2
    go_loopw [17] (fun i wr => ∃ (k : Nat), k ≤ l.length ∧ i = .int .i64 k ∧ Hid (Below w.heap.size w wr) ∧ Hid (∀ j, j < k → l.getD j default = m.getD j default)) (fun i _ => l.length - (intOf i).toNat)
    case atStart => exact ⟨0, by omega, rfl, Lib.hid (Below.refl _ _), Lib.hid fun j h => absurd h (Nat.not_lt_zero j)⟩
    case round =>
      obtain ⟨k, hk, rfl, HB, HS⟩ := hrel
      by_cases hlt : k < l.length
      · obtain ⟨ad, An, cn, Ac, cc, rfl, _, g0, g1, g2, g3, g4, hn, hc⟩ := VasAt.get (VasAt.below HA.out HB.out) k hlt
        obtain ⟨ad', Bn, dn, Bc, dc, rfl, hlow, g0', g1', g2', g3', g4', hn', hc'⟩ := VasAt.get (VasAt.below HC.out HB.out) k (by omega)
        replace hlow := block_lt_of_cell g0'
        obtain ⟨x, hx⟩ : ∃ x, x = l.getD k default := ⟨_, rfl⟩
        obtain ⟨y, hy⟩ : ∃ y, y = m.getD k default := ⟨_, rfl⟩
        rw [← hx] at g0 g1 g2 g3 g4 hn hc
        rw [← hy] at g0' g1' g2' g3' g4' hn' hc'
        have HXY := Lib.hid (fun (h : x ≠ y) => (show decide (l = m) = false from decide_eq_false (list_ne l m default k (by rw [← hx, ← hy]; exact h))))
        have HS' := Lib.hid (fun (h : x = y) => (show ∀ j, j < k + 1 → l.getD j default = m.getD j default from fun j hj => by
          rcases Nat.lt_or_ge j k with h' | h'
          · exact HS.out j h'
          · obtain rfl : j = k := by omega
            rw [← hx, ← hy]; exact h))
        have hi1 : (k : Int) < (l.length : Int) := by omega
        have hi2 : (k : Int) < (m.length : Int) := by omega
        have hi0 : (0 : Int) ≤ (k : Int) := by omega
        obtain ⟨W, hW, f0, f1, hbw, hB2⟩ := two_rows w wr (.cells #[.string x.name, .string x.ver, .slice An x.needs.length cn, .slice Ac x.confs.length cc, .string x.recipe] 53) (.cells #[.string y.name, .string y.ver, .slice Bn y.needs.length dn, .slice Bc y.confs.length dc, .string y.recipe] 53) HB.out
        have e0 : W.cell? ⟨wr.heap.size, 0, none⟩ = some (.string x.name) := by rw [cell_of_row _ _ _ _ _ _ f0]; rfl
        have e1 : W.cell? ⟨wr.heap.size, 1, none⟩ = some (.string x.ver) := by rw [cell_of_row _ _ _ _ _ _ f0]; rfl
        have e2 : W.cell? ⟨wr.heap.size, 2, none⟩ = some (.slice An x.needs.length cn) := by rw [cell_of_row _ _ _ _ _ _ f0]; rfl
        have e3 : W.cell? ⟨wr.heap.size, 3, none⟩ = some (.slice Ac x.confs.length cc) := by rw [cell_of_row _ _ _ _ _ _ f0]; rfl
        have e4 : W.cell? ⟨wr.heap.size, 4, none⟩ = some (.string x.recipe) := by rw [cell_of_row _ _ _ _ _ _ f0]; rfl
        have f_0 : W.cell? ⟨wr.heap.size + 1, 0, none⟩ = some (.string y.name) := by rw [cell_of_row _ _ _ _ _ _ f1]; rfl
        have f_1 : W.cell? ⟨wr.heap.size + 1, 1, none⟩ = some (.string y.ver) := by rw [cell_of_row _ _ _ _ _ _ f1]; rfl
        have f_2 : W.cell? ⟨wr.heap.size + 1, 2, none⟩ = some (.slice Bn y.needs.length dn) := by rw [cell_of_row _ _ _ _ _ _ f1]; rfl
        have f_3 : W.cell? ⟨wr.heap.size + 1, 3, none⟩ = some (.slice Bc y.confs.length dc) := by rw [cell_of_row _ _ _ _ _ _ f1]; rfl
        have f_4 : W.cell? ⟨wr.heap.size + 1, 4, none⟩ = some (.string y.recipe) := by rw [cell_of_row _ _ _ _ _ _ f1]; rfl
        have HE := Lib.hid (vaEq_any x y An Ac Bn Bc cn cc dn dc W (NdsAt.below hn hbw) (NdsAt.below hc hbw) (NdsAt.below hn' hbw) (NdsAt.below hc' hbw))
        have HB2 := Lib.hid hB2
        have hlow := hlow
        clear hx hy f0 f1 hbw hB2
        go_upto_region 6 with (fail)
        obtain ⟨W1, hW1⟩ : ∃ W1, W1 = wr.alloc (.cells #[.string x.name, .string x.ver, .slice An x.needs.length cn, .slice Ac x.confs.length cc, .string x.recipe] 53) := ⟨_, rfl⟩
        have hq1 : Below wr.heap.size wr W1 := by rw [hW1]; exact (Below.refl _ _).alloc (Nat.le_refl _) _
        rw [← hW1] at hW ⊢
        have hz1 : W1.heap.size = wr.heap.size + 1 := by rw [hW1]; simp
        have z0 := (hq1.cell (p := ⟨(ad'.add (k * 5)).block, (ad'.add (k * 5)).off, (ad'.add (k * 5)).3⟩) hlow).trans g0'
        have z1 := (hq1.cell (p := ⟨(ad'.add (k * 5)).block, (ad'.add (k * 5)).off + 1, none⟩) hlow).trans g1'
        have z2 := (hq1.cell (p := ⟨(ad'.add (k * 5)).block, (ad'.add (k * 5)).off + 2, none⟩) hlow).trans g2'
        have z3 := (hq1.cell (p := ⟨(ad'.add (k * 5)).block, (ad'.add (k * 5)).off + 3, none⟩) hlow).trans g3'
        have z4 := (hq1.cell (p := ⟨(ad'.add (k * 5)).block, (ad'.add (k * 5)).off + 4, none⟩) hlow).trans g4'
        clear g0 g1 g2 g3 g4 g0' g1' g2' g3' g4'
        clear hW1
        go_upto_region 7 with (fail)
        rw [← hW]
        clear hW
        go_wp2_with fail
        refine HE.out.mono ?_
        rintro e w2 ⟨rfl, hb2⟩
        have HB3 := Lib.hid (below_step HB2.out hb2 HB2.out.size)
        by_cases hxy : x = y
        · have HN := Lib.hid (HS'.out hxy)
          rw [decide_eq_true hxy]
          clear hxy HXY HS' HE
          go_wp2
          go_roundw
          case rel => exact ⟨k + 1, by omega, by go_num, HB3, HN⟩
          case measure => simp [intOf]; omega
        · have HF := Lib.hid (HXY.out hxy)
          rw [decide_eq_false hxy]
          clear hxy HXY HS' HE
          go_wp2
          go_ret
          exact ⟨ret_bool HF.out.symm, HB3.out⟩
      · have hi1 : ¬ (k : Int) < (l.length : Int) := by omega
        have HF := Lib.hid (show decide (l = m) = true from decide_eq_true (list_eq l m default HL.out fun j hj => HS.out j (by omega)))
        go_wp2
        go_ret
        exact ⟨ret_bool HF.out.symm, HB.out⟩
  · have hbn : ((l.length : Int) != (m.length : Int)) = true := by rw [bne_iff_ne]; omega
    have HF := Lib.hid (show decide (l = m) = false by rw [decide_eq_false_iff_not]; exact fun e => hl (by rw [e]))
    go_enter Tryz.func44, Tryz.ntmps44
    go_wp2
    go_ret
    exact ⟨ret_bool HF.out.symm, Below.refl _ _⟩
theorem same_any (a b : Value) (l m : List Va) (w : World) (ha : VasAt w a l) (hb : VasAt w b m) :
    Calls Tryz.prog 19 #[a, b] w fun e w' => e = .returned (.bool (decide (l = m))) ∧ Below w.heap.size w w' := by
  have HE := Lib.hid (equalV_any a b l m w ha hb)
  clear ha hb
  go_enter Tryz.func19, Tryz.ntmps19
  go_wp2_with fail
  refine HE.out.mono ?_
  rintro e w2 ⟨rfl, hb2⟩
  go_wp2
  go_ret
  exact ⟨rfl, hb2⟩
end Go.Proofs.YtcnedecmmplmoaaGreatDoor
