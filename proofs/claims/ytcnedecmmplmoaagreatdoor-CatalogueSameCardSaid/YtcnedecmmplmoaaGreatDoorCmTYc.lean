/- catalogue: the reference's Same; CatalogueSame walked. -/
import Derived.Test.YtcnedecmmplmoaaGreatDoorCmTYpa
import Derived.Test.YtcnedecmmplmoaaGreatDoorCmTYpb
import Derived.Test.YtcnedecmmplmoaaGreatDoorCmTYpc
import Derived.Test.YtcnedecmmplmoaaGreatDoorCmTYpd
import Derived.Test.YtcnedecmmplmoaaGreatDoorCmTYpe
import Derived.Test.YtcnedecmmplmoaaGreatDoorCmTYpf
set_option linter.unusedVariables false
set_option linter.unusedSimpArgs false
namespace Go.Proofs.YtcnedecmmplmoaaGreatDoor
open Go Go.RowKit Go.BigFrame
open Ver (cmpV BL parts brk)

set_option maxRecDepth 100000 in
set_option maxHeartbeats 8000000 in
theorem refSame_any (a b : Value) (l m : List Va) (w : World) (ha : VasAt w a l) (hb : VasAt w b m) :
    Calls Tryz.prog 18 #[a, b] w fun e w' => e = .returned (.bool (decide (l = m))) ∧ ∃ nq, w' = w.drewN nq := by
  obtain ⟨A, ca, rfl, hla, hma⟩ := OutM.form ha
  obtain ⟨A', cb, rfl, hlb, hmb⟩ := OutM.form hb
  unfold maxLen at hma hmb
  have HA := Lib.hid ha
  have HB := Lib.hid hb
  clear ha hb
  by_cases hl : l.length = m.length
  · have HL := Lib.hid hl
    have hbn : ((l.length : Int) != (m.length : Int)) = false := by rw [hl]; simp
    have hl1 : l.length ≤ m.length := by omega
    clear hl
    go_enter Tryz.func18, Tryz.ntmps18
    go_wp2
    go_loopw [5] (fun i wr => ∃ (k nq : Nat), k ≤ l.length ∧ i = .int .i64 k ∧ Hid (wr = w.drewN nq) ∧ Hid (∀ j, j < k → l.getD j default = m.getD j default)) (fun i _ => l.length - (intOf i).toNat)
    case atStart => exact ⟨0, 0, by omega, rfl, Lib.hid rfl, Lib.hid fun j h => absurd h (Nat.not_lt_zero j)⟩
    case round =>
      obtain ⟨k, nq, hk, rfl, HW, HS⟩ := hrel
      by_cases hlt : k < l.length
      · have hbw : Below w.heap.size w wr := by rw [HW.out]; exact below_drewN (Below.refl _ _) _
        obtain ⟨ad, An, cn, Ac, cc, rfl, _, g0, g1, g2, g3, g4, hn, hc⟩ := VasAt.get (VasAt.below HA.out hbw) k hlt
        obtain ⟨ad', Bn, dn, Bc, dc, rfl, _, f0, f1, f2, f3, f4, hn', hc'⟩ := VasAt.get (VasAt.below HB.out hbw) k (by omega)
        obtain ⟨x, hx⟩ : ∃ x, x = l.getD k default := ⟨_, rfl⟩
        obtain ⟨y, hy⟩ : ∃ y, y = m.getD k default := ⟨_, rfl⟩
        rw [← hx] at g0 g1 g2 g3 g4 hn hc
        rw [← hy] at f0 f1 f2 f3 f4 hn' hc'
        have HXY := Lib.hid (fun (h : x ≠ y) => (show decide (l = m) = false from decide_eq_false (list_ne l m default k (by rw [← hx, ← hy]; exact h))))
        have HS' := Lib.hid (fun (h : x = y) => (show ∀ j, j < k + 1 → l.getD j default = m.getD j default from fun j hj => by
          rcases Nat.lt_or_ge j k with h' | h'
          · exact HS.out j h'
          · obtain rfl : j = k := by omega
            rw [← hx, ← hy]; exact h))
        have HN1 := Lib.hid (fun w' (h : ∃ n, w' = wr.drewN n) => (show Calls Tryz.prog 27 #[.slice An x.needs.length cn, .slice Bn y.needs.length dn] w' fun e w'' => e = .returned (.bool (decide (x.needs = y.needs))) ∧ ∃ n, w'' = wr.drewN n from by
          obtain ⟨n, rfl⟩ := h
          refine (refSameN_any _ _ _ _ (wr.drewN n) (NdsAt.drewN hn rfl) (NdsAt.drewN hn' rfl)).mono ?_
          rintro e w'' ⟨he, n2, rfl⟩
          exact ⟨he, _, World.drewN_drewN _ _ _⟩))
        have HC1 := Lib.hid (fun w' (h : ∃ n, w' = wr.drewN n) => (show Calls Tryz.prog 27 #[.slice Ac x.confs.length cc, .slice Bc y.confs.length dc] w' fun e w'' => e = .returned (.bool (decide (x.confs = y.confs))) ∧ ∃ n, w'' = wr.drewN n from by
          obtain ⟨n, rfl⟩ := h
          refine (refSameN_any _ _ _ _ (wr.drewN n) (NdsAt.drewN hc rfl) (NdsAt.drewN hc' rfl)).mono ?_
          rintro e w'' ⟨he, n2, rfl⟩
          exact ⟨he, _, World.drewN_drewN _ _ _⟩))
        have HKK := Lib.hid (fun w' (h : ∃ n, w' = wr.drewN n) => (show Cells18 ad ad' k x y An Ac Bn Bc cn cc dn dc w' from by
          obtain ⟨n, rfl⟩ := h
          exact ⟨⟨(cell_drew rfl _).trans g0, (cell_drew rfl _).trans g1, (cell_drew rfl _).trans g2, (cell_drew rfl _).trans g3, (cell_drew rfl _).trans g4⟩, (cell_drew rfl _).trans f0, (cell_drew rfl _).trans f1, (cell_drew rfl _).trans f2, (cell_drew rfl _).trans f3, (cell_drew rfl _).trans f4⟩))
        clear g0 g1 g2 g3 g4 f0 f1 f2 f3 f4
        clear hx hy hn hc hn' hc' hbw
        have hi1 : (k : Int) < (l.length : Int) := by omega
        have hi2 : (k : Int) < (m.length : Int) := by omega
        have hi0 : (0 : Int) ≤ (k : Int) := by omega
        by_cases k1 : x.name = y.name
        · have s1 : (x.name.toList == y.name.toList) = true := by rw [k1]; simp
          have n1 : (!(x.name.toList == y.name.toList)) = false := by rw [s1]; rfl
          by_cases k2 : x.ver = y.ver
          · have s2 : (x.ver.toList == y.ver.toList) = true := by rw [k2]; simp
            have n2 : (!(x.ver.toList == y.ver.toList)) = false := by rw [s2]; rfl
            by_cases k3 : x.recipe = y.recipe
            · have s3 : (x.recipe.toList == y.recipe.toList) = true := by rw [k3]; simp
              have n3 : (!(x.recipe.toList == y.recipe.toList)) = false := by rw [s3]; rfl
              by_cases k4 : x.needs = y.needs
              · rw [decide_eq_true k4] at HN1
                by_cases k5 : x.confs = y.confs
                · have HN := Lib.hid (HS'.out (va_ext k1 k2 k3 k4 k5))
                  rw [decide_eq_true k5] at HC1
                  clear k1 k2 k3 k4 k5 HXY HS'
                  go_wp2
                  refine region_as (ops' := ops18) (by kernel_rfl) ?_
                  refine way18_0 _ wr ad ad' k l m ca cb x y An Ac Bn Bc cn cc dn dc _ _ _ _ _ _ _ _ _ _ _ _ _ _ _ _ _ _ _ _ _ _ _ _ _ _ _ _ _ _ _ _ _ _ _ _ _ _ _ _ _ _ _ _ _ _ _ _ _ _ _ _ _ _ _ _ _ _ _ _ _ _ _ _ _ _ _ _ _ _ _ _ _ _ _ _ _ _ _ hi1 hi2 hi0 hla hlb HKK.out n1 n2 n3 HN1.out HC1.out (fun _ _ _ _ _ h => h) ?_
                  rintro w' ⟨nz, rfl⟩
                  go_wp2
                  go_roundw
                  case rel => exact ⟨k + 1, _, by omega, by go_num, Lib.hid (by rw [HW.out]; exact World.drewN_drewN _ _ _), HN⟩
                  case measure => simp [intOf]; omega
                · have HF := Lib.hid (HXY.out fun e => k5 (by rw [e]))
                  rw [decide_eq_false k5] at HC1
                  clear k1 k2 k3 k4 k5 HXY HS'
                  go_wp2
                  refine region_as (ops' := ops18) (by kernel_rfl) ?_
                  refine way18_5 _ wr ad ad' k l m ca cb x y An Ac Bn Bc cn cc dn dc _ _ _ _ _ _ _ _ _ _ _ _ _ _ _ _ _ _ _ _ _ _ _ _ _ _ _ _ _ _ _ _ _ _ _ _ _ _ _ _ _ _ _ _ _ _ _ _ _ _ _ _ _ _ _ _ _ _ _ _ _ _ _ _ _ _ _ _ _ _ _ _ _ _ _ _ _ _ _ hi1 hi2 hi0 hla hlb HKK.out n1 n2 n3 HN1.out HC1.out (fun _ _ _ _ _ h => h) ?_
                  rintro w' ⟨nz, rfl⟩
                  go_wp2
                  go_ret
                  exact ⟨ret_bool HF.out.symm, _, by rw [HW.out]; exact World.drewN_drewN _ _ _⟩
              · have HF := Lib.hid (HXY.out fun e => k4 (by rw [e]))
                rw [decide_eq_false k4] at HN1
                clear k1 k2 k3 k4 HXY HS'
                go_wp2
                refine region_as (ops' := ops18) (by kernel_rfl) ?_
                refine way18_4 _ wr ad ad' k l m ca cb x y An Ac Bn Bc cn cc dn dc _ _ _ _ _ _ _ _ _ _ _ _ _ _ _ _ _ _ _ _ _ _ _ _ _ _ _ _ _ _ _ _ _ _ _ _ _ _ _ _ _ _ _ _ _ _ _ _ _ _ _ _ _ _ _ _ _ _ _ _ _ _ _ _ _ _ _ _ _ _ _ _ _ _ _ _ _ _ _ hi1 hi2 hi0 hla hlb HKK.out n1 n2 n3 HN1.out (fun _ _ _ _ _ h => h) ?_
                rintro w' ⟨nz, rfl⟩
                go_wp2
                go_ret
                exact ⟨ret_bool HF.out.symm, _, by rw [HW.out]; exact World.drewN_drewN _ _ _⟩
            · have s3 : (x.recipe.toList == y.recipe.toList) = false := by rw [str_ne_iff, decide_eq_false k3]
              have n3 : (!(x.recipe.toList == y.recipe.toList)) = true := by rw [s3]; rfl
              have HF := Lib.hid (HXY.out fun e => k3 (by rw [e]))
              clear k1 k2 k3 HXY HS'
              go_wp2
              refine region_as (ops' := ops18) (by kernel_rfl) ?_
              refine way18_3 _ wr ad ad' k l m ca cb x y An Ac Bn Bc cn cc dn dc _ _ _ _ _ _ _ _ _ _ _ _ _ _ _ _ _ _ _ _ _ _ _ _ _ _ _ _ _ _ _ _ _ _ _ _ _ _ _ _ _ _ _ _ _ _ _ _ _ _ _ _ _ _ _ _ _ _ _ _ _ _ _ _ _ _ _ _ _ _ _ _ _ _ _ _ _ _ _ hi1 hi2 hi0 hla hlb HKK.out n1 n2 n3 (fun _ _ _ _ _ h => h) ?_
              rintro w' ⟨nz, rfl⟩
              go_wp2
              go_ret
              exact ⟨ret_bool HF.out.symm, _, by rw [HW.out]; exact World.drewN_drewN _ _ _⟩
          · have s2 : (x.ver.toList == y.ver.toList) = false := by rw [str_ne_iff, decide_eq_false k2]
            have n2 : (!(x.ver.toList == y.ver.toList)) = true := by rw [s2]; rfl
            have HF := Lib.hid (HXY.out fun e => k2 (by rw [e]))
            clear k1 k2 HXY HS'
            go_wp2
            refine region_as (ops' := ops18) (by kernel_rfl) ?_
            refine way18_2 _ wr ad ad' k l m ca cb x y An Ac Bn Bc cn cc dn dc _ _ _ _ _ _ _ _ _ _ _ _ _ _ _ _ _ _ _ _ _ _ _ _ _ _ _ _ _ _ _ _ _ _ _ _ _ _ _ _ _ _ _ _ _ _ _ _ _ _ _ _ _ _ _ _ _ _ _ _ _ _ _ _ _ _ _ _ _ _ _ _ _ _ _ _ _ _ _ hi1 hi2 hi0 hla hlb HKK.out n1 n2 (fun _ _ _ _ _ h => h) ?_
            rintro w' ⟨nz, rfl⟩
            go_wp2
            go_ret
            exact ⟨ret_bool HF.out.symm, _, by rw [HW.out]; exact World.drewN_drewN _ _ _⟩
        · have s1 : (x.name.toList == y.name.toList) = false := by rw [str_ne_iff, decide_eq_false k1]
          have n1 : (!(x.name.toList == y.name.toList)) = true := by rw [s1]; rfl
          have HF := Lib.hid (HXY.out fun e => k1 (by rw [e]))
          clear k1 HXY HS'
          go_wp2
          refine region_as (ops' := ops18) (by kernel_rfl) ?_
          refine way18_1 _ wr ad ad' k l m ca cb x y An Ac Bn Bc cn cc dn dc _ _ _ _ _ _ _ _ _ _ _ _ _ _ _ _ _ _ _ _ _ _ _ _ _ _ _ _ _ _ _ _ _ _ _ _ _ _ _ _ _ _ _ _ _ _ _ _ _ _ _ _ _ _ _ _ _ _ _ _ _ _ _ _ _ _ _ _ _ _ _ _ _ _ _ _ _ _ _ hi1 hi2 hi0 hla hlb HKK.out n1 (fun _ _ _ _ _ h => h) ?_
          rintro w' ⟨nz, rfl⟩
          go_wp2
          go_ret
          exact ⟨ret_bool HF.out.symm, _, by rw [HW.out]; exact World.drewN_drewN _ _ _⟩
      · have hi1 : ¬ (k : Int) < (l.length : Int) := by omega
        have HF := Lib.hid (show decide (l = m) = true from decide_eq_true (list_eq l m default HL.out fun j hj => HS.out j (by omega)))
        go_wp2
        go_ret
        exact ⟨ret_bool HF.out.symm, _, HW.out⟩
  · have hbn : ((l.length : Int) != (m.length : Int)) = true := by rw [bne_iff_ne]; omega
    have HF := Lib.hid (show decide (l = m) = false by rw [decide_eq_false_iff_not]; exact fun e => hl (by rw [e]))
    go_enter Tryz.func18, Tryz.ntmps18
    go_wp2
    go_ret
    exact ⟨ret_bool HF.out.symm, 0, rfl⟩
theorem refSame_is (a b : Value) (l m : List Va) (w : World) (ha : VasAt w a l) (hb : VasAt w b m) :
    Calls Tryz.prog 18 #[a, b] w fun e w' => e = .returned (.bool (decide (l = m))) ∧ Below w.heap.size w w' := by
  refine (refSame_any a b l m w ha hb).mono ?_
  rintro e w' ⟨rfl, n, rfl⟩
  exact ⟨rfl, below_drewN (Below.refl _ _) n⟩
theorem same_self (a : Value) (l : List Va) (w : World) (ha : VasAt w a l) :
    Calls Tryz.prog 19 #[a, a] w fun e w' => e = .returned (.bool true) ∧ Below w.heap.size w w' := by
  have h := same_any a a l l w ha ha
  rwa [decide_eq_true (rfl : l = l)] at h
theorem works_go (w w1 : World) (h : Below w.heap.size w w1) : Calls Tryz.prog 11 #[] w1 fun e w' => e = .returned (.bool true) ∧ Below w.heap.size w w' :=
  (works_any w1).mono fun _ _ h2 => ⟨h2.1, below_step h h2.2 h.size⟩
set_option maxRecDepth 100000 in
set_option maxHeartbeats 2000000 in
theorem catalogueSame_walk (v : Value) (l : List Va) (u : Value) (m : List Va) (w : World) (_ : True) (hl : VasAt w v l) (hm : VasAt w u m) : Calls Tryz.prog 7 #[v, u] w fun e w' => e = .returned (.bool true) ∧ Below w.heap.size w w' := by
  obtain ⟨A, c, rfl, hlc, hcm⟩ := OutM.form hl
  obtain ⟨A2, c2, rfl, hlc2, hcm2⟩ := OutM.form hm
  have HL := Lib.hid hl
  have HM := Lib.hid hm
  obtain ⟨ok, hok⟩ : ∃ ok, ok = decide (l = m) := ⟨_, rfl⟩
  have HS1 := Lib.hid (fun w' (hb : Below w.heap.size w w') => same_any _ _ _ _ w' (VasAt.below hl hb) (VasAt.below hm hb))
  have HS2 := Lib.hid (fun w' (hb : Below w.heap.size w w') => refSame_is _ _ _ _ w' (VasAt.below hl hb) (VasAt.below hm hb))
  rw [← hok] at HS1 HS2
  clear hl hm hok
  go_enter Tryz.func7, Tryz.ntmps7
  go_wp2_with fail
  refine (smallL_any _ _ _ HL.out).mono ?_
  rintro e w1 ⟨b, rfl, hsm, hb1⟩
  clear hsm
  cases b with
  | false =>
    go_wp2_with fail
    refine (works_go w _ hb1).mono ?_
    rintro e w4 ⟨rfl, hb4⟩
    go_wp2
    go_ret
    exact ⟨rfl, hb4⟩
  | true =>
    go_wp2_with fail
    refine (smallL_any _ _ _ (VasAt.below HM.out hb1)).mono ?_
    rintro e w2 ⟨b, rfl, hsm, hb2⟩
    clear hsm
    replace hb2 := below_step hb1 hb2 hb1.size
    clear hb1
    cases b with
    | false =>
      go_wp2_with fail
      refine (works_go w _ hb2).mono ?_
      rintro e w4 ⟨rfl, hb4⟩
      go_wp2
      go_ret
      exact ⟨rfl, hb4⟩
    | true =>
      go_wp2_with fail
      refine (HS1.out _ hb2).mono ?_
      rintro e w3 ⟨rfl, hb3⟩
      replace hb3 := below_step hb2 hb3 hb2.size
      clear hb2
      go_wp2_with fail
      refine (HS2.out _ hb3).mono ?_
      rintro e w4 ⟨rfl, hb4⟩
      replace hb4 := below_step hb3 hb4 hb3.size
      clear hb3
      cases ok
      all_goals
        go_wp2_with fail
        refine (same_self _ _ _ (VasAt.below HL.out hb4)).mono ?_
        rintro e w5 ⟨rfl, hb5⟩
        replace hb5 := below_step hb4 hb5 hb4.size
        clear hb4
        go_wp2_with fail
        refine (works_go w _ hb5).mono ?_
        rintro e w6 ⟨rfl, hb6⟩
        go_wp2
        go_ret
        exact ⟨rfl, hb6⟩
end Go.Proofs.YtcnedecmmplmoaaGreatDoor
