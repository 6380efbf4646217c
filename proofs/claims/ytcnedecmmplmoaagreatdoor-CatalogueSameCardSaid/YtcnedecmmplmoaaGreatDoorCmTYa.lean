/- catalogue: the package's Same. -/
import Derived.Test.YtcnedecmmplmoaaGreatDoorCm34
import Derived.Test.YtcnedecmmplmoaaGreatDoorCm32
set_option linter.unusedVariables false
set_option linter.unusedSimpArgs false
namespace Go.Proofs.YtcnedecmmplmoaaGreatDoor
open Go Go.RowKit Go.BigFrame
open Ver (cmpV BL parts brk)

instance : DecidableEq Va := fun x y => if h : x.name = y.name ∧ x.ver = y.ver ∧ x.needs = y.needs ∧ x.confs = y.confs ∧ x.recipe = y.recipe then isTrue (by cases x; cases y; simp_all) else isFalse (fun e => h (by subst e; exact ⟨rfl, rfl, rfl, rfl, rfl⟩))
theorem two_rows (w wr : World) (o1 o2 : Obj) (hb : Below w.heap.size w wr) : ∃ W2, W2 = (wr.alloc o1).alloc o2 ∧ W2.heap[wr.heap.size]? = some o1 ∧ W2.heap[wr.heap.size + 1]? = some o2 ∧ Below wr.heap.size wr W2 ∧ Below w.heap.size w W2 := by
  have h1 := heap_alloc_new wr o1
  have h2 := heap_alloc_new (wr.alloc o1) o2
  simp only [World.size_alloc] at h2
  have hb2 : Below wr.heap.size wr ((wr.alloc o1).alloc o2) := ((Below.refl _ _).alloc (Nat.le_refl _) _).alloc (by simp) _
  exact ⟨_, rfl, (old_block _ _ _ (block_lt h1)).trans h1, h2, hb2, below_step hb hb2 hb.size⟩
set_option maxRecDepth 100000 in
set_option maxHeartbeats 2000000 in
theorem equalB_any (a b : Value) (x y : List Bd) (w : World) (ha : BRow w AllB a x) (hb : BRow w AllB b y) :
    Calls Tryz.prog 82 #[a, b] w fun e w' => e = .returned (.bool (decide (x = y))) ∧ ∃ nq, w' = w.drewN nq := by
  obtain ⟨A2, c2, rfl, hl2, hm2⟩ := RdS.form ha
  obtain ⟨A3, c3, rfl, hl3, hm3⟩ := RdS.form hb
  unfold maxLen at hm2 hm3
  have HR1 := Lib.hid ha
  have HR2 := Lib.hid hb
  clear ha hb
  by_cases hll : x.length = y.length
  · have HL := Lib.hid hll
    have hbl : ((x.length : Int) != (y.length : Int)) = false := by rw [hll]; simp
    have hle : x.length ≤ y.length := by omega
    clear hll
    go_enter Tryz.func82, Tryz.ntmps82
    go_wp2
    go_loopw [13] (fun i wq => ∃ (m n2 : Nat), m ≤ x.length ∧ i = .int .i64 m ∧ Hid (wq = w.drewN n2) ∧ Hid (∀ j, j < m → x.getD j default = y.getD j default)) (fun i _ => x.length - (intOf i).toNat)
    case atStart => exact ⟨0, 0, by omega, rfl, Lib.hid rfl, Lib.hid fun j h => absurd h (Nat.not_lt_zero j)⟩
    case round =>
      obtain ⟨m, n2, hm, rfl, HW2, HS2⟩ := hrel
      by_cases hmt : m < x.length
      · obtain ⟨ad2, rfl, hbc⟩ := BRow.get (RdS.drewN HR1.out HW2.out) m hmt
        obtain ⟨ad3, rfl, hbc'⟩ := BRow.get (RdS.drewN HR2.out HW2.out) m (by omega)
        obtain ⟨b1, hb1⟩ : ∃ b1, b1 = x.getD m default := ⟨_, rfl⟩
        obtain ⟨b2, hb2⟩ : ∃ b2, b2 = y.getD m default := ⟨_, rfl⟩
        rw [← hb1] at hbc
        rw [← hb2] at hbc'
        have HNE := Lib.hid (fun (h : b1 ≠ b2) => (show decide (x = y) = false from decide_eq_false (list_ne x y default m (by rw [← hb1, ← hb2]; exact h))))
        have HSS := Lib.hid (fun (h : b1 = b2) => (show ∀ j, j < m + 1 → x.getD j default = y.getD j default from fun j hj => by
          rcases Nat.lt_or_ge j m with h' | h'
          · exact HS2.out j h'
          · obtain rfl : j = m := by omega
            rw [← hb1, ← hb2]; exact h))
        clear hb1 hb2
        obtain ⟨o, tx⟩ := b1
        obtain ⟨o2, tx2⟩ := b2
        have hb0 : wr.cell? (ad2.add (m * 2)) = some (.int .u8 (o : Int)) := by have := hbc 0 _ rfl; simpa [add_add] using this
        have hb1 : wr.cell? ⟨(ad2.add (m * 2)).block, (ad2.add (m * 2)).off + 1, none⟩ = some (.string tx) := hbc 1 _ rfl
        have hb0' : wr.cell? (ad3.add (m * 2)) = some (.int .u8 (o2 : Int)) := by have := hbc' 0 _ rfl; simpa [add_add] using this
        have hb1' : wr.cell? ⟨(ad3.add (m * 2)).block, (ad3.add (m * 2)).off + 1, none⟩ = some (.string tx2) := hbc' 1 _ rfl
        clear hbc hbc'
        have hj1 : (m : Int) < (x.length : Int) := by omega
        have hj2 : (m : Int) < (y.length : Int) := by omega
        have hj0 : (0 : Int) ≤ (m : Int) := by omega
        by_cases hbb : ((o, tx) : Bd) = (o2, tx2)
        · have heq : ∀ wx : World, (Op.equalIn 10000 57 (.agg #[.int .u8 (o : Int), .string tx]) (.agg #[.int .u8 (o2 : Int), .string tx2])).run Tryz.prog wx = .ok true wx := fun wx => by rw [eq_bd, eq_bd_is, decide_eq_true hbb]
          have HN := Lib.hid (HSS.out hbb)
          clear hbb
          go_wp2
          go_quiet (fail)
          go_wp2
          go_roundw
          case rel => exact ⟨m + 1, _, by omega, by go_num, Lib.hid (by rw [HW2.out]; exact World.drewN_drewN _ _ _), HN⟩
          case measure => simp [intOf]; omega
        · have heq : ∀ wx : World, (Op.equalIn 10000 57 (.agg #[.int .u8 (o : Int), .string tx]) (.agg #[.int .u8 (o2 : Int), .string tx2])).run Tryz.prog wx = .ok false wx := fun wx => by rw [eq_bd, eq_bd_is, decide_eq_false hbb]
          have HF := Lib.hid (HNE.out hbb)
          clear hbb
          go_wp2
          go_quiet (fail)
          go_wp2
          go_ret
          exact ⟨ret_bool HF.out.symm, _, by rw [HW2.out]; exact World.drewN_drewN _ _ _⟩
      · have hmtI : ¬ (m : Int) < (x.length : Int) := by omega
        have HF := Lib.hid (show decide (x = y) = true from decide_eq_true (list_eq x y default HL.out fun j hj => HS2.out j (by omega)))
        go_wp2
        go_ret
        exact ⟨ret_bool HF.out.symm, _, HW2.out⟩
  · have hbl : ((x.length : Int) != (y.length : Int)) = true := by rw [bne_iff_ne]; omega
    have HF := Lib.hid (show decide (x = y) = false by rw [decide_eq_false_iff_not]; exact fun e => hll (by rw [e]))
    go_enter Tryz.func82, Tryz.ntmps82
    go_wp2
    go_ret
    exact ⟨ret_bool HF.out.symm, 0, rfl⟩
set_option maxRecDepth 100000 in
set_option maxHeartbeats 2000000 in
theorem equalR_any (a b : Value) (r q : List (List Bd)) (w : World) (ha : RngAt w a r) (hb : RngAt w b q) :
    Calls Tryz.prog 81 #[a, b, .func (.func 82) #[] #[]] w fun e w' => e = .returned (.bool (decide (r = q))) ∧ ∃ nq, w' = w.drewN nq := by
  obtain ⟨A, ca, rfl, hla, hma⟩ := ha.form
  obtain ⟨A', cb, rfl, hlb, hmb⟩ := hb.form
  unfold maxLen at hma hmb
  have HA := Lib.hid ha
  have HB := Lib.hid hb
  clear ha hb
  by_cases hl : r.length = q.length
  · have HL := Lib.hid hl
    have hbn : ((r.length : Int) != (q.length : Int)) = false := by rw [hl]; simp
    have hl1 : r.length ≤ q.length := by omega
    clear hl
    go_enter Tryz.func81, Tryz.ntmps81
    go_wp2
    go_loopw [17] (fun i wr => ∃ (k nq : Nat), k ≤ r.length ∧ i = .int .i64 k ∧ Hid (wr = w.drewN nq) ∧ Hid (∀ j, j < k → r.getD j default = q.getD j default)) (fun i _ => r.length - (intOf i).toNat)
    case atStart => exact ⟨0, 0, by omega, rfl, Lib.hid rfl, Lib.hid fun j h => absurd h (Nat.not_lt_zero j)⟩
    case round =>
      obtain ⟨k, nq, hk, rfl, HW, HS⟩ := hrel
      by_cases hlt : k < r.length
      · obtain ⟨ad, u, rfl, hc, hrow⟩ := (HA.out.drewN HW.out).get k hlt
        obtain ⟨ad', u', rfl, hc', hrow'⟩ := (HB.out.drewN HW.out).get k (by omega)
        obtain ⟨x, hx⟩ : ∃ x, x = r.getD k default := ⟨_, rfl⟩
        obtain ⟨y, hy⟩ : ∃ y, y = q.getD k default := ⟨_, rfl⟩
        rw [← hx] at hrow
        rw [← hy] at hrow'
        have HXY := Lib.hid (fun (h : x ≠ y) => (show decide (r = q) = false from decide_eq_false (list_ne r q default k (by rw [← hx, ← hy]; exact h))))
        have HS' := Lib.hid (fun (h : x = y) => (show ∀ j, j < k + 1 → r.getD j default = q.getD j default from fun j hj => by
          rcases Nat.lt_or_ge j k with h' | h'
          · exact HS.out j h'
          · obtain rfl : j = k := by omega
            rw [← hx, ← hy]; exact h))
        have HE := Lib.hid (equalB_any _ _ _ _ wr hrow hrow')
        clear hrow hrow' hx hy
        have hi1 : (k : Int) < (r.length : Int) := by omega
        have hi2 : (k : Int) < (q.length : Int) := by omega
        have hi0 : (0 : Int) ≤ (k : Int) := by omega
        go_wp2_with fail
        refine HE.out.mono ?_
        rintro e w2 ⟨rfl, n2, rfl⟩
        by_cases hxy : x = y
        · have HN := Lib.hid (HS'.out hxy)
          rw [decide_eq_true hxy]
          clear hxy HXY HS' HE hc hc'
          go_wp2
          go_roundw
          case rel => exact ⟨k + 1, _, by omega, by go_num, Lib.hid (by rw [HW.out]; exact World.drewN_drewN _ _ _), HN⟩
          case measure => simp [intOf]; omega
        · have HF := Lib.hid (HXY.out hxy)
          rw [decide_eq_false hxy]
          clear hxy HXY HS' HE hc hc'
          go_wp2
          go_ret
          exact ⟨ret_bool HF.out.symm, _, by rw [HW.out]; exact World.drewN_drewN _ _ _⟩
      · have hi1 : ¬ (k : Int) < (r.length : Int) := by omega
        have HF := Lib.hid (show decide (r = q) = true from decide_eq_true (list_eq r q default HL.out fun j hj => HS.out j (by omega)))
        go_wp2
        go_ret
        exact ⟨ret_bool HF.out.symm, _, HW.out⟩
  · have hbn : ((r.length : Int) != (q.length : Int)) = true := by rw [bne_iff_ne]; omega
    have HF := Lib.hid (show decide (r = q) = false by rw [decide_eq_false_iff_not]; exact fun e => hl (by rw [e]))
    go_enter Tryz.func81, Tryz.ntmps81
    go_wp2
    go_ret
    exact ⟨ret_bool HF.out.symm, 0, rfl⟩
set_option maxRecDepth 100000 in
set_option maxHeartbeats 2000000 in
theorem ndEq_any (m n : Nde) (u v : Value) (w : World) (hu : RngAt w u m.2) (hv : RngAt w v n.2) :
    Calls Tryz.prog 80 #[.agg #[.string m.1, u], .agg #[.string n.1, v]] w fun e w' => e = .returned (.bool (decide (m = n))) ∧ Below w.heap.size w w' := by
  obtain ⟨A, c, rfl, _⟩ := OutS.form hu
  obtain ⟨A2, c2, rfl, _⟩ := OutS.form hv
  obtain ⟨nm, r⟩ := m
  obtain ⟨nm2, r2⟩ := n
  dsimp only at *
  obtain ⟨W, hW, g0, g1, hb, _⟩ := two_rows w w (.cells #[.string nm, .slice A r.length c] 40) (.cells #[.string nm2, .slice A2 r2.length c2] 40) (Below.refl _ _)
  obtain ⟨x0, x1, _, _⟩ := cell_two g0
  obtain ⟨y0, y1, _, _⟩ := cell_two g1
  have HE := Lib.hid (equalR_any _ _ _ _ W (RngAt.below hu hb) (RngAt.below hv hb))
  have HB := Lib.hid hb
  clear g0 g1 hb hu hv
  by_cases hn : nm = nm2
  · have hsb : (nm.toList == nm2.toList) = true := by rw [hn]; simp
    have HF := Lib.hid (show decide ((nm, r) = (nm2, r2)) = decide (r = r2) by rw [hn]; simp)
    clear hn
    go_enter Tryz.func80, Tryz.ntmps80
    go_upto_region 1 with (fail)
    rw [← hW]
    clear hW
    go_wp2_with fail
    refine HE.out.mono ?_
    rintro e w2 ⟨rfl, n2, rfl⟩
    go_wp2
    go_ret
    exact ⟨ret_bool HF.out.symm, below_drewN HB.out _⟩
  · have hsb : (nm.toList == nm2.toList) = false := by rw [str_ne_iff, decide_eq_false hn]
    have HF := Lib.hid (show decide ((nm, r) = (nm2, r2)) = false by simp [hn])
    clear hn
    go_enter Tryz.func80, Tryz.ntmps80
    go_upto_region 1 with (fail)
    rw [← hW]
    clear hW
    go_wp2
    go_ret
    exact ⟨ret_bool HF.out.symm, HB.out⟩
set_option maxRecDepth 100000 in
set_option maxHeartbeats 2000000 in
theorem equalN_any (a b : Value) (l m : List Nde) (w : World) (ha : NdsAt w a l) (hb : NdsAt w b m) :
    Calls Tryz.prog 79 #[a, b, .func (.func 80) #[] #[]] w fun e w' => e = .returned (.bool (decide (l = m))) ∧ Below w.heap.size w w' := by
  obtain ⟨A, ca, rfl, hla, hma⟩ := OutM.form ha
  obtain ⟨A', cb, rfl, hlb, hmb⟩ := OutM.form hb
  unfold maxLen at hma hmb
  have HA := Lib.hid ha
  have HC := Lib.hid hb
  clear ha hb
  by_cases hl : l.length = m.length
  · have HL := Lib.hid hl
    have hbn : ((l.length : Int) != (m.length : Int)) = false := by rw [hl]; simp
    have hl1 : l.length ≤ m.length := by omega
    clear hl
    go_enter Tryz.func79, Tryz.ntmps79
    go_wp2
    go_loopw [17] (fun i wr => ∃ (k : Nat), k ≤ l.length ∧ i = .int .i64 k ∧ Hid (Below w.heap.size w wr) ∧ Hid (∀ j, j < k → l.getD j default = m.getD j default)) (fun i _ => l.length - (intOf i).toNat)
    case atStart => exact ⟨0, by omega, rfl, Lib.hid (Below.refl _ _), Lib.hid fun j h => absurd h (Nat.not_lt_zero j)⟩
    case round =>
      obtain ⟨k, hk, rfl, HB, HS⟩ := hrel
      by_cases hlt : k < l.length
      · obtain ⟨ad, A2, c2, rfl, h0, h1, hr⟩ := NdsAt.get (NdsAt.below HA.out HB.out) k hlt
        obtain ⟨ad', A3, c3, rfl, h0', h1', hr'⟩ := NdsAt.get (NdsAt.below HC.out HB.out) k (by omega)
        obtain ⟨x, hx⟩ : ∃ x, x = l.getD k default := ⟨_, rfl⟩
        obtain ⟨y, hy⟩ : ∃ y, y = m.getD k default := ⟨_, rfl⟩
        rw [← hx] at h0 h1 hr
        rw [← hy] at h0' h1' hr'
        have HXY := Lib.hid (fun (h : x ≠ y) => (show decide (l = m) = false from decide_eq_false (list_ne l m default k (by rw [← hx, ← hy]; exact h))))
        have HS' := Lib.hid (fun (h : x = y) => (show ∀ j, j < k + 1 → l.getD j default = m.getD j default from fun j hj => by
          rcases Nat.lt_or_ge j k with h' | h'
          · exact HS.out j h'
          · obtain rfl : j = k := by omega
            rw [← hx, ← hy]; exact h))
        have hi1 : (k : Int) < (l.length : Int) := by omega
        have hi2 : (k : Int) < (m.length : Int) := by omega
        have hi0 : (0 : Int) ≤ (k : Int) := by omega
        obtain ⟨W, hW, f0, f1, hbw, hB2⟩ := two_rows w wr (.cells #[.string x.1, .slice A2 x.2.length c2] 40) (.cells #[.string y.1, .slice A3 y.2.length c3] 40) HB.out
        obtain ⟨x0, x1, _, _⟩ := cell_two f0
        obtain ⟨y0, y1, _, _⟩ := cell_two f1
        have HE := Lib.hid (ndEq_any x y (.slice A2 x.2.length c2) (.slice A3 y.2.length c3) W (RngAt.below hr hbw) (RngAt.below hr' hbw))
        have HB2 := Lib.hid hB2
        have hlow := block_lt_of_cell h0'
        clear hx hy f0 f1 hbw hB2
        go_upto_region 6 with (fail)
        obtain ⟨W1, hW1⟩ : ∃ W1, W1 = wr.alloc (.cells #[.string x.1, .slice A2 x.2.length c2] 40) := ⟨_, rfl⟩
        have hq1 : Below wr.heap.size wr W1 := by rw [hW1]; exact (Below.refl _ _).alloc (Nat.le_refl _) _
        rw [← hW1] at hW ⊢
        have hz1 : W1.heap.size = wr.heap.size + 1 := by rw [hW1]; simp
        have e0 := (hq1.cell hlow).trans h0'
        have e1 := (hq1.cell (p := ⟨(ad'.add (k * 2)).block, (ad'.add (k * 2)).off + 1, none⟩) hlow).trans h1'
        clear h0 h1 h0' h1' 
        clear hW1
        go_upto_region 7 with (fail)
        rw [← hW]
        clear hW
        go_wp2_with fail
        refine HE.out.mono ?_
        rintro e w2 ⟨rfl, hb2⟩
        have HB3 := Lib.hid (below_step HB2.out hb2 HB2.out.size)
        by_cases hxy : x = y
        · have HN := Lib.hid (HS'.out hxy)
          rw [decide_eq_true hxy]
          clear hxy HXY HS' HE
          go_wp2
          go_roundw
          case rel => exact ⟨k + 1, by omega, by go_num, HB3, HN⟩
          case measure => simp [intOf]; omega
        · have HF := Lib.hid (HXY.out hxy)
          rw [decide_eq_false hxy]
          clear hxy HXY HS' HE
          go_wp2
          go_ret
          exact ⟨ret_bool HF.out.symm, HB3.out⟩
      · have hi1 : ¬ (k : Int) < (l.length : Int) := by omega
        have HF := Lib.hid (show decide (l = m) = true from decide_eq_true (list_eq l m default HL.out fun j hj => HS.out j (by omega)))
        go_wp2
        go_ret
        exact ⟨ret_bool HF.out.symm, HB.out⟩
  · have hbn : ((l.length : Int) != (m.length : Int)) = true := by rw [bne_iff_ne]; omega
    have HF := Lib.hid (show decide (l = m) = false by rw [decide_eq_false_iff_not]; exact fun e => hl (by rw [e]))
    go_enter Tryz.func79, Tryz.ntmps79
    go_wp2
    go_ret
    exact ⟨ret_bool HF.out.symm, Below.refl _ _⟩
theorem sameNeeds_any (a b : Value) (l m : List Nde) (w : World) (ha : NdsAt w a l) (hb : NdsAt w b m) :
    Calls Tryz.prog 46 #[a, b] w fun e w' => e = .returned (.bool (decide (l = m))) ∧ Below w.heap.size w w' := by
  have HE := Lib.hid (equalN_any a b l m w ha hb)
  clear ha hb
  go_enter Tryz.func46, Tryz.ntmps46
  go_wp2_with fail
  refine HE.out.mono ?_
  rintro e w2 ⟨rfl, hb2⟩
  go_wp2
  go_ret
  exact ⟨rfl, hb2⟩
end Go.Proofs.YtcnedecmmplmoaaGreatDoor
