/- Contracts of SameRange. -/
import Derived.Test.YtjckcdemkpmheaaDoorRngX
import Derived.Laws.StructEq
namespace Go.Proofs.YtjckcdemkpmheaaDoor
open Go.RowKit Go.BigFrame
open Ver (cmpV BL parts)

theorem bd_fields : (Tryd.prog.fieldsOf 45).toList.map (fun f => (f.name != "_", f.type, f.offset)) = [(true, 5, 0), (true, 9, 1)] := by kernel_rfl
theorem eq_bd (o o2 : Nat) (tx tx2 : ByteArray) (wx : World) : (Op.equalIn 10000 45 (.agg #[.int .u8 (o : Int), .string tx]) (.agg #[.int .u8 (o2 : Int), .string tx2])).run Tryd.prog wx = .ok ((((o : Int) == (o2 : Int)) && (tx.toList == tx2.toList))) wx := by
  rw [run_equalIn_struct wx 9999 45 _ _ (by kernel_rfl) (by kernel_rfl)]
  have hf := bd_fields
  generalize (Tryd.prog.fieldsOf 45).toList = fs at hf
  obtain ⟨f, g, rfl⟩ : ∃ f g, fs = [f, g] := by
    cases fs with
    | nil => simp at hf
    | cons f fs =>
      cases fs with
      | nil => simp at hf
      | cons g fs =>
        cases fs with
        | nil => exact ⟨f, g, rfl⟩
        | cons h fs => simp at hf
  simp only [List.map_cons, List.map_nil, List.cons.injEq, Prod.mk.injEq, and_true] at hf
  obtain ⟨⟨h1, h2, h3⟩, h4, h5, h6⟩ := hf
  have n1 : f.name ≠ "_" := by simpa using h1
  have n2 : g.name ≠ "_" := by simpa using h4
  have p1 : (part (5 : TypeId) #[.int .u8 (o : Int), .string tx] 0).run Tryd.prog wx = .ok (.int .u8 (o : Int)) wx := run_part_plain wx (by kernel_rfl) rfl
  have p2 : (part (5 : TypeId) #[.int .u8 (o2 : Int), .string tx2] 0).run Tryd.prog wx = .ok (.int .u8 (o2 : Int)) wx := run_part_plain wx (by kernel_rfl) rfl
  have p3 : (part (9 : TypeId) #[.int .u8 (o : Int), .string tx] 1).run Tryd.prog wx = .ok (.string tx) wx := run_part_plain wx (by kernel_rfl) rfl
  have p4 : (part (9 : TypeId) #[.int .u8 (o2 : Int), .string tx2] 1).run Tryd.prog wx = .ok (.string tx2) wx := run_part_plain wx (by kernel_rfl) rfl
  simp only [Op.eqFields, h2, h3, h5, h6, n1, n2, ne_eq, not_false_eq_true, if_true, Sem.run_bind, p1, p2, p3, p4, Result.andThen_ok, run_equalIn_int wx 9998 5 .u8 .u8 _ _ Tryd.underlying5, run_equalIn_string wx 9998 9 _ _ Tryd.underlying9, Sem.run_ite, Sem.run_pure]
  cases ((o : Int) == (o2 : Int)) <;> cases (tx.toList == tx2.toList) <;> rfl
theorem eq_bd_is (o o2 : Nat) (tx tx2 : ByteArray) : (((o : Int) == (o2 : Int)) && (tx.toList == tx2.toList)) = decide (((o, tx) : Bd) = (o2, tx2)) := by
  rw [str_ne_iff, Bool.eq_iff_iff]
  simp only [Bool.and_eq_true, beq_iff_eq, decide_eq_true_eq, Prod.mk.injEq]
  constructor
  · rintro ⟨h1, h2⟩; exact ⟨by omega, h2⟩
  · rintro ⟨h1, h2⟩; exact ⟨by omega, h2⟩
theorem RngAt.drewN {w w' : World} {n : Nat} {v : Value} {r : List (List Bd)} (h : RngAt w v r) (e : w' = w.drewN n) : RngAt w' v r := by
  subst e; exact h.below (below_drewN (Below.refl _ _) n)
theorem RdS.drewN {w w' : World} {n k : Nat} {S : Nat → Prop} {v : Value} {xs : List Value} (h : RdS w S v k xs) (e : w' = w.drewN n) : RdS w' S v k xs := by
  subst e; exact h.below (below_drewN (Below.refl _ _) n)
set_option maxRecDepth 100000 in
set_option maxHeartbeats 2000000 in
theorem sameR_any (a b : Value) (r q : List (List Bd)) (w : World) (ha : RngAt w a r) (hb : RngAt w b q) :
    Calls Tryd.prog 12 #[a, b] w fun e w' => e = .returned (.bool (decide (r = q))) ∧ ∃ nq, w' = w.drewN nq := by
  obtain ⟨A, ca, rfl, hla, hma⟩ := ha.form
  obtain ⟨A', cb, rfl, hlb, hmb⟩ := hb.form
  unfold maxLen at hma hmb
  have HA := Lib.hid ha
  have HB := Lib.hid hb
  clear ha hb
  by_cases hl : r.length = q.length
  · have HL := Lib.hid hl
    have hbn : ((r.length : Int) != (q.length : Int)) = false := by rw [hl]; simp
    have hl1 : r.length ≤ q.length := by omega
    clear hl
    go_enter Tryd.func12, Tryd.ntmps12
    go_wp2
    go_loopw [5] (fun i wr => ∃ (k nq : Nat), k ≤ r.length ∧ i = .int .i64 k ∧ Hid (wr = w.drewN nq) ∧ Hid (∀ j, j < k → r.getD j default = q.getD j default)) (fun i _ => r.length - (intOf i).toNat)
    case atStart => exact ⟨0, 0, by omega, rfl, Lib.hid rfl, Lib.hid fun j h => absurd h (Nat.not_lt_zero j)⟩
    case round =>
      obtain ⟨k, nq, hk, rfl, HW, HS⟩ := hrel
      by_cases hlt : k < r.length
      · obtain ⟨ad, u, rfl, hc, hrow⟩ := (HA.out.drewN HW.out).get k hlt
        obtain ⟨ad', u', rfl, hc', hrow'⟩ := (HB.out.drewN HW.out).get k (by omega)
        obtain ⟨x, hx⟩ : ∃ x, x = r.getD k default := ⟨_, rfl⟩
        obtain ⟨y, hy⟩ : ∃ y, y = q.getD k default := ⟨_, rfl⟩
        rw [← hx] at hrow
        rw [← hy] at hrow'
        have HXY := Lib.hid (fun (h : x ≠ y) => (show decide (r = q) = false from decide_eq_false (list_ne r q default k (by rw [← hx, ← hy]; exact h))))
        have HS' := Lib.hid (fun (h : x = y) => (show ∀ j, j < k + 1 → r.getD j default = q.getD j default from fun j hj => by
          rcases Nat.lt_or_ge j k with h' | h'
          · exact HS.out j h'
          · obtain rfl : j = k := by omega
            rw [← hx, ← hy]; exact h))
        obtain ⟨A2, c2, rfl, hl2, hm2⟩ := RdS.form hrow
        obtain ⟨A3, c3, rfl, hl3, hm3⟩ := RdS.form hrow'
        unfold maxLen at hm2 hm3
        have HR1 := Lib.hid hrow
        have HR2 := Lib.hid hrow'
        clear hrow hrow' hx hy
        have hi1 : (k : Int) < (r.length : Int) := by omega
        have hi2 : (k : Int) < (q.length : Int) := by omega
        have hi0 : (0 : Int) ≤ (k : Int) := by omega
        by_cases hll : x.length = y.length
        · have hbl : ((x.length : Int) != (y.length : Int)) = false := by rw [hll]; simp
          go_wp2
          go_quiet (fail)
          clear hbl
          obtain ⟨wo, hwo⟩ : ∃ wo : World, wo = wr.drewN nq := ⟨_, rfl⟩
          rw [← hwo]
          have HWO := Lib.hid (show ∃ n, wo = w.drewN n from ⟨_, by rw [hwo, HW.out]; exact World.drewN_drewN _ _ _⟩)
          have HC := Lib.hid ((cell_drew hwo _).trans hc)
          have HC' := Lib.hid ((cell_drew hwo _).trans hc')
          have HR1 := Lib.hid (RdS.drewN HR1.out hwo)
          have HR2 := Lib.hid (RdS.drewN HR2.out hwo)
          clear hc hc' hwo HW
          go_wp2
          go_loopw [6] (fun i wq => ∃ (m n2 : Nat), m ≤ x.length ∧ i = .int .i64 m ∧ Hid (wq = wo.drewN n2) ∧ Hid (∀ j, j < m → x.getD j default = y.getD j default)) (fun i _ => x.length - (intOf i).toNat)
          case atStart => exact ⟨0, 0, by omega, rfl, Lib.hid rfl, Lib.hid fun j h => absurd h (Nat.not_lt_zero j)⟩
          case round =>
            obtain ⟨m, n2, hm, rfl, HW2, HS2⟩ := hrel
            have hc := (cell_drew HW2.out _).trans HC.out
            have hc' := (cell_drew HW2.out _).trans HC'.out
            by_cases hmt : m < x.length
            · obtain ⟨ad2, rfl, hbc⟩ := BRow.get (RdS.drewN HR1.out HW2.out) m hmt
              obtain ⟨ad3, rfl, hbc'⟩ := BRow.get (RdS.drewN HR2.out HW2.out) m (by omega)
              obtain ⟨b1, hb1⟩ : ∃ b1, b1 = x.getD m default := ⟨_, rfl⟩
              obtain ⟨b2, hb2⟩ : ∃ b2, b2 = y.getD m default := ⟨_, rfl⟩
              rw [← hb1] at hbc
              rw [← hb2] at hbc'
              have HNE := Lib.hid (fun (h : b1 ≠ b2) => HXY.out (list_ne x y default m (by rw [← hb1, ← hb2]; exact h)))
              have HSS := Lib.hid (fun (h : b1 = b2) => (show ∀ j, j < m + 1 → x.getD j default = y.getD j default from fun j hj => by
                rcases Nat.lt_or_ge j m with h' | h'
                · exact HS2.out j h'
                · obtain rfl : j = m := by omega
                  rw [← hb1, ← hb2]; exact h))
              clear hb1 hb2
              obtain ⟨o, tx⟩ := b1
              obtain ⟨o2, tx2⟩ := b2
              have hb0 : wr.cell? (ad2.add (m * 2)) = some (.int .u8 (o : Int)) := by have := hbc 0 _ rfl; simpa [add_add] using this
              have hb1 : wr.cell? ⟨(ad2.add (m * 2)).block, (ad2.add (m * 2)).off + 1, none⟩ = some (.string tx) := hbc 1 _ rfl
              have hb0' : wr.cell? (ad3.add (m * 2)) = some (.int .u8 (o2 : Int)) := by have := hbc' 0 _ rfl; simpa [add_add] using this
              have hb1' : wr.cell? ⟨(ad3.add (m * 2)).block, (ad3.add (m * 2)).off + 1, none⟩ = some (.string tx2) := hbc' 1 _ rfl
              clear hbc hbc'
              have hj1 : (m : Int) < (x.length : Int) := by omega
              have hj2 : (m : Int) < (y.length : Int) := by omega
              have hj0 : (0 : Int) ≤ (m : Int) := by omega
              by_cases hbb : ((o, tx) : Bd) = (o2, tx2)
              · have heq : ∀ wx : World, (Op.equalIn 10000 45 (.agg #[.int .u8 (o : Int), .string tx]) (.agg #[.int .u8 (o2 : Int), .string tx2])).run Tryd.prog wx = .ok true wx := fun wx => by rw [eq_bd, eq_bd_is, decide_eq_true hbb]
                have HN := Lib.hid (HSS.out hbb)
                clear hbb
                go_wp2
                go_quiet (fail)
                go_wp2
                go_roundw
                case rel => exact ⟨m + 1, _, by omega, by go_num, Lib.hid (by rw [HW2.out]; exact World.drewN_drewN _ _ _), HN⟩
                case measure => simp [intOf]; omega
              · have heq : ∀ wx : World, (Op.equalIn 10000 45 (.agg #[.int .u8 (o : Int), .string tx]) (.agg #[.int .u8 (o2 : Int), .string tx2])).run Tryd.prog wx = .ok false wx := fun wx => by rw [eq_bd, eq_bd_is, decide_eq_false hbb]
                have HF := Lib.hid (HNE.out hbb)
                have HQ := Lib.hid (show ∃ n, wr = w.drewN n by
                  obtain ⟨n, hn⟩ := HWO.out
                  exact ⟨_, by rw [HW2.out, hn]; exact World.drewN_drewN _ _ _⟩)
                clear hbb
                go_wp2
                go_quiet (fail)
                go_wp2
                go_ret
                obtain ⟨n, hn⟩ := HQ.out
                exact ⟨ret_bool HF.out.symm, _, by rw [hn]; exact World.drewN_drewN _ _ _⟩
            · have hmtI : ¬ (m : Int) < (x.length : Int) := by omega
              have hmtI2 : ¬ (m : Int) < (y.length : Int) := by omega
              have HN := Lib.hid (HS'.out (list_eq x y default hll fun j hj => HS2.out j (by omega)))
              obtain ⟨n, hn⟩ := HWO.out
              have HQ := Lib.hid (show wr = w.drewN (n + n2) by rw [HW2.out, hn]; exact World.drewN_drewN _ _ _)
              clear hn
              go_wp2
              go_roundw
              case rel => exact ⟨k + 1, _, by omega, by go_num, HQ, HN⟩
              case measure => simp [intOf]; omega
        · have HF := Lib.hid (HXY.out fun e => hll (by rw [e]))
          have hbl : ((x.length : Int) != (y.length : Int)) = true := by rw [bne_iff_ne]; omega
          go_wp2
          go_quiet (fail)
          go_wp2
          go_ret
          exact ⟨ret_bool HF.out.symm, _, by rw [HW.out]; exact World.drewN_drewN _ _ _⟩
      · have hi1 : ¬ (k : Int) < (r.length : Int) := by omega
        have HF := Lib.hid (show decide (r = q) = true from decide_eq_true (list_eq r q default HL.out fun j hj => HS.out j (by omega)))
        go_wp2
        go_ret
        exact ⟨ret_bool HF.out.symm, _, HW.out⟩
  · have hbn : ((r.length : Int) != (q.length : Int)) = true := by rw [bne_iff_ne]; omega
    have HF := Lib.hid (show decide (r = q) = false by rw [decide_eq_false_iff_not]; exact fun e => hl (by rw [e]))
    go_enter Tryd.func12, Tryd.ntmps12
    go_wp2
    go_ret
    exact ⟨ret_bool HF.out.symm, 0, rfl⟩
end Go.Proofs.YtjckcdemkpmheaaDoor
