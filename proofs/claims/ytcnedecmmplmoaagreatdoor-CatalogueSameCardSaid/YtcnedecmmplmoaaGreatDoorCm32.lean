/- catalogue: the reference's sameRange, Words, MayNeed, SameNeeds. -/
import Derived.Test.YtcnedecmmplmoaaGreatDoorCm24
import Derived.Test.YtcnedecmmplmoaaGreatDoorCm14
import Derived.Test.YtcnedecmmplmoaaGreatDoorCm19
set_option linter.unusedVariables false
set_option linter.unusedSimpArgs false
namespace Go.Proofs.YtcnedecmmplmoaaGreatDoor
open Go Go.RowKit Go.BigFrame
open Ver (cmpV BL parts brk)

set_option maxRecDepth 100000 in
set_option maxHeartbeats 2000000 in
theorem refSameR_any (a b : Value) (r q : List (List Bd)) (w : World) (ha : RngAt w a r) (hb : RngAt w b q) :
    Calls Tryz.prog 56 #[a, b] w fun e w' => e = .returned (.bool (decide (r = q))) ∧ ∃ nq, w' = w.drewN nq := by
  obtain ⟨A, ca, rfl, hla, hma⟩ := ha.form
  obtain ⟨A', cb, rfl, hlb, hmb⟩ := hb.form
  unfold maxLen at hma hmb
  have HA := Lib.hid ha
  have HB := Lib.hid hb
  clear ha hb
  by_cases hl : r.length = q.length
  · have HL := Lib.hid hl
    have hbn : ((r.length : Int) != (q.length : Int)) = false := by rw [hl]; simp
    have hl1 : r.length ≤ q.length := by omega
    clear hl
    go_enter Tryz.func56, Tryz.ntmps56
    go_wp2
    go_loopw [5] (fun i wr => ∃ (k nq : Nat), k ≤ r.length ∧ i = .int .i64 k ∧ Hid (wr = w.drewN nq) ∧ Hid (∀ j, j < k → r.getD j default = q.getD j default)) (fun i _ => r.length - (intOf i).toNat)
    case atStart => exact ⟨0, 0, by omega, rfl, Lib.hid rfl, Lib.hid fun j h => absurd h (Nat.not_lt_zero j)⟩
    case round =>
      obtain ⟨k, nq, hk, rfl, HW, HS⟩ := hrel
      by_cases hlt : k < r.length
      · obtain ⟨ad, u, rfl, hc, hrow⟩ := (HA.out.drewN HW.out).get k hlt
        obtain ⟨ad', u', rfl, hc', hrow'⟩ := (HB.out.drewN HW.out).get k (by omega)
        obtain ⟨x, hx⟩ : ∃ x, x = r.getD k default := ⟨_, rfl⟩
        obtain ⟨y, hy⟩ : ∃ y, y = q.getD k default := ⟨_, rfl⟩
        rw [← hx] at hrow
        rw [← hy] at hrow'
        have HXY := Lib.hid (fun (h : x ≠ y) => (show decide (r = q) = false from decide_eq_false (list_ne r q default k (by rw [← hx, ← hy]; exact h))))
        have HS' := Lib.hid (fun (h : x = y) => (show ∀ j, j < k + 1 → r.getD j default = q.getD j default from fun j hj => by
          rcases Nat.lt_or_ge j k with h' | h'
          · exact HS.out j h'
          · obtain rfl : j = k := by omega
            rw [← hx, ← hy]; exact h))
        obtain ⟨A2, c2, rfl, hl2, hm2⟩ := RdS.form hrow
        obtain ⟨A3, c3, rfl, hl3, hm3⟩ := RdS.form hrow'
        unfold maxLen at hm2 hm3
        have HR1 := Lib.hid hrow
        have HR2 := Lib.hid hrow'
        clear hrow hrow' hx hy
        have hi1 : (k : Int) < (r.length : Int) := by omega
        have hi2 : (k : Int) < (q.length : Int) := by omega
        have hi0 : (0 : Int) ≤ (k : Int) := by omega
        by_cases hll : x.length = y.length
        · have hbl : ((x.length : Int) != (y.length : Int)) = false := by rw [hll]; simp
          go_wp2
          go_quiet (fail)
          clear hbl
          obtain ⟨wo, hwo⟩ : ∃ wo : World, wo = wr.drewN nq := ⟨_, rfl⟩
          rw [← hwo]
          have HWO := Lib.hid (show ∃ n, wo = w.drewN n from ⟨_, by rw [hwo, HW.out]; exact World.drewN_drewN _ _ _⟩)
          have HC := Lib.hid ((cell_drew hwo _).trans hc)
          have HC' := Lib.hid ((cell_drew hwo _).trans hc')
          have HR1 := Lib.hid (RdS.drewN HR1.out hwo)
          have HR2 := Lib.hid (RdS.drewN HR2.out hwo)
          clear hc hc' hwo HW
          go_wp2
          go_loopw [6] (fun i wq => ∃ (m n2 : Nat), m ≤ x.length ∧ i = .int .i64 m ∧ Hid (wq = wo.drewN n2) ∧ Hid (∀ j, j < m → x.getD j default = y.getD j default)) (fun i _ => x.length - (intOf i).toNat)
          case atStart => exact ⟨0, 0, by omega, rfl, Lib.hid rfl, Lib.hid fun j h => absurd h (Nat.not_lt_zero j)⟩
          case round =>
            obtain ⟨m, n2, hm, rfl, HW2, HS2⟩ := hrel
            have hc := (cell_drew HW2.out _).trans HC.out
            have hc' := (cell_drew HW2.out _).trans HC'.out
            by_cases hmt : m < x.length
            · obtain ⟨ad2, rfl, hbc⟩ := BRow.get (RdS.drewN HR1.out HW2.out) m hmt
              obtain ⟨ad3, rfl, hbc'⟩ := BRow.get (RdS.drewN HR2.out HW2.out) m (by omega)
              obtain ⟨b1, hb1⟩ : ∃ b1, b1 = x.getD m default := ⟨_, rfl⟩
              obtain ⟨b2, hb2⟩ : ∃ b2, b2 = y.getD m default := ⟨_, rfl⟩
              rw [← hb1] at hbc
              rw [← hb2] at hbc'
              have HNE := Lib.hid (fun (h : b1 ≠ b2) => HXY.out (list_ne x y default m (by rw [← hb1, ← hb2]; exact h)))
              have HSS := Lib.hid (fun (h : b1 = b2) => (show ∀ j, j < m + 1 → x.getD j default = y.getD j default from fun j hj => by
                rcases Nat.lt_or_ge j m with h' | h'
                · exact HS2.out j h'
                · obtain rfl : j = m := by omega
                  rw [← hb1, ← hb2]; exact h))
              clear hb1 hb2
              obtain ⟨o, tx⟩ := b1
              obtain ⟨o2, tx2⟩ := b2
              have hb0 : wr.cell? (ad2.add (m * 2)) = some (.int .u8 (o : Int)) := by have := hbc 0 _ rfl; simpa [add_add] using this
              have hb1 : wr.cell? ⟨(ad2.add (m * 2)).block, (ad2.add (m * 2)).off + 1, none⟩ = some (.string tx) := hbc 1 _ rfl
              have hb0' : wr.cell? (ad3.add (m * 2)) = some (.int .u8 (o2 : Int)) := by have := hbc' 0 _ rfl; simpa [add_add] using this
              have hb1' : wr.cell? ⟨(ad3.add (m * 2)).block, (ad3.add (m * 2)).off + 1, none⟩ = some (.string tx2) := hbc' 1 _ rfl
              clear hbc hbc'
              have hj1 : (m : Int) < (x.length : Int) := by omega
              have hj2 : (m : Int) < (y.length : Int) := by omega
              have hj0 : (0 : Int) ≤ (m : Int) := by omega
              by_cases hbb : ((o, tx) : Bd) = (o2, tx2)
              · have heq : ∀ wx : World, (Op.equalIn 10000 57 (.agg #[.int .u8 (o : Int), .string tx]) (.agg #[.int .u8 (o2 : Int), .string tx2])).run Tryz.prog wx = .ok true wx := fun wx => by rw [eq_bd, eq_bd_is, decide_eq_true hbb]
                have HN := Lib.hid (HSS.out hbb)
                clear hbb
                go_wp2
                go_quiet (fail)
                go_wp2
                go_roundw
                case rel => exact ⟨m + 1, _, by omega, by go_num, Lib.hid (by rw [HW2.out]; exact World.drewN_drewN _ _ _), HN⟩
                case measure => simp [intOf]; omega
              · have heq : ∀ wx : World, (Op.equalIn 10000 57 (.agg #[.int .u8 (o : Int), .string tx]) (.agg #[.int .u8 (o2 : Int), .string tx2])).run Tryz.prog wx = .ok false wx := fun wx => by rw [eq_bd, eq_bd_is, decide_eq_false hbb]
                have HF := Lib.hid (HNE.out hbb)
                have HQ := Lib.hid (show ∃ n, wr = w.drewN n by
                  obtain ⟨n, hn⟩ := HWO.out
                  exact ⟨_, by rw [HW2.out, hn]; exact World.drewN_drewN _ _ _⟩)
                clear hbb
                go_wp2
                go_quiet (fail)
                go_wp2
                go_ret
                obtain ⟨n, hn⟩ := HQ.out
                exact ⟨ret_bool HF.out.symm, _, by rw [hn]; exact World.drewN_drewN _ _ _⟩
            · have hmtI : ¬ (m : Int) < (x.length : Int) := by omega
              have hmtI2 : ¬ (m : Int) < (y.length : Int) := by omega
              have HN := Lib.hid (HS'.out (list_eq x y default hll fun j hj => HS2.out j (by omega)))
              obtain ⟨n, hn⟩ := HWO.out
              have HQ := Lib.hid (show wr = w.drewN (n + n2) by rw [HW2.out, hn]; exact World.drewN_drewN _ _ _)
              clear hn
              go_wp2
              go_roundw
              case rel => exact ⟨k + 1, _, by omega, by go_num, HQ, HN⟩
              case measure => simp [intOf]; omega
        · have HF := Lib.hid (HXY.out fun e => hll (by rw [e]))
          have hbl : ((x.length : Int) != (y.length : Int)) = true := by rw [bne_iff_ne]; omega
          go_wp2
          go_quiet (fail)
          go_wp2
          go_ret
          exact ⟨ret_bool HF.out.symm, _, by rw [HW.out]; exact World.drewN_drewN _ _ _⟩
      · have hi1 : ¬ (k : Int) < (r.length : Int) := by omega
        have HF := Lib.hid (show decide (r = q) = true from decide_eq_true (list_eq r q default HL.out fun j hj => HS.out j (by omega)))
        go_wp2
        go_ret
        exact ⟨ret_bool HF.out.symm, _, HW.out⟩
  · have hbn : ((r.length : Int) != (q.length : Int)) = true := by rw [bne_iff_ne]; omega
    have HF := Lib.hid (show decide (r = q) = false by rw [decide_eq_false_iff_not]; exact fun e => hl (by rw [e]))
    go_enter Tryz.func56, Tryz.ntmps56
    go_wp2
    go_ret
    exact ⟨ret_bool HF.out.symm, 0, rfl⟩
theorem wrd_data (s : ByteArray) : (wrdB s).map (·.data.toList) = parts 32 s.data.toList := by
  unfold wrdB; simp [Function.comp_def, list_strL]
set_option maxRecDepth 100000 in
set_option maxHeartbeats 1000000 in
theorem refWords_any (s : ByteArray) (w : World) (hs : s.size ≤ 1000000) :
    Calls Tryz.prog 54 #[.string s] w fun e w' => ∃ v, e = .returned v ∧ RdS w' AllB v (wrdB s).length (strs (wrdB s)) ∧ Below w.heap.size w w' := by
  obtain ⟨i0, hi, hz0, hz1, hz2⟩ := info_parts infoStr
  have HI := Lib.hid hi
  have HZ0 := Lib.hid hz0
  have HZ1 := Lib.hid hz1
  have HZ2 := Lib.hid hz2
  have HP := Lib.hid (wrd_data s)
  clear hi hz0 hz1 hz2
  go_enter Tryz.func54, Tryz.ntmps54
  go_wp2
  go_loopw [3, 4, 5] (fun lv fv iv wr => ∃ (i f : Nat) (done : List ByteArray), f ≤ i ∧ i ≤ s.size + 1 ∧ fv = .int .i64 (f : Int) ∧ iv = .int .i64 (i : Int) ∧ done.length ≤ i ∧
      Hid (i ≤ s.size → done.map (·.data.toList) ++ parts 32 (s.data.toList.drop f) = parts 32 s.data.toList ∧ (32 : UInt8) ∉ (s.data.toList.take i).drop f) ∧ Hid (s.size < i → done.map (·.data.toList) = parts 32 s.data.toList) ∧
      Hid (wr.ownsRow w.heap.size 9 1 lv done.length (strs done)) ∧ Hid (Below w.heap.size w wr)) (fun _ _ iv _ => s.size + 1 - (intOf iv).toNat)
  case atStart => exact ⟨0, 0, [], Nat.le_refl _, by omega, rfl, rfl, Nat.le_refl _, Lib.hid (fun _ => ⟨rfl, by simp⟩), Lib.hid (fun h => by omega), Lib.hid (World.ownsRow_nil _ _ _ _), Lib.hid (Below.refl _ _)⟩
  case round =>
    obtain ⟨i, f, done, hf, hi, rfl, rfl, hdl, HA, HE, HOWN, HB⟩ := hrel
    obtain ⟨A1, cap1, rfl⟩ := own_form HOWN.out
    have hw1 : IntKind.i64.wrap ((i : Int) + 1) = (i : Int) + 1 := IntWalk.i64_in _ (by omega)
    have hf0 : (0 : Int) ≤ (f : Int) := by omega
    have hfi : (f : Int) ≤ (i : Int) := by omega
    by_cases hle : i ≤ s.size
    · have hleI : (i : Int) ≤ (s.size : Int) := by omega
      obtain ⟨HA1, HA2⟩ := HA.out hle
      by_cases hend : i = s.size
      · subst hend
        have HN := Lib.hid (show (done ++ [s.extract f s.size]).map (·.data.toList) = parts 32 s.data.toList by
          rw [← HA1, split_end 32 _ f (by rw [len_data]; exact HA2), List.map_append, List.map_cons, List.map_nil, ext_list, len_data])
        clear HA HA1 HA2
        go_wp2_with (at_builtin; refine wpList_app rfl _ _ 55 rfl w.heap.size 9 i0 (.string ⟨#[]⟩) 16 Tryz.underlying55 HI.out HZ0.out HZ1.out HZ2.out rfl _ done.length _ rfl (HOWN.out.alloc _) ⟨wr.heap.size, 0, none⟩ 1 1 [.string (s.extract f s.size)] rfl rfl ?c1 ?c2 ?c3 ?c4 ?c5 ?_)
        case c1 => intro j u hu; exact row_cells (heap_alloc_new _ _) j u (by simpa using hu)
        case c2 => simp [Value.oneCell']
        case c3 => unfold maxLen; omega
        case c4 => omega
        case c5 => have := HB.out.size; simp; omega
        intro v' w6 hown6 hgrow6 hmov6
        obtain ⟨A6, cap6, rfl⟩ := own_form hown6
        have HR5 := Lib.hid ((HB.out.alloc HB.out.size (.cells #[.string (s.extract f s.size)] 9)).grown hgrow6 (by have := HB.out.size; simp; omega) fun g hg => (HOWN.out.lt g hg).1)
        have HR1 := Lib.hid (show w6.ownsRow w.heap.size 9 1 (.slice A6 (done.length + 1) cap6) (done ++ [s.extract f s.size]).length (strs (done ++ [s.extract f s.size])) by rw [List.length_append, strs_snoc]; exact hown6)
        clear hown6 hgrow6 hmov6
        go_wp2
        go_roundw
        case rel => exact ⟨s.size + 1, s.size + 1, done ++ [s.extract f s.size], Nat.le_refl _, by omega, by go_num, by go_num, by simp; omega, Lib.hid (fun h => by omega), Lib.hid (fun _ => HN.out), HR1, HR5⟩
        case measure => first | (simp [intOf]; done) | (simp [intOf]; omega)
      · have hlt : i < s.size := by omega
        have hltI : (i : Int) < (s.size : Int) := by omega
        have hneI : ((i : Int) == (s.size : Int)) = false := by rw [beq_eq_false_iff_ne]; omega
        have hget : s.data.toList[i]? = some s[i] := by
          rw [List.getElem?_eq_getElem (by rw [len_data]; exact hlt)]; rfl
        by_cases hc : (s[i].toNat : Int) = (32 : Int)
        · have hcb : ((s[i].toNat : Int) == (32 : Int)) = true := by rw [hc]; simp
          have hce : s[i] = 32 := UInt8.toNat_inj.1 (by have h32 : (32 : UInt8).toNat = 32 := rfl; omega)
          rw [hce] at hget
          have HN := Lib.hid (show (done ++ [s.extract f i]).map (·.data.toList) ++ parts 32 (s.data.toList.drop (i + 1)) = parts 32 s.data.toList by
            rw [← HA1, split_hit 32 _ f i hf HA2 hget, List.map_append, List.map_cons, List.map_nil, ext_list, List.append_assoc]; rfl)
          have HNN := Lib.hid (show (32 : UInt8) ∉ (s.data.toList.take (i + 1)).drop (i + 1) by rw [List.drop_take_self]; simp)
          clear HA HA1 HA2 hget hce
          go_wp2_with (at_builtin; refine wpList_app rfl _ _ 55 rfl w.heap.size 9 i0 (.string ⟨#[]⟩) 16 Tryz.underlying55 HI.out HZ0.out HZ1.out HZ2.out rfl _ done.length _ rfl (HOWN.out.alloc _) ⟨wr.heap.size, 0, none⟩ 1 1 [.string (s.extract f i)] rfl rfl ?c1 ?c2 ?c3 ?c4 ?c5 ?_)
          case c1 => intro j u hu; exact row_cells (heap_alloc_new _ _) j u (by simpa using hu)
          case c2 => simp [Value.oneCell']
          case c3 => unfold maxLen; omega
          case c4 => omega
          case c5 => have := HB.out.size; simp; omega
          intro v' w6 hown6 hgrow6 hmov6
          obtain ⟨A6, cap6, rfl⟩ := own_form hown6
          have HR5 := Lib.hid ((HB.out.alloc HB.out.size (.cells #[.string (s.extract f i)] 9)).grown hgrow6 (by have := HB.out.size; simp; omega) fun g hg => (HOWN.out.lt g hg).1)
          have HR1 := Lib.hid (show w6.ownsRow w.heap.size 9 1 (.slice A6 (done.length + 1) cap6) (done ++ [s.extract f i]).length (strs (done ++ [s.extract f i])) by rw [List.length_append, strs_snoc]; exact hown6)
          clear hown6 hgrow6 hmov6
          go_wp2
          go_roundw
          case rel => exact ⟨i + 1, i + 1, done ++ [s.extract f i], Nat.le_refl _, by omega, by go_num, by go_num, by simp; omega, Lib.hid (fun _ => ⟨HN.out, HNN.out⟩), Lib.hid (fun h => by omega), HR1, HR5⟩
          case measure => simp [intOf]; omega
        · have hcb : ((s[i].toNat : Int) == (32 : Int)) = false := by rw [beq_eq_false_iff_ne]; exact hc
          have hce : s[i] ≠ 32 := fun e => hc (by rw [e]; rfl)
          have HNN := Lib.hid (split_skip 32 _ f i hf HA2 _ hget hce)
          have HA1' := Lib.hid HA1
          clear HA HA1 HA2 hget hce
          go_wp2
          go_roundw
          case rel => exact ⟨i + 1, f, done, by omega, by omega, rfl, by go_num, by omega, Lib.hid (fun _ => ⟨HA1'.out, HNN.out⟩), Lib.hid (fun h => by omega), HOWN, HB⟩
          case measure => simp [intOf]; omega
    · have hleI : ¬ (i : Int) ≤ (s.size : Int) := by omega
      have hde : done = wrdB s := data_inj _ _ ((HE.out (by omega)).trans HP.out.symm)
      have HRD := Lib.hid (RdS.own HOWN.out).all
      have HDE := Lib.hid hde
      clear hde
      go_wp2
      go_ret
      exact ⟨_, rfl, by rw [← HDE.out]; exact HRD.out, HB.out⟩
set_option maxRecDepth 100000 in
set_option maxHeartbeats 2000000 in
theorem mayNeed_any (n : Nde) (u : Value) (w : World) (hu : RngAt w u n.2) (hsz : Short n.2) (hn : n.1.size ≤ maxLen) : Calls Tryz.prog 50 #[.agg #[.string n.1, u]] w fun e w' => e = .returned (.bool (needB n)) ∧ Below w.heap.size w w' := by
  obtain ⟨A, c, rfl, hlc, hcm⟩ := OutS.form hu
  obtain ⟨nm, r⟩ := n
  dsimp only at *
  have HR := Lib.hid (fun w' => refRight_any nm w' hn)
  obtain ⟨W0, hW0, hg0, hb0, hz0⟩ : ∃ W0, W0 = w.alloc (.cells #[.string nm, .slice A r.length c] 40) ∧ W0.heap[w.heap.size]? = some (.cells #[.string nm, .slice A r.length c] 40 (0, 0)) ∧ Below w.heap.size w W0 ∧ W0.heap.size = w.heap.size + 1 := ⟨_, rfl, heap_alloc_new _ _, (Below.refl _ _).alloc (Nat.le_refl _) _, by simp⟩
  have h0 : W0.cell? ⟨w.heap.size, 0, none⟩ = some (.string nm) := by rw [cell_of_row _ _ _ _ _ _ hg0]; rfl
  have h1 : W0.cell? ⟨w.heap.size, 1, none⟩ = some (.slice A r.length c) := by rw [cell_of_row _ _ _ _ _ _ hg0]; rfl
  have HP := Lib.hid (may_any r _ W0 (hu.below hb0) hsz)
  have HB := Lib.hid hb0
  have HZ := Lib.hid hz0
  clear hu hsz hn hg0 hb0 hz0
  cases hr : rightB nm with
  | false =>
    rw [hr] at HR
    have HF := Lib.hid (show needB (nm, r) = false by unfold needB; rw [hr]; rfl)
    clear hr
    go_enter Tryz.func50, Tryz.ntmps50
    go_upto_region 1 with (fail)
    rw [← hW0]
    clear hW0
    go_wp2_with (go_at_call 67; refine (HR.out _).mono ?_; rintro e W2 ⟨rfl, hw2⟩; obtain rfl := hw2)
    go_ret
    exact ⟨by rw [HF.out]; rfl, HB.out⟩
  | true =>
    rw [hr] at HR
    by_cases hl : r.length = 0
    · have HF := Lib.hid (show needB (nm, r) = false by unfold needB; rw [hl]; simp)
      have hl1 : ¬ (r.length : Int) > 0 := by omega
      have HL := Lib.hid hl
      clear hr hl
      go_enter Tryz.func50, Tryz.ntmps50
      go_upto_region 1 with (fail)
      rw [← hW0]
      clear hW0
      go_wp2_with (go_at_call 67; refine (HR.out _).mono ?_; rintro e W2 ⟨rfl, hw2⟩; obtain rfl := hw2)
      go_ret
      exact ⟨by rw [HF.out]; rfl, HB.out⟩
    · have HF := Lib.hid (show needB (nm, r) = mayR r by unfold needB; rw [hr, decide_eq_true (show 0 < (nm, r).2.length by show 0 < r.length; omega)]; simp)
      have hl1 : (r.length : Int) > 0 := by omega
      generalize mayR r = m at *
      clear hr
      go_enter Tryz.func50, Tryz.ntmps50
      go_upto_region 1 with (fail)
      rw [← hW0]
      clear hW0
      go_wp2_with (first
        | (go_at_call 67; refine (HR.out _).mono ?_; rintro e W2 ⟨rfl, hw2⟩; obtain rfl := hw2)
        | (go_at_call 85; refine HP.out.mono ?_; rintro e W3 ⟨rfl, hb3⟩))
      go_ret
      exact ⟨by rw [HF.out]; rfl, below_step HB.out hb3 HB.out.size⟩
theorem NdsAt.drewN {w w' : World} {n : Nat} {v : Value} {l : List Nde} (h : NdsAt w v l) (e : w' = w.drewN n) : NdsAt w' v l := by
  subst e; exact NdsAt.below h (below_drewN (Below.refl _ _) n)
theorem NdC.two {w : World} {S : Nat → Prop} {us : List Value} {n : Nde} (h : NdC w S us n) : ∃ A c, us = [.string n.1, .slice A n.2.length c] ∧ OutS BRow w S (.slice A n.2.length c) n.2 := by
  obtain ⟨u, e, h⟩ := h
  obtain ⟨A, c, rfl, _⟩ := OutS.form h
  exact ⟨A, c, e, h⟩
/-- The k-th of a row of needs. -/
theorem NdsAt.get {w : World} {A : Option Addr} {n cap : Nat} {l : List Nde} (h : NdsAt w (.slice A n cap) l) (k : Nat) (hk : k < l.length) :
    ∃ ad A2 c2, A = some ad ∧ w.cell? ⟨(ad.add (k * 2)).block, (ad.add (k * 2)).off, (ad.add (k * 2)).3⟩ = some (.string (l.getD k default).1) ∧ w.cell? ⟨(ad.add (k * 2)).block, (ad.add (k * 2)).off + 1, none⟩ = some (.slice A2 (l.getD k default).2.length c2) ∧ RngAt w (.slice A2 (l.getD k default).2.length c2) (l.getD k default).2 := by
  obtain ⟨ad, us, e, hl, hb, _, hc, hn⟩ := OutM.get h k hk
  obtain ⟨A2, c2, rfl, hr⟩ := NdC.two hn
  refine ⟨ad, A2, c2, e, ?_, ?_, hr⟩
  · have := hc 0 _ rfl; simpa [add_add] using this
  · have := hc 1 _ rfl; rw [← add_add] at this; exact this
set_option maxRecDepth 100000 in
set_option maxHeartbeats 4000000 in
theorem refSameN_any (a b : Value) (l m : List Nde) (w : World) (ha : NdsAt w a l) (hb : NdsAt w b m) :
    Calls Tryz.prog 27 #[a, b] w fun e w' => e = .returned (.bool (decide (l = m))) ∧ ∃ nq, w' = w.drewN nq := by
  obtain ⟨A, ca, rfl, hla, hma⟩ := OutM.form ha
  obtain ⟨A', cb, rfl, hlb, hmb⟩ := OutM.form hb
  unfold maxLen at hma hmb
  have HA := Lib.hid ha
  have HB := Lib.hid hb
  clear ha hb
  by_cases hl : l.length = m.length
  · have HL := Lib.hid hl
    have hbn : ((l.length : Int) != (m.length : Int)) = false := by rw [hl]; simp
    have hl1 : l.length ≤ m.length := by omega
    clear hl
    go_enter Tryz.func27, Tryz.ntmps27
    go_wp2
    go_loopw [5] (fun i wr => ∃ (k nq : Nat), k ≤ l.length ∧ i = .int .i64 k ∧ Hid (wr = w.drewN nq) ∧ Hid (∀ j, j < k → l.getD j default = m.getD j default)) (fun i _ => l.length - (intOf i).toNat)
    case atStart => exact ⟨0, 0, by omega, rfl, Lib.hid rfl, Lib.hid fun j h => absurd h (Nat.not_lt_zero j)⟩
    case round =>
      obtain ⟨k, nq, hk, rfl, HW, HS⟩ := hrel
      by_cases hlt : k < l.length
      · obtain ⟨ad, A2, c2, rfl, h0, h1, hrow⟩ := NdsAt.get (HA.out.drewN HW.out) k hlt
        obtain ⟨ad', A3, c3, rfl, h0', h1', hrow'⟩ := NdsAt.get (HB.out.drewN HW.out) k (by omega)
        obtain ⟨x, hx⟩ : ∃ x, x = l.getD k default := ⟨_, rfl⟩
        obtain ⟨y, hy⟩ : ∃ y, y = m.getD k default := ⟨_, rfl⟩
        rw [← hx] at h0 h1 hrow
        rw [← hy] at h0' h1' hrow'
        have HXY := Lib.hid (fun (h : x ≠ y) => (show decide (l = m) = false from decide_eq_false (list_ne l m default k (by rw [← hx, ← hy]; exact h))))
        have HS' := Lib.hid (fun (h : x = y) => (show ∀ j, j < k + 1 → l.getD j default = m.getD j default from fun j hj => by
          rcases Nat.lt_or_ge j k with h' | h'
          · exact HS.out j h'
          · obtain rfl : j = k := by omega
            rw [← hx, ← hy]; exact h))
        have HSR := Lib.hid (fun n2 => refSameR_any _ _ _ _ (wr.drewN n2) (hrow.drewN rfl) (hrow'.drewN rfl))
        obtain ⟨xn, xr⟩ := x
        obtain ⟨yn, yr⟩ := y
        dsimp only at *
        clear hrow hrow' hx hy
        have hi1 : (k : Int) < (l.length : Int) := by omega
        have hi2 : (k : Int) < (m.length : Int) := by omega
        have hi0 : (0 : Int) ≤ (k : Int) := by omega
        by_cases hnn : xn = yn
        · have hsb : (!(xn.toList == yn.toList)) = false := by rw [hnn]; simp
          by_cases hrr : xr = yr
          · have HN := Lib.hid (HS'.out (by rw [hnn, hrr]))
            rw [decide_eq_true hrr] at HSR
            clear hnn hrr HXY HS'
            go_wp2
            go_quiet ((go_at_call 56; exact Calls.quiet_of (HSR.out _)))
            go_wp2
            go_roundw
            case rel => exact ⟨k + 1, _, by omega, by go_num, Lib.hid (by rw [HW.out]; exact World.drewN_drewN _ _ _), HN⟩
            case measure => simp [intOf]; omega
          · have HF := Lib.hid (HXY.out fun e => hrr (by injection e))
            rw [decide_eq_false hrr] at HSR
            clear hnn hrr HXY HS'
            go_wp2
            go_quiet ((go_at_call 56; exact Calls.quiet_of (HSR.out _)))
            go_wp2
            go_ret
            exact ⟨ret_bool HF.out.symm, _, by rw [HW.out]; exact World.drewN_drewN _ _ _⟩
        · have HF := Lib.hid (HXY.out fun e => hnn (by injection e))
          have hsb : (!(xn.toList == yn.toList)) = true := by rw [str_ne_iff, decide_eq_false hnn]; rfl
          clear hnn HXY HS'
          go_wp2
          go_quiet (fail)
          go_wp2
          go_ret
          exact ⟨ret_bool HF.out.symm, _, by rw [HW.out]; exact World.drewN_drewN _ _ _⟩
      · have hi1 : ¬ (k : Int) < (l.length : Int) := by omega
        have HF := Lib.hid (show decide (l = m) = true from decide_eq_true (list_eq l m default HL.out fun j hj => HS.out j (by omega)))
        go_wp2
        go_ret
        exact ⟨ret_bool HF.out.symm, _, HW.out⟩
  · have hbn : ((l.length : Int) != (m.length : Int)) = true := by rw [bne_iff_ne]; omega
    have HF := Lib.hid (show decide (l = m) = false by rw [decide_eq_false_iff_not]; exact fun e => hl (by rw [e]))
    go_enter Tryz.func27, Tryz.ntmps27
    go_wp2
    go_ret
    exact ⟨ret_bool HF.out.symm, 0, rfl⟩
end Go.Proofs.YtcnedecmmplmoaaGreatDoor
