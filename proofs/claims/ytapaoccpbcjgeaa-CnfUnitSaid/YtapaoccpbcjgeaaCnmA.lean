/- cnf: literals, rows of rows of numbers in memory, how many literals. -/
import Derived.Test.YtapaoccpbcjgeaaBasR
import Derived.Test.YtapaoccpbcjgeaaCnmP
import Derived.Test.YtapaoccpbcjgeaaProg
import Derived.LoopTactic
namespace Go.Proofs.Ytapaoccpbcjgeaa
open Go.RowKit Go.BigFrame
open Cnf (litB countN)

/-- A row of numbers; a row of such rows. -/
def IRow (w : World) (S : Nat → Prop) (v : Value) (c : List Int) : Prop := RdS w S v c.length (ints c)
theorem IRow.keeps : Keeps IRow := ⟨fun h hs => RdS.keep h hs, fun h hw => RdS.weak h hw⟩
def RowsAt (w : World) (v : Value) (cs : List (List Int)) : Prop := OutS IRow w AllB v cs
theorem RowsAt.below {w w' : World} {v : Value} {cs : List (List Int)} (h : RowsAt w v cs) (hb : Below w.heap.size w w') : RowsAt w' v cs := OutS.below IRow.keeps h hb
theorem IRow.get {w : World} {S : Nat → Prop} {A : Option Addr} {n cap : Nat} {c : List Int} (h : IRow w S (.slice A n cap) c) (k : Nat) (hk : k < c.length) :
    ∃ ad, A = some ad ∧ w.cell? (ad.add k) = some (.int .i64 (c.getD k 0)) := by
  obtain ⟨A', cap', e, _, _, _, h4⟩ := h
  cases e
  obtain ⟨ad, rfl, _, _, hc⟩ := h4 (by omega)
  exact ⟨ad, rfl, hc k _ (ints_get c k hk)⟩

theorem literal_any (x v : Int) (w : World) (h0 : 0 ≤ v) (h1 : v ≤ 9223372036854775807) : Calls Try.prog 40 #[.int .i64 x, .int .i64 v] w fun e w' => e = .returned (.bool (litB v x)) ∧ w' = w := by
  have hw : IntKind.i64.wrap (-v) = -v := IntWalk.i64_in _ (by omega)
  obtain ⟨b, hb⟩ : ∃ b, b = litB v x := ⟨_, rfl⟩
  have HB : Hid (b = true ↔ (x ≠ 0 ∧ -v ≤ x ∧ x ≤ v)) := Lib.hid (by rw [hb]; unfold litB; exact decide_eq_true_iff)
  rw [← hb]
  clear hb
  go_enter Try.func40, Try.ntmps40
  go_wp2
  all_goals
    go_ret
    refine ⟨?_, rfl⟩
    have hbb := HB.out
    cases b <;> simp at hbb ⊢ <;> omega
theorem refLit_any (x v : Int) (w : World) (h0 : 0 ≤ v) (h1 : v ≤ 9223372036854775807) : Calls Try.prog 26 #[.int .i64 x, .int .i64 v] w fun e w' => e = .returned (.bool (litB v x)) ∧ w' = w := by
  have hw : IntKind.i64.wrap (-v) = -v := IntWalk.i64_in _ (by omega)
  obtain ⟨b, hb⟩ : ∃ b, b = litB v x := ⟨_, rfl⟩
  have HB : Hid (b = true ↔ (x ≠ 0 ∧ -v ≤ x ∧ x ≤ v)) := Lib.hid (by rw [hb]; unfold litB; exact decide_eq_true_iff)
  rw [← hb]
  clear hb
  go_enter Try.func26, Try.ntmps26
  go_wp2
  all_goals
    go_ret
    refine ⟨?_, rfl⟩
    have hbb := HB.out
    cases b <;> simp at hbb ⊢ <;> omega
end Go.Proofs.Ytapaoccpbcjgeaa

/- cnf: literals, Count, Check. -/
namespace Go.Proofs.Ytapaoccpbcjgeaa
open Go.RowKit Go.BigFrame
open Cnf (litB countN)

theorem countN_take (cs : List (List Int)) (k : Nat) (h : k < cs.length) : countN (cs.take (k + 1)) = countN (cs.take k) + (cs.getD k []).length := by
  unfold countN
  rw [List.take_succ_eq_append_getElem h, List.map_append, List.sum_append]
  simp [List.getD, h]
theorem countN_le (cs : List (List Int)) (k : Nat) : countN (cs.take k) ≤ countN cs := by
  conv => rhs; rw [← List.take_append_drop k cs]
  unfold countN
  rw [List.map_append, List.sum_append]; omega
set_option maxRecDepth 100000 in
set_option maxHeartbeats 800000 in
theorem literals_any (a : Value) (c : List Int) (v : Int) (S : Nat → Prop) (w : World) (ha : IRow w S a c) (h0 : 0 ≤ v) (h1 : v ≤ 9223372036854775807) :
    Calls Try.prog 25 #[a, .int .i64 v] w fun e w' => e = .returned (.bool (c.all (litB v))) ∧ w' = w := by
  obtain ⟨A, ca, rfl, hla, hma, hza, hra⟩ := ha
  have HRA := Lib.hid hra
  unfold maxLen at *
  clear hra hza
  have hlit := fun (x : Int) (w' : World) => literal_any x v w' h0 h1
  clear h0 h1
  go_enter Try.func25, Try.ntmps25
  go_wp2
  go_loopw [9] (fun i wr => ∃ k : Nat, k ≤ c.length ∧ i = .int .i64 k ∧ Hid (wr = w) ∧ Hid (∀ j, j < k → litB v (c.getD j 0) = true)) (fun i _ => c.length - (intOf i).toNat)
  case atStart => exact ⟨0, by omega, rfl, Lib.hid rfl, Lib.hid fun j h => absurd h (Nat.not_lt_zero j)⟩
  case round =>
    obtain ⟨k, hk, rfl, HW, HS⟩ := hrel
    rw [HW.out]
    clear HW
    by_cases hlt : k < c.length
    · obtain ⟨ad, rfl, hbl, hSS, hc⟩ := HRA.out (by omega)
      have hcx := hc k _ (ints_get c k hlt)
      clear hc hbl hSS
      have HMEM := Lib.hid (show c.getD k 0 ∈ c by simp [List.getD, hlt])
      have HG := Lib.hid (show ∀ j, j < k + 1 → j = k ∨ j < k by omega)
      obtain ⟨x, hx⟩ : ∃ x, x = c.getD k 0 := ⟨_, rfl⟩
      have HX := Lib.hid hx
      rw [← hx] at hcx HMEM
      clear hx
      have hcall := hlit x
      cases hb : litB v x
      · rw [hb] at hcall
        have HF := Lib.hid (show c.all (litB v) = false by
          rw [← Bool.not_eq_true, List.all_eq_true]
          exact fun h => by rw [h x HMEM.out] at hb; cases hb)
        clear hb
        go_wp2_with (go_at_call 40; refine (hcall _).mono ?_; rintro e w' ⟨rfl, rfl⟩)
        go_ret
        exact ⟨ret_bool HF.out.symm, rfl⟩
      · rw [hb] at hcall
        have HS' : Hid (∀ j, j < k + 1 → litB v (c.getD j 0) = true) := Lib.hid fun j hj => by
          rcases HG.out j hj with rfl | h
          · rw [← HX.out]; exact hb
          · exact HS.out j h
        clear hb
        go_wp2_with (go_at_call 40; refine (hcall _).mono ?_; rintro e w' ⟨rfl, rfl⟩)
        go_roundw
        case rel => exact ⟨k + 1, by omega, by go_num, Lib.hid (by first | trivial | rfl), HS'⟩
        case measure => simp [intOf]; omega
    · have HF := Lib.hid (show c.all (litB v) = true by
        rw [List.all_eq_true]
        intro x hx
        obtain ⟨j, hj, rfl⟩ := List.mem_iff_getElem.1 hx
        have := HS.out j (by omega)
        simpa [List.getD, hj] using this)
      go_wp2
      go_ret
      exact ⟨ret_bool HF.out.symm, rfl⟩
set_option maxRecDepth 100000 in
set_option maxHeartbeats 800000 in
theorem count_any (v : Int) (a : Value) (cs : List (List Int)) (w : World) (ha : RowsAt w a cs) (hs : countN cs ≤ 4000000) :
    Calls Try.prog 15 #[.agg #[.int .i64 v, a]] w fun e w' => e = .returned (.int .i64 (countN cs : Int)) ∧ Below w.heap.size w w' := by
  obtain ⟨A, ca, rfl, hla, hma⟩ := ha.form
  unfold maxLen at hma
  go_enter Try.func15, Try.ntmps15
  go_upto_region 2 with (fail)
  obtain ⟨W0, hW0, hg0, hb0, hz0, hbb⟩ := row_at w w (.cells #[.int .i64 v, .slice A cs.length ca] 24) (Below.refl _ _)
  rw [← hW0]
  have HA := Lib.hid (ha.below hb0)
  obtain ⟨hc0, hc1, hf0, hf1⟩ := cell_two hg0
  clear hW0 ha hz0 hg0
  go_wp2
  go_loopw [3, 9] (fun s i wr => ∃ k : Nat, k ≤ cs.length ∧ i = .int .i64 k ∧ s = .int .i64 (countN (cs.take k) : Nat) ∧ Hid (wr = W0)) (fun _ i _ => cs.length - (intOf i).toNat)
  case atStart => exact ⟨0, by omega, rfl, rfl, Lib.hid rfl⟩
  case round =>
    obtain ⟨k, hk, rfl, rfl, HW⟩ := hrel
    rw [HW.out]
    clear HW
    by_cases hlt : k < cs.length
    · obtain ⟨ad, u, rfl, hcu, hu⟩ := OutS.get HA.out k hlt
      obtain ⟨A', ca', rfl, hl', hm'⟩ := RdS.form hu
      have HT := Lib.hid (countN_take cs k hlt)
      have hle := countN_le cs (k + 1)
      rw [HT.out] at hle
      have hT' := HT.out
      rw [show (cs.getD k default) = cs.getD k [] from rfl] at *
      generalize (cs.getD k []).length = n at *
      generalize countN (cs.take k) = s at *
      clear hu
      have hwr : IntKind.i64.wrap ((s : Int) + (n : Int)) = (s : Int) + (n : Int) := IntWalk.i64_in _ (by omega)
      go_wp2
      go_roundw
      case rel => exact ⟨k + 1, by omega, by go_num, by rw [hT']; go_num, Lib.hid (by first | trivial | rfl)⟩
      case measure => simp [intOf]; omega
    · have HF := Lib.hid (show countN (cs.take k) = countN cs by rw [List.take_of_length_le (by omega)])
      go_wp2
      go_ret
      exact ⟨ret_int (by rw [HF.out]), hbb⟩
end Go.Proofs.Ytapaoccpbcjgeaa

/- cnf: Check. -/
namespace Go.Proofs.Ytapaoccpbcjgeaa
open Go.RowKit Go.BigFrame
open Cnf (litB countN)

/-- May a formula be? -/
def okN (v : Int) (cs : List (List Int)) : Bool := cs.all fun c => c.all (litB v)
def checkN (v : Int) (cs : List (List Int)) : Int := if 100000 < v ∨ 1000000 < countN cs then 160 else if v < 0 then 2 else if okN v cs = true then 0 else 2
set_option maxRecDepth 100000 in
set_option maxHeartbeats 800000 in
theorem check_any (v : Int) (a : Value) (cs : List (List Int)) (w : World) (ha : RowsAt w a cs) (hs : countN cs ≤ 4000000) :
    Calls Try.prog 12 #[.agg #[.int .i64 v, a]] w fun e w' => e = .returned (.int .i64 (checkN v cs)) ∧ Below w.heap.size w w' := by
  obtain ⟨A, ca, rfl, hla, hma⟩ := ha.form
  have HF := Lib.hid (show checkN v cs = if 100000 < v ∨ 1000000 < countN cs then 160 else if v < 0 then 2 else if okN v cs = true then 0 else 2 by unfold checkN; rfl)
  generalize checkN v cs = r at *
  unfold maxLen at hma
  go_enter Try.func12, Try.ntmps12
  go_upto_region 1 with (fail)
  obtain ⟨W0, hW0, hg0, hb0, hz0, hbb⟩ := row_at w w (.cells #[.int .i64 v, .slice A cs.length ca] 24) (Below.refl _ _)
  rw [← hW0]
  have HA := Lib.hid (ha.below hb0)
  obtain ⟨hc0, hc1, hf0, hf1⟩ := cell_two hg0
  clear hW0 ha
  by_cases hv : 100000 < v
  · have HR := Lib.hid (show r = 160 by rw [HF.out, if_pos (.inl hv)])
    go_wp2_with fail
    go_ret
    exact ⟨ret_int HR.out.symm, hbb⟩
  · go_wp2_with fail
    refine (count_any v _ cs _ HA.out hs).mono ?_
    rintro e w1 ⟨rfl, hb1⟩
    have hzz := hb1.size
    have hg1 := (hb1.block w.heap.size (by omega)).trans hg0
    obtain ⟨hd0, hd1, he0, he1⟩ := cell_two hg1
    have HA1 := Lib.hid (HA.out.below hb1)
    have hbb1 := below_step hbb hb1 hbb.size
    clear hb1 hg0 hg1 hc0 hc1 hf0 hf1 HA hzz hb0 hz0 hbb
    by_cases hn : 1000000 < countN cs
    · have HR := Lib.hid (show r = 160 by rw [HF.out, if_pos (.inr hn)])
      have hn' : (1000000 : Int) < (countN cs : Int) := by omega
      go_wp2_with fail
      go_ret
      exact ⟨ret_int HR.out.symm, hbb1⟩
    · have hn' : ¬ (1000000 : Int) < (countN cs : Int) := by omega
      have hno : ¬ (100000 < v ∨ 1000000 < countN cs) := by omega
      by_cases h0 : v < 0
      · have HR := Lib.hid (show r = 2 by rw [HF.out, if_neg hno, if_pos h0])
        clear hno hn
        go_wp2_with fail
        go_ret
        exact ⟨ret_int HR.out.symm, hbb1⟩
      · have HR := Lib.hid (show r = if okN v cs = true then 0 else 2 by rw [HF.out, if_neg hno, if_neg h0])
        clear hno hn HF
        have h1 : v ≤ 9223372036854775807 := by omega
        have h0' : 0 ≤ v := by omega
        go_wp2_with fail
        go_loopw [19] (fun i wr => ∃ k : Nat, k ≤ cs.length ∧ i = .int .i64 k ∧ Hid (wr = w1) ∧ Hid (∀ j, j < k → (cs.getD j []).all (litB v) = true)) (fun i _ => cs.length - (intOf i).toNat)
        case atStart => exact ⟨0, by omega, rfl, Lib.hid rfl, Lib.hid fun j h => absurd h (Nat.not_lt_zero j)⟩
        case round =>
          obtain ⟨k, hk, rfl, HW, HS⟩ := hrel
          rw [HW.out]
          clear HW
          by_cases hlt : k < cs.length
          · obtain ⟨ad, u, rfl, hcu, hu⟩ := OutS.get HA1.out k hlt
            obtain ⟨A', ca', rfl, hl', hm'⟩ := RdS.form hu
            rw [show (cs.getD k default) = cs.getD k [] from rfl] at *
            have hcall := fun w' (e : w' = w1) => literals_any _ (cs.getD k []) v AllB w' (e ▸ hu) h0' h1
            have HMEM := Lib.hid (show cs.getD k [] ∈ cs by simp [List.getD, hlt])
            have HG := Lib.hid (show ∀ j, j < k + 1 → j = k ∨ j < k by omega)
            clear hu
            cases hb : (cs.getD k []).all (litB v)
            · rw [hb] at hcall
              have HR' := Lib.hid (show r = 2 by
                rw [HR.out, if_neg]
                unfold okN
                rw [List.all_eq_true]
                exact fun h => by rw [h _ HMEM.out] at hb; cases hb)
              clear hb
              generalize (cs.getD k []).length = n at *
              go_wp2_with (go_at_call 25; refine (hcall _ rfl).mono ?_; rintro e w' ⟨rfl, rfl⟩)
              go_ret
              exact ⟨ret_int HR'.out.symm, hbb1⟩
            · rw [hb] at hcall
              have HS' : Hid (∀ j, j < k + 1 → (cs.getD j []).all (litB v) = true) := Lib.hid fun j hj => by
                rcases HG.out j hj with rfl | h
                · exact hb
                · exact HS.out j h
              clear hb
              generalize (cs.getD k []).length = n at *
              go_wp2_with (go_at_call 25; refine (hcall _ rfl).mono ?_; rintro e w' ⟨rfl, rfl⟩)
              go_roundw
              case rel => exact ⟨k + 1, by omega, by go_num, Lib.hid (by first | trivial | rfl), HS'⟩
              case measure => simp [intOf]; omega
          · have HR' := Lib.hid (show r = 0 by
              rw [HR.out, if_pos]
              unfold okN
              rw [List.all_eq_true]
              intro x hx
              obtain ⟨j, hj, rfl⟩ := List.mem_iff_getElem.1 hx
              have := HS.out j (by omega)
              simpa [List.getD, hj] using this)
            go_wp2
            go_ret
            exact ⟨ret_int HR'.out.symm, hbb1⟩
end Go.Proofs.Ytapaoccpbcjgeaa

/- cnf's reference: Count, Check, Has, size, ahead, True. -/
namespace Go.Proofs.Ytapaoccpbcjgeaa
open Go.RowKit Go.BigFrame
open Cnf (litB countN absI cmpN)

set_option maxRecDepth 100000 in
set_option maxHeartbeats 800000 in
theorem refCount_any (v : Int) (a : Value) (cs : List (List Int)) (w : World) (ha : RowsAt w a cs) (hs : countN cs ≤ 4000000) :
    Calls Try.prog 16 #[.agg #[.int .i64 v, a]] w fun e w' => e = .returned (.int .i64 (countN cs : Int)) ∧ Below w.heap.size w w' := by
  obtain ⟨A, ca, rfl, hla, hma⟩ := ha.form
  unfold maxLen at hma
  go_enter Try.func16, Try.ntmps16
  go_upto_region 2 with (fail)
  obtain ⟨W0, hW0, hg0, hb0, hz0, hbb⟩ := row_at w w (.cells #[.int .i64 v, .slice A cs.length ca] 30) (Below.refl _ _)
  rw [← hW0]
  have HA := Lib.hid (ha.below hb0)
  obtain ⟨hc0, hc1, hf0, hf1⟩ := cell_two hg0
  clear hW0 ha hz0 hg0
  go_wp2
  go_loopw [3, 4] (fun s i wr => ∃ k : Nat, k ≤ cs.length ∧ i = .int .i64 k ∧ s = .int .i64 (countN (cs.take k) : Nat) ∧ Hid (wr = W0)) (fun _ i _ => cs.length - (intOf i).toNat)
  case atStart => exact ⟨0, by omega, rfl, rfl, Lib.hid rfl⟩
  case round =>
    obtain ⟨k, hk, rfl, rfl, HW⟩ := hrel
    rw [HW.out]
    clear HW
    by_cases hlt : k < cs.length
    · obtain ⟨ad, u, rfl, hcu, hu⟩ := OutS.get HA.out k hlt
      obtain ⟨A', ca', rfl, hl', hm'⟩ := RdS.form hu
      have HT := Lib.hid (countN_take cs k hlt)
      have hle := countN_le cs (k + 1)
      rw [HT.out] at hle
      have hT' := HT.out
      rw [show (cs.getD k default) = cs.getD k [] from rfl] at *
      generalize (cs.getD k []).length = n at *
      generalize countN (cs.take k) = s at *
      clear hu
      have hwr : IntKind.i64.wrap ((s : Int) + (n : Int)) = (s : Int) + (n : Int) := IntWalk.i64_in _ (by omega)
      go_wp2
      go_roundw
      case rel => exact ⟨k + 1, by omega, by go_num, by rw [hT']; go_num, Lib.hid (by first | trivial | rfl)⟩
      case measure => simp [intOf]; omega
    · have HF := Lib.hid (show countN (cs.take k) = countN cs by rw [List.take_of_length_le (by omega)])
      go_wp2
      go_ret
      exact ⟨ret_int (by rw [HF.out]), hbb⟩
theorem size_any (x : Int) (w : World) (hx : -9223372036854775808 < x) (hx2 : x ≤ 9223372036854775807) : Calls Try.prog 39 #[.int .i64 x] w fun e w' => e = .returned (.int .i64 (absI x)) ∧ w' = w := by
  have hw : IntKind.i64.wrap (-x) = -x := IntWalk.i64_in _ (by omega)
  have HA := Lib.hid (show absI x = if x < 0 then -x else x by unfold absI; split <;> omega)
  generalize absI x = y at *
  go_enter Try.func39, Try.ntmps39
  by_cases h : x < 0
  · have HY := Lib.hid (show y = -x by rw [HA.out, if_pos h])
    go_wp2
    go_ret
    exact ⟨ret_int HY.out.symm, rfl⟩
  · have HY := Lib.hid (show y = x by rw [HA.out, if_neg h])
    go_wp2
    go_ret
    exact ⟨ret_int HY.out.symm, rfl⟩
set_option maxRecDepth 100000 in
set_option maxHeartbeats 800000 in
theorem has_any (a : Value) (c : List Int) (x : Int) (S : Nat → Prop) (w : World) (ha : IRow w S a c) :
    Calls Try.prog 30 #[a, .int .i64 x] w fun e w' => e = .returned (.bool (c.contains x)) ∧ w' = w := by
  obtain ⟨A, ca, rfl, hla, hma, hza, hra⟩ := ha
  have HRA := Lib.hid hra
  unfold maxLen at *
  clear hra hza
  go_enter Try.func30, Try.ntmps30
  go_wp2
  go_loopw [5] (fun i wr => ∃ k : Nat, k ≤ c.length ∧ i = .int .i64 k ∧ Hid (wr = w) ∧ Hid (∀ j, j < k → c.getD j 0 ≠ x)) (fun i _ => c.length - (intOf i).toNat)
  case atStart => exact ⟨0, by omega, rfl, Lib.hid rfl, Lib.hid fun j h => absurd h (Nat.not_lt_zero j)⟩
  case round =>
    obtain ⟨k, hk, rfl, HW, HS⟩ := hrel
    rw [HW.out]
    clear HW
    by_cases hlt : k < c.length
    · obtain ⟨ad, rfl, hbl, hSS, hc⟩ := HRA.out (by omega)
      have hcx := hc k _ (ints_get c k hlt)
      clear hc hbl hSS
      have HMEM := Lib.hid (show c.getD k 0 ∈ c by simp [List.getD, hlt])
      have HG := Lib.hid (show ∀ j, j < k + 1 → j = k ∨ j < k by omega)
      obtain ⟨y, hy⟩ : ∃ y, y = c.getD k 0 := ⟨_, rfl⟩
      have HY := Lib.hid hy
      rw [← hy] at hcx HMEM
      clear hy
      by_cases hb : y = x
      · have HF := Lib.hid (show c.contains x = true by rw [List.contains_iff_mem]; exact hb ▸ HMEM.out)
        subst hb
        go_wp2
        go_ret
        exact ⟨ret_bool HF.out.symm, rfl⟩
      · have HS' : Hid (∀ j, j < k + 1 → c.getD j 0 ≠ x) := Lib.hid fun j hj => by
          rcases HG.out j hj with rfl | h
          · rw [← HY.out]; exact hb
          · exact HS.out j h
        go_wp2
        go_roundw
        case rel => exact ⟨k + 1, by omega, by go_num, Lib.hid (by first | trivial | rfl), HS'⟩
        case measure => simp [intOf]; omega
    · have HF := Lib.hid (show c.contains x = false by
        rw [← Bool.not_eq_true, List.contains_iff_mem]
        intro hx
        obtain ⟨j, hj, e⟩ := List.mem_iff_getElem.1 hx
        exact HS.out j (by omega) (by simpa [List.getD, hj] using e))
      go_wp2
      go_ret
      exact ⟨ret_bool HF.out.symm, rfl⟩
set_option maxRecDepth 100000 in
set_option maxHeartbeats 800000 in
theorem ahead_any (a b : Int) (w : World) (ha : -9223372036854775808 < a) (ha2 : a ≤ 9223372036854775807) (hb : -9223372036854775808 < b) (hb2 : b ≤ 9223372036854775807) :
    Calls Try.prog 31 #[.int .i64 a, .int .i64 b] w fun e w' => e = .returned (.bool (decide (cmpN a b < 0))) ∧ w' = w := by
  obtain ⟨r, hr⟩ : ∃ r, r = decide (cmpN a b < 0) := ⟨_, rfl⟩
  have h1 := fun w' => size_any a w' ha ha2
  have h2 := fun w' => size_any b w' hb hb2
  have HR := Lib.hid (show r = true ↔ (absI a < absI b ∨ (absI a = absI b ∧ b < a)) by
    rw [hr, decide_eq_true_iff]
    unfold cmpN
    split <;> omega)
  rw [← hr]
  generalize absI a = x at *
  generalize absI b = y at *
  clear hr ha ha2 hb hb2
  go_enter Try.func31, Try.ntmps31
  go_wp2_with (go_at_call 39; first | (refine (h1 _).mono ?_; rintro e w' ⟨rfl, rfl⟩) | (refine (h2 _).mono ?_; rintro e w' ⟨rfl, rfl⟩))
  all_goals
    go_ret
    refine ⟨?_, rfl⟩
    have hrr := HR.out
    cases r <;> simp at hrr ⊢ <;> omega
end Go.Proofs.Ytapaoccpbcjgeaa

/- cnf's reference: Check; the law's plain, the kit's Few. -/
namespace Go.Proofs.Ytapaoccpbcjgeaa
open Go.RowKit Go.BigFrame
open Cnf (litB countN)

set_option maxRecDepth 100000 in
set_option maxHeartbeats 1600000 in
theorem refCheck_any (v : Int) (a : Value) (cs : List (List Int)) (w : World) (ha : RowsAt w a cs) (hs : countN cs ≤ 4000000) :
    Calls Try.prog 13 #[.agg #[.int .i64 v, a]] w fun e w' => e = .returned (.int .i64 (checkN v cs)) ∧ Below w.heap.size w w' := by
  obtain ⟨A, ca, rfl, hla, hma⟩ := ha.form
  have HF := Lib.hid (show checkN v cs = if 100000 < v ∨ 1000000 < countN cs then 160 else if v < 0 then 2 else if okN v cs = true then 0 else 2 by unfold checkN; rfl)
  generalize checkN v cs = r at *
  unfold maxLen at hma
  go_enter Try.func13, Try.ntmps13
  go_upto_region 1 with (fail)
  obtain ⟨W0, hW0, hg0, hb0, hz0, hbb⟩ := row_at w w (.cells #[.int .i64 v, .slice A cs.length ca] 30) (Below.refl _ _)
  rw [← hW0]
  have HA := Lib.hid (ha.below hb0)
  obtain ⟨hc0, hc1, hf0, hf1⟩ := cell_two hg0
  clear hW0 ha
  by_cases hv : 100000 < v
  · have HR := Lib.hid (show r = 160 by rw [HF.out, if_pos (.inl hv)])
    go_wp2_with fail
    go_ret
    exact ⟨ret_int HR.out.symm, hbb⟩
  · go_wp2_with fail
    refine (refCount_any v _ cs _ HA.out hs).mono ?_
    rintro e w1 ⟨rfl, hb1⟩
    have hzz := hb1.size
    have hg1 := (hb1.block w.heap.size (by omega)).trans hg0
    obtain ⟨hd0, hd1, he0, he1⟩ := cell_two hg1
    have HA1 := Lib.hid (HA.out.below hb1)
    have hbb1 := below_step hbb hb1 hbb.size
    have HG1 := Lib.hid hg1
    clear hb1 hg0 hg1 hc0 hc1 hf0 hf1 HA hzz hb0 hz0 hbb
    by_cases hn : 1000000 < countN cs
    · have HR := Lib.hid (show r = 160 by rw [HF.out, if_pos (.inr hn)])
      have hn' : (1000000 : Int) < (countN cs : Int) := by omega
      go_wp2_with fail
      go_ret
      exact ⟨ret_int HR.out.symm, hbb1⟩
    · have hn' : ¬ (1000000 : Int) < (countN cs : Int) := by omega
      have hno : ¬ (100000 < v ∨ 1000000 < countN cs) := by omega
      by_cases h0 : v < 0
      · have HR := Lib.hid (show r = 2 by rw [HF.out, if_neg hno, if_pos h0])
        clear hno hn
        go_wp2_with fail
        go_ret
        exact ⟨ret_int HR.out.symm, hbb1⟩
      · have HR := Lib.hid (show r = if okN v cs = true then 0 else 2 by rw [HF.out, if_neg hno, if_neg h0])
        clear hno hn HF
        have h1 : v ≤ 9223372036854775807 := by omega
        have h0' : 0 ≤ v := by omega
        go_wp2_with fail
        have HLIT := Lib.hid (fun (x : Int) (w' : World) => refLit_any x v w' h0' h1)
        clear hd0 hd1 he0 he1
        go_loopw [3] (fun i wr => ∃ k nq : Nat, k ≤ cs.length ∧ i = .int .i64 k ∧ Hid (wr = w1.drewN nq) ∧ Hid (∀ j, j < k → (cs.getD j []).all (litB v) = true)) (fun i _ => cs.length - (intOf i).toNat)
        case atStart => exact ⟨0, 0, by omega, rfl, Lib.hid rfl, Lib.hid fun j h => absurd h (Nat.not_lt_zero j)⟩
        case round =>
          obtain ⟨k, nq, hk, rfl, HW, HS⟩ := hrel
          have hbw : Below w1.heap.size w1 wr := by rw [HW.out]; exact below_drewN (Below.refl _ _) nq
          have hBB := below_step hbb1 hbw hbb1.size
          have HA2 := Lib.hid (HA1.out.below hbw)
          obtain ⟨hd0, hd1, he0, he1⟩ := cell_two ((hbw.block w.heap.size (block_lt HG1.out)).trans HG1.out)
          clear hbw
          by_cases hlt : k < cs.length
          · obtain ⟨ad, u, rfl, hcu, hu⟩ := OutS.get HA2.out k hlt
            obtain ⟨A', ca', rfl, hl', hm'⟩ := RdS.form hu
            unfold maxLen at hm'
            rw [show (cs.getD k default) = cs.getD k [] from rfl] at *
            have HMEM := Lib.hid (show cs.getD k [] ∈ cs by simp [List.getD, hlt])
            have HG := Lib.hid (show ∀ j, j < k + 1 → j = k ∨ j < k by omega)
            obtain ⟨c, hc⟩ : ∃ c, c = cs.getD k [] := ⟨_, rfl⟩
            have HC := Lib.hid hc
            rw [← hc] at hu hl' HMEM hcu
            clear hc
            have hk0 : (0 : Int) ≤ (k : Int) := by omega
            have hk1 : (k : Int) < (cs.length : Int) := by omega
            go_wp2_with fail
            generalize wr = wo at *
            go_loopw [4] (fun i wr => ∃ p nq2 : Nat, p ≤ c.length ∧ i = .int .i64 p ∧ Hid (wr = wo.drewN nq2) ∧ Hid (∀ j, j < p → litB v (c.getD j 0) = true)) (fun i _ => c.length - (intOf i).toNat)
            case atStart => exact ⟨0, 0, by omega, rfl, Lib.hid rfl, Lib.hid fun j h => absurd h (Nat.not_lt_zero j)⟩
            case round =>
              obtain ⟨p, nq2, hp, rfl, HW2, HS2⟩ := hrel
              have hcw : ∀ p, wr.cell? p = wo.cell? p := cell_drew HW2.out
              have hd0' := (hcw _).trans hd0
              have hd1' := (hcw _).trans hd1
              have hcu' := (hcw _).trans hcu
              have HB2 := Lib.hid (show Below w.heap.size w wr by rw [HW2.out]; exact below_drewN hBB _)
              by_cases hlt2 : p < c.length
              · obtain ⟨ad', rfl, hcx⟩ := IRow.get hu p hlt2
                have hcx' := (hcw _).trans hcx
                have HMEM2 := Lib.hid (show c.getD p 0 ∈ c by simp [List.getD, hlt2])
                have HG2 := Lib.hid (show ∀ j, j < p + 1 → j = p ∨ j < p by omega)
                obtain ⟨x, hx⟩ : ∃ x, x = c.getD p 0 := ⟨_, rfl⟩
                have HX := Lib.hid hx
                rw [← hx] at hcx' HMEM2
                have hcall := HLIT.out x
                have hp0 : (0 : Int) ≤ (p : Int) := by omega
                have hp1 : (p : Int) < (c.length : Int) := by omega
                clear hx hcx hcw hd0 hd1 hcu hu
                cases hb : litB v x
                · rw [hb] at hcall
                  have HCALL := Lib.hid hcall
                  have HR' := Lib.hid (show r = 2 by
                    rw [HR.out, if_neg]
                    unfold okN
                    rw [List.all_eq_true]
                    exact fun h => by rw [List.all_eq_true.1 (h _ HMEM.out) _ HMEM2.out] at hb; cases hb)
                  clear hb hcall
                  go_wp2_with fail
                  go_quiet ((go_at_call 26; exact Calls.quiet_of_same (HCALL.out _)))
                  go_wp2
                  go_ret
                  exact ⟨ret_int HR'.out.symm, below_drewN HB2.out _⟩
                · rw [hb] at hcall
                  have HCALL := Lib.hid hcall
                  have HS' : Hid (∀ j, j < p + 1 → litB v (c.getD j 0) = true) := Lib.hid fun j hj => by
                    rcases HG2.out j hj with rfl | h
                    · rw [← HX.out]; exact hb
                    · exact HS2.out j h
                  clear hb hcall
                  go_wp2_with fail
                  go_quiet ((go_at_call 26; exact Calls.quiet_of_same (HCALL.out _)))
                  go_wp2
                  go_roundw
                  case rel => exact ⟨p + 1, _, by omega, by go_num, Lib.hid (by rw [HW2.out]; exact World.drewN_drewN _ _ _), HS'⟩
                  case measure => simp [intOf]; omega
              · have HS' : Hid (∀ j, j < k + 1 → (cs.getD j []).all (litB v) = true) := Lib.hid fun j hj => by
                  rcases HG.out j hj with rfl | h
                  · rw [← HC.out, List.all_eq_true]
                    intro x hx
                    obtain ⟨i, hi, rfl⟩ := List.mem_iff_getElem.1 hx
                    have := HS2.out i (by omega)
                    simpa [List.getD, hi] using this
                  · exact HS.out j h
                clear hd0 hd1 hcu hu hcw
                go_wp2
                go_roundw
                case rel => exact ⟨k + 1, _, by omega, by go_num, Lib.hid (by rw [HW2.out, HW.out]; exact World.drewN_drewN _ _ _), HS'⟩
                case measure => simp [intOf]; omega
          · have HR' := Lib.hid (show r = 0 by
              rw [HR.out, if_pos]
              unfold okN
              rw [List.all_eq_true]
              intro x hx
              obtain ⟨j, hj, rfl⟩ := List.mem_iff_getElem.1 hx
              have := HS.out j (by omega)
              simpa [List.getD, hj] using this)
            go_wp2
            go_ret
            exact ⟨ret_int HR'.out.symm, hBB⟩
/-- A formula handed on to the reference. -/
theorem plain_any (v : Int) (A : Option Addr) (n cap : Nat) (w : World) : Calls Try.prog 14 #[.agg #[.int .i64 v, .slice A n cap]] w fun e w' => e = .returned (.agg #[.int .i64 v, .slice A n cap]) ∧ Below w.heap.size w w' := by
  go_enter Try.func14, Try.ntmps14
  go_wp2
  refine bodyPost_ret (v := .agg #[.int .i64 v, .slice A n cap]) (by simp [results, Try.results14, go_sem]) rfl ⟨rfl, ?_⟩
  exact ((Below.refl _ _).alloc (Nat.le_refl _) _).alloc (by simp) _
/-- Is all of a formula few? -/
def fewB (v : Int) (cs : List (List Int)) (m : Nat) : Bool := decide (v ≤ m ∧ cs.length ≤ m ∧ countN cs ≤ m)
set_option maxRecDepth 100000 in
set_option maxHeartbeats 1600000 in
theorem few_any (v : Int) (a : Value) (cs : List (List Int)) (m : Nat) (w : World) (hm : m ≤ 1000000) (ha : RowsAt w a cs) :
    Calls Try.prog 10 #[.int .i64 v, a, .int .i64 (m : Int)] w fun e w' => e = .returned (.bool (fewB v cs m)) ∧ w' = w := by
  obtain ⟨A, ca, rfl, hla, hma⟩ := ha.form
  unfold maxLen at hma
  have HA := Lib.hid ha
  have HF := Lib.hid (show fewB v cs m = true ↔ (v ≤ m ∧ cs.length ≤ m ∧ countN cs ≤ m) by unfold fewB; exact decide_eq_true_iff)
  generalize fewB v cs m = r at *
  clear ha
  go_enter Try.func10, Try.ntmps10
  by_cases h1 : (m : Int) < v
  · have HR := Lib.hid (show r = false by rw [← Bool.not_eq_true, HF.out]; omega)
    go_wp2
    go_ret
    exact ⟨ret_bool HR.out.symm, rfl⟩
  · by_cases h2 : (m : Int) < (cs.length : Int)
    · have HR := Lib.hid (show r = false by rw [← Bool.not_eq_true, HF.out]; omega)
      go_wp2
      go_ret
      exact ⟨ret_bool HR.out.symm, rfl⟩
    · have HR := Lib.hid (show r = true ↔ countN cs ≤ m by rw [HF.out]; omega)
      clear HF
      go_wp2
      go_loopw [7, 8] (fun s i wr => ∃ k : Nat, k ≤ cs.length ∧ i = .int .i64 k ∧ s = .int .i64 (countN (cs.take k) : Nat) ∧ countN (cs.take k) ≤ m ∧ Hid (wr = w)) (fun _ i _ => cs.length - (intOf i).toNat)
      case atStart => exact ⟨0, by omega, rfl, rfl, Nat.zero_le _, Lib.hid rfl⟩
      case round =>
        obtain ⟨k, hk, rfl, rfl, hkm, HW⟩ := hrel
        rw [HW.out]
        clear HW
        by_cases hlt : k < cs.length
        · obtain ⟨ad, u, rfl, hcu, hu⟩ := OutS.get HA.out k hlt
          obtain ⟨A', ca', rfl, hl', hm'⟩ := RdS.form hu
          unfold maxLen at hm'
          have HT := Lib.hid (countN_take cs k hlt)
          have hle := countN_le cs (k + 1)
          rw [HT.out] at hle
          have hT' := HT.out
          rw [show (cs.getD k default) = cs.getD k [] from rfl] at *
          generalize (cs.getD k []).length = n at *
          generalize countN (cs.take k) = s at *
          clear hu
          have hw1 : IntKind.i64.wrap ((m : Int) - (s : Int)) = (m : Int) - (s : Int) := IntWalk.i64_in _ (by omega)
          by_cases hn : (m : Int) - (s : Int) < (n : Int)
          · have HRR := Lib.hid (show r = false by rw [← Bool.not_eq_true, HR.out]; omega)
            go_wp2
            go_ret
            exact ⟨ret_bool HRR.out.symm, rfl⟩
          · have hwr : IntKind.i64.wrap ((s : Int) + (n : Int)) = (s : Int) + (n : Int) := IntWalk.i64_in _ (by omega)
            have hsm : s + n ≤ m := by omega
            go_wp2
            go_roundw
            case rel => exact ⟨k + 1, by omega, by go_num, by rw [hT']; go_num, by rw [hT']; exact hsm, Lib.hid (by first | trivial | rfl)⟩
            case measure => simp [intOf]; omega
        · have HRR := Lib.hid (show r = true by rw [HR.out, ← List.take_of_length_le (l := cs) (i := k) (by omega)]; exact hkm)
          go_wp2
          go_ret
          exact ⟨ret_bool HRR.out.symm, rfl⟩
end Go.Proofs.Ytapaoccpbcjgeaa
