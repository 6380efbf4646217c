/- cnf: does a literal, a clause hold in a model? The function value of Holds; the reference's True. -/
import Derived.Test.YtapaoccpbcjgeaaCnmA
import Derived.Test.YtapaoccpbcjgeaaCnmP
import Derived.LoopTactic
namespace Go.Proofs.Ytapaoccpbcjgeaa
open Go.RowKit Go.BigFrame
open Cnf (litB countN absI trueB)

def bools (ms : List Bool) : List Value := ms.map Value.bool
theorem bools_get (ms : List Bool) (k : Nat) (h : k < ms.length) : (bools ms)[k]? = some (.bool (ms.getD k false)) := by simp [bools, h]
def BoolR (w : World) (S : Nat → Prop) (v : Value) (ms : List Bool) : Prop := RdS w S v ms.length (bools ms)
theorem BoolR.keeps : Keeps BoolR := ⟨fun h hs => RdS.keep h hs, fun h hw => RdS.weak h hw⟩
theorem BoolR.get {w : World} {S : Nat → Prop} {A : Option Addr} {n cap : Nat} {ms : List Bool} (h : BoolR w S (.slice A n cap) ms) (k : Nat) (hk : k < ms.length) :
    ∃ ad, A = some ad ∧ w.cell? (ad.add k) = some (.bool (ms.getD k false)) := by
  obtain ⟨A', cap', e, _, _, _, h4⟩ := h
  cases e
  obtain ⟨ad, rfl, _, _, hc⟩ := h4 (by omega)
  exact ⟨ad, rfl, hc k _ (bools_get ms k hk)⟩
/-- The place of a literal's variable. -/
theorem place_of (x : Int) (n : Nat) (h0 : x ≠ 0) (h1 : absI x ≤ n) : ∃ k : Nat, (absI x).toNat - 1 = k ∧ absI x = (k : Int) + 1 ∧ k < n := by
  refine ⟨(absI x).toNat - 1, rfl, ?_, ?_⟩ <;> unfold absI at * <;> omega
set_option maxRecDepth 100000 in
set_option maxHeartbeats 800000 in
theorem true_any (x : Int) (mv : Value) (ms : List Bool) (S : Nat → Prop) (w : World) (hm : BoolR w S mv ms) (h0 : x ≠ 0) (h1 : absI x ≤ ms.length) :
    Calls Try.prog 24 #[.int .i64 x, mv] w fun e w' => e = .returned (.bool (trueB ms x)) ∧ w' = w := by
  obtain ⟨k, hk, hak, hkn⟩ := place_of x _ h0 h1
  obtain ⟨A, ca, rfl, hl, hma⟩ := RdS.form hm
  obtain ⟨ad, rfl, hc⟩ := BoolR.get hm k hkn
  unfold maxLen at hma
  have HT := Lib.hid (show trueB ms x = (ms.getD k false == decide (0 < x)) by unfold trueB; rw [hk])
  have hlo : -9223372036854775808 < x := by unfold absI at hak; omega
  have hhi : x ≤ 9223372036854775807 := by unfold absI at hak; omega
  have hsz := fun w' => size_any x w' hlo hhi
  rw [hak] at hsz
  generalize ms.getD k false = b at *
  generalize trueB ms x = r at *
  have hk0 : (0 : Int) ≤ (k : Int) := by omega
  have hk1 : (k : Int) < (ms.length : Int) := by omega
  have hw1 : IntKind.i64.wrap ((k : Int) + 1 - 1) = (k : Int) := by rw [show (k : Int) + 1 - 1 = (k : Int) by omega]; exact IntWalk.i64_in _ (by omega)
  clear hm hk hak h1 hkn hlo hhi
  go_enter Try.func24, Try.ntmps24
  go_wp2_with (go_at_call 39; refine (hsz _).mono ?_; rintro e w' ⟨rfl, rfl⟩)
  go_ret
  exact ⟨ret_bool (by rw [HT.out]), rfl⟩
set_option maxRecDepth 100000 in
set_option maxHeartbeats 800000 in
theorem holds1_any (x : Int) (g : Nat) (mv : Value) (ms : List Bool) (S : Nat → Prop) (w : World) (hg : w.cell? ⟨g, 0, none⟩ = some mv) (hm : BoolR w S mv ms) (h0 : x ≠ 0) (h1 : absI x ≤ ms.length) :
    Calls Try.prog 33 #[.int .i64 x, .pointer (some ⟨g, 0, none⟩)] w fun e w' => e = .returned (.bool (trueB ms x)) ∧ w' = w := by
  obtain ⟨k, hk, hak, hkn⟩ := place_of x _ h0 h1
  obtain ⟨A, ca, rfl, hl, hma⟩ := RdS.form hm
  obtain ⟨ad, rfl, hc⟩ := BoolR.get hm k hkn
  unfold maxLen at hma
  have HT := Lib.hid (show trueB ms x = (ms.getD k false == decide (0 < x)) by unfold trueB; rw [hk])
  have hnx : IntKind.i64.wrap (-x) = -x := IntWalk.i64_in _ (by unfold absI at hak; omega)
  unfold absI at hak
  generalize ms.getD k false = b at *
  generalize trueB ms x = r at *
  have hk0 : (0 : Int) ≤ (k : Int) := by omega
  have hk1 : (k : Int) < (ms.length : Int) := by omega
  have hw1 : IntKind.i64.wrap ((k : Int) + 1 - 1) = (k : Int) := by rw [show (k : Int) + 1 - 1 = (k : Int) by omega]; exact IntWalk.i64_in _ (by omega)
  clear hm hk h1 hkn
  by_cases hp : -x ≤ x
  · obtain rfl : x = (k : Int) + 1 := by omega
    have HR := Lib.hid (show r = (b == true) by rw [HT.out, decide_eq_true (show (0 : Int) < (k : Int) + 1 by omega)])
    have hpos : (0 : Int) < (k : Int) + 1 := by omega
    clear HT hak h0
    go_enter Try.func33, Try.ntmps33
    go_wp2
    go_ret
    exact ⟨ret_bool (by rw [HR.out]; first | rfl | simp), rfl⟩
  · obtain ⟨y, hy⟩ : ∃ y, y = -x := ⟨_, rfl⟩
    obtain rfl : x = -y := by omega
    obtain rfl : y = (k : Int) + 1 := by omega
    have HR := Lib.hid (show r = (b == false) by rw [HT.out, decide_eq_false (show ¬ (0 : Int) < -((k : Int) + 1) by omega)])
    have hpos : ¬ (0 : Int) < -((k : Int) + 1) := by omega
    have hn1 : -(-((k : Int) + 1)) = (k : Int) + 1 := by omega
    rw [hn1] at hnx hp
    have hn2 : IntKind.i64.wrap (-(-((k : Int) + 1))) = (k : Int) + 1 := by rw [hn1]; exact hnx
    clear HT hak h0 hy
    go_enter Try.func33, Try.ntmps33
    go_wp2
    go_ret
    exact ⟨ret_bool (by rw [HR.out]; first | rfl | simp), rfl⟩
set_option maxRecDepth 100000 in
set_option maxHeartbeats 800000 in
theorem index1_any (a : Value) (c : List Int) (g : Nat) (mv : Value) (ms : List Bool) (S S2 : Nat → Prop) (w : World) (ha : IRow w S2 a c) (hg : w.cell? ⟨g, 0, none⟩ = some mv) (hm : BoolR w S mv ms) (h0 : ∀ x ∈ c, x ≠ 0 ∧ absI x ≤ ms.length) :
    Calls Try.prog 43 #[a, .func (.func 33) #[] #[.pointer (some ⟨g, 0, none⟩)]] w fun e w' => (∃ i : Int, e = .returned (.int .i64 i) ∧ decide (0 ≤ i) = c.any (trueB ms)) ∧ w' = w := by
  obtain ⟨A, ca, rfl, hla, hma, hza, hra⟩ := ha
  have HRA := Lib.hid hra
  have HCL := Lib.hid (fun x hx => holds1_any x g mv ms S w hg hm (h0 x hx).1 (h0 x hx).2)
  unfold maxLen at *
  clear hra hza hg hm h0
  go_enter Try.func43, Try.ntmps43
  go_wp2
  go_loopw [8] (fun i wr => ∃ k : Nat, k ≤ c.length ∧ i = .int .i64 k ∧ Hid (wr = w) ∧ Hid (∀ j, j < k → trueB ms (c.getD j 0) = false)) (fun i _ => c.length - (intOf i).toNat)
  case atStart => exact ⟨0, by omega, rfl, Lib.hid rfl, Lib.hid fun j h => absurd h (Nat.not_lt_zero j)⟩
  case round =>
    obtain ⟨k, hk, rfl, HW, HS⟩ := hrel
    rw [HW.out]
    clear HW
    by_cases hlt : k < c.length
    · obtain ⟨ad, rfl, hbl, hSS, hc⟩ := HRA.out (by omega)
      have hcx := hc k _ (ints_get c k hlt)
      clear hc hbl hSS
      have HMEM := Lib.hid (show c.getD k 0 ∈ c by simp [List.getD, hlt])
      have HG := Lib.hid (show ∀ j, j < k + 1 → j = k ∨ j < k by omega)
      obtain ⟨x, hx⟩ : ∃ x, x = c.getD k 0 := ⟨_, rfl⟩
      have HX := Lib.hid hx
      rw [← hx] at hcx HMEM
      clear hx
      have hcall := HCL.out x HMEM.out
      cases hb : trueB ms x
      · rw [hb] at hcall
        have HS' : Hid (∀ j, j < k + 1 → trueB ms (c.getD j 0) = false) := Lib.hid fun j hj => by
          rcases HG.out j hj with rfl | h
          · rw [← HX.out]; exact hb
          · exact HS.out j h
        have HCALL := Lib.hid hcall
        clear hb hcall
        go_wp2_with (go_at_call 33; refine HCALL.out.mono ?_; rintro e w' ⟨rfl, rfl⟩)
        go_roundw
        case rel => exact ⟨k + 1, by omega, by go_num, Lib.hid (by first | trivial | rfl), HS'⟩
        case measure => simp [intOf]; omega
      · rw [hb] at hcall
        have HF := Lib.hid (show decide ((0 : Int) ≤ (k : Int)) = c.any (trueB ms) by
          rw [decide_eq_true (by omega)]
          exact (List.any_eq_true.2 ⟨x, HMEM.out, hb⟩).symm)
        have HCALL := Lib.hid hcall
        clear hb hcall
        go_wp2_with (go_at_call 33; refine HCALL.out.mono ?_; rintro e w' ⟨rfl, rfl⟩)
        go_ret
        exact ⟨⟨_, rfl, HF.out⟩, rfl⟩
    · have HF := Lib.hid (show decide ((0 : Int) ≤ -1) = c.any (trueB ms) by
        rw [decide_eq_false (by omega)]
        refine (Bool.not_eq_true _ ▸ fun h => ?_ : c.any (trueB ms) = false).symm
        obtain ⟨x, hx, hb⟩ := List.any_eq_true.1 h
        obtain ⟨j, hj, rfl⟩ := List.mem_iff_getElem.1 hx
        have := HS.out j (by omega)
        rw [show c.getD j 0 = c[j] by simp [List.getD, hj]] at this
        rw [this] at hb; cases hb)
      go_wp2
      go_ret
      exact ⟨⟨_, rfl, HF.out⟩, rfl⟩
theorem contains1_any (a : Value) (c : List Int) (g : Nat) (mv : Value) (ms : List Bool) (S S2 : Nat → Prop) (w : World) (ha : IRow w S2 a c) (hg : w.cell? ⟨g, 0, none⟩ = some mv) (hm : BoolR w S mv ms) (h0 : ∀ x ∈ c, x ≠ 0 ∧ absI x ≤ ms.length) :
    Calls Try.prog 32 #[a, .func (.func 33) #[] #[.pointer (some ⟨g, 0, none⟩)]] w fun e w' => e = .returned (.bool (c.any (trueB ms))) ∧ w' = w := by
  have H := Lib.hid (index1_any a c g mv ms S S2 w ha hg hm h0)
  obtain ⟨A, ca, rfl, hl, hma⟩ := RdS.form ha
  generalize c.any (trueB ms) = r at *
  clear ha hg hm h0
  go_enter Try.func32, Try.ntmps32
  go_wp2_with fail
  refine H.out.mono ?_
  rintro e w' ⟨⟨i, rfl, hi⟩, rfl⟩
  have HI := Lib.hid hi
  clear hi
  go_wp2
  go_ret
  exact ⟨ret_bool HI.out, rfl⟩
end Go.Proofs.Ytapaoccpbcjgeaa

/- cnf: Holds, the package's and the reference's. -/
namespace Go.Proofs.Ytapaoccpbcjgeaa
open Go.RowKit Go.BigFrame
open Cnf (litB countN absI trueB holdB)

def holdsN (v : Int) (cs : List (List Int)) (ms : List Bool) : Bool := decide (checkN v cs = 0 ∧ v ≤ ms.length) && holdB ms cs
theorem check_ok {v : Int} {cs : List (List Int)} (h : checkN v cs = 0) : 0 ≤ v ∧ v ≤ 100000 ∧ countN cs ≤ 1000000 ∧ ∀ c ∈ cs, ∀ x ∈ c, x ≠ 0 ∧ absI x ≤ v := by
  unfold checkN at h
  split at h
  · cases h
  · rename_i h1
    split at h
    · cases h
    · split at h
      · rename_i h2 h3
        refine ⟨by omega, by omega, by omega, fun c hc x hx => ?_⟩
        have := List.all_eq_true.1 (List.all_eq_true.1 h3 c hc) x hx
        unfold litB at this
        rw [decide_eq_true_eq] at this
        refine ⟨this.1, ?_⟩
        unfold absI; omega
      · cases h
theorem no_any {ms : List Bool} {cs : List (List Int)} {c : List Int} (hc : c ∈ cs) (h : c.any (trueB ms) = false) : holdB ms cs = false := by
  rw [← Bool.not_eq_true]
  intro h2
  unfold holdB at h2
  have := List.all_eq_true.1 h2 c hc
  rw [h] at this; cases this
theorem all_any {ms : List Bool} {cs : List (List Int)} (h : ∀ j, j < cs.length → (cs.getD j []).any (trueB ms) = true) : holdB ms cs = true := by
  unfold holdB
  rw [List.all_eq_true]
  intro x hx
  obtain ⟨j, hj, rfl⟩ := List.mem_iff_getElem.1 hx
  have := h j hj
  rwa [show cs.getD j [] = cs[j] by simp [List.getD, hj]] at this
theorem cell_one {w : World} {g : Nat} {T : TypeId} {x : Value} (h : w.heap[g]? = some (.cells #[x] T (0, 0))) : w.cell? ⟨g, 0, none⟩ = some x := by rw [cell_of_row _ _ _ _ _ _ h]; rfl
set_option maxRecDepth 100000 in
set_option maxHeartbeats 1600000 in
theorem holds_any (v : Int) (a mv : Value) (cs : List (List Int)) (ms : List Bool) (w : World) (ha : RowsAt w a cs) (hm : BoolR w AllB mv ms) (hs : countN cs ≤ 4000000) :
    Calls Try.prog 20 #[.agg #[.int .i64 v, a], mv] w fun e w' => e = .returned (.bool (holdsN v cs ms)) ∧ Below w.heap.size w w' := by
  obtain ⟨A, ca, rfl, hla, hma⟩ := ha.form
  obtain ⟨M, cm, rfl, hlm, hmm⟩ := RdS.form hm
  unfold maxLen at hma hmm
  have HF := Lib.hid (show holdsN v cs ms = (decide (checkN v cs = 0 ∧ v ≤ ms.length) && holdB ms cs) by unfold holdsN; rfl)
  generalize holdsN v cs ms = r at *
  go_enter Try.func20, Try.ntmps20
  go_upto_region 1 with (fail)
  obtain ⟨W0, hW0, hg0, hg1, hb0, hz0⟩ := rows2 w (.cells #[.int .i64 v, .slice A cs.length ca] 24) (.cells #[.slice M ms.length cm] 40)
  rw [← hW0]
  have HA := Lib.hid (ha.below hb0)
  have HM := Lib.hid (hm.below hb0)
  obtain ⟨hc0, hc1, hf0, hf1⟩ := cell_two hg0
  clear hW0 ha hm
  go_wp2_with fail
  refine (check_any v _ cs _ HA.out hs).mono ?_
  rintro e w1 ⟨rfl, hb1⟩
  have hzz := hb1.size
  have HG0 := Lib.hid ((hb1.block w.heap.size (by omega)).trans hg0)
  have HG1 := Lib.hid ((hb1.block (w.heap.size + 1) (by omega)).trans hg1)
  have HA1 := Lib.hid (HA.out.below hb1)
  have HM1 := Lib.hid (RdS.below HM.out hb1)
  have hbb1 := below_step hb0 hb1 hb0.size
  obtain ⟨hd0, hd1, he0, he1⟩ := cell_two HG0.out
  have hd2 := cell_one HG1.out
  clear hb1 hg0 hg1 hc0 hc1 hf0 hf1 HA HM hzz hb0 hz0
  by_cases hck : checkN v cs = 0
  · have HOK := Lib.hid (check_ok hck)
    have hck' : (checkN v cs != 0) = false := by rw [hck]; rfl
    by_cases hv : (ms.length : Int) < v
    · have HR := Lib.hid (show r = false by rw [HF.out, decide_eq_false (by omega), Bool.false_and])
      rw [hck]
      clear hck hck'
      go_wp2_with fail
      go_ret
      exact ⟨ret_bool HR.out.symm, hbb1⟩
    · have HR := Lib.hid (show r = holdB ms cs by rw [HF.out, decide_eq_true ⟨hck, by omega⟩, Bool.true_and])
      have HL := Lib.hid (show ∀ c ∈ cs, ∀ x ∈ c, x ≠ 0 ∧ absI x ≤ ms.length from fun c hc x hx => ⟨(HOK.out.2.2.2 c hc x hx).1, by have := (HOK.out.2.2.2 c hc x hx).2; omega⟩)
      rw [hck]
      clear hck hck' HF HOK
      go_wp2_with fail
      go_loopw [20] (fun i wr => ∃ k : Nat, k ≤ cs.length ∧ i = .int .i64 k ∧ Hid (wr = w1) ∧ Hid (∀ j, j < k → (cs.getD j []).any (trueB ms) = true)) (fun i _ => cs.length - (intOf i).toNat)
      case atStart => exact ⟨0, by omega, rfl, Lib.hid rfl, Lib.hid fun j h => absurd h (Nat.not_lt_zero j)⟩
      case round =>
        obtain ⟨k, hk, rfl, HW, HS⟩ := hrel
        rw [HW.out]
        clear HW
        by_cases hlt : k < cs.length
        · obtain ⟨ad, u, rfl, hcu, hu⟩ := OutS.get HA1.out k hlt
          obtain ⟨A', ca', rfl, hl', hm'⟩ := RdS.form hu
          rw [show (cs.getD k default) = cs.getD k [] from rfl] at *
          have HMEM := Lib.hid (show cs.getD k [] ∈ cs by simp [List.getD, hlt])
          have HG := Lib.hid (show ∀ j, j < k + 1 → j = k ∨ j < k by omega)
          have HCALL := Lib.hid (contains1_any _ (cs.getD k []) (w.heap.size + 1) _ ms _ _ w1 hu hd2 HM1.out (HL.out _ HMEM.out))
          clear hu
          cases hb : (cs.getD k []).any (trueB ms)
          · rw [hb] at HCALL
            have HR' := Lib.hid (show r = false by rw [HR.out]; exact no_any HMEM.out hb)
            clear hb
            generalize (cs.getD k []).length = n at *
            go_wp2_with (go_at_call 32; refine HCALL.out.mono ?_; rintro e w' ⟨rfl, rfl⟩)
            go_ret
            exact ⟨ret_bool HR'.out.symm, hbb1⟩
          · rw [hb] at HCALL
            have HS' : Hid (∀ j, j < k + 1 → (cs.getD j []).any (trueB ms) = true) := Lib.hid fun j hj => by
              rcases HG.out j hj with rfl | h
              · exact hb
              · exact HS.out j h
            clear hb
            generalize (cs.getD k []).length = n at *
            go_wp2_with (go_at_call 32; refine HCALL.out.mono ?_; rintro e w' ⟨rfl, rfl⟩)
            go_roundw
            case rel => exact ⟨k + 1, by omega, by go_num, Lib.hid (by first | trivial | rfl), HS'⟩
            case measure => simp [intOf]; omega
        · have HR' := Lib.hid (show r = true by
            rw [HR.out]
            exact all_any fun j hj => HS.out j (by omega))
          go_wp2
          go_ret
          exact ⟨ret_bool HR'.out.symm, hbb1⟩
  · have HR := Lib.hid (show r = false by rw [HF.out, decide_eq_false (fun h => hck h.1), Bool.false_and])
    have hck' : (checkN v cs != 0) = true := by rw [bne_iff_ne]; exact hck
    clear HF
    generalize checkN v cs = q at *
    go_wp2_with fail
    go_ret
    exact ⟨ret_bool HR.out.symm, hbb1⟩
end Go.Proofs.Ytapaoccpbcjgeaa

/- cnf's reference: Holds. -/
namespace Go.Proofs.Ytapaoccpbcjgeaa
open Go.RowKit Go.BigFrame
open Cnf (litB countN absI trueB holdB)

theorem any_take (ms : List Bool) (c : List Int) (k : Nat) (h : k < c.length) : (c.take (k + 1)).any (trueB ms) = ((c.take k).any (trueB ms) || trueB ms (c.getD k 0)) := by
  rw [List.take_succ_eq_append_getElem h, List.any_append]
  simp [List.getD, h]
set_option maxRecDepth 100000 in
set_option maxHeartbeats 1600000 in
theorem refHolds_any (v : Int) (a mv : Value) (cs : List (List Int)) (ms : List Bool) (w : World) (ha : RowsAt w a cs) (hm : BoolR w AllB mv ms) (hs : countN cs ≤ 4000000) :
    Calls Try.prog 21 #[.agg #[.int .i64 v, a], mv] w fun e w' => e = .returned (.bool (holdsN v cs ms)) ∧ Below w.heap.size w w' := by
  obtain ⟨A, ca, rfl, hla, hma⟩ := ha.form
  obtain ⟨M, cm, rfl, hlm, hmm⟩ := RdS.form hm
  unfold maxLen at hma hmm
  have HF := Lib.hid (show holdsN v cs ms = (decide (checkN v cs = 0 ∧ v ≤ ms.length) && holdB ms cs) by unfold holdsN; rfl)
  generalize holdsN v cs ms = r at *
  go_enter Try.func21, Try.ntmps21
  go_upto_region 1 with (fail)
  obtain ⟨W0, hW0, hg0, hb0, hz0, hbb⟩ := row_at w w (.cells #[.int .i64 v, .slice A cs.length ca] 30) (Below.refl _ _)
  rw [← hW0]
  have HA := Lib.hid (ha.below hb0)
  have HM := Lib.hid (RdS.below hm hb0)
  obtain ⟨hc0, hc1, hf0, hf1⟩ := cell_two hg0
  clear hW0 ha hm
  go_wp2_with fail
  refine (refCheck_any v _ cs _ HA.out hs).mono ?_
  rintro e w1 ⟨rfl, hb1⟩
  have hzz := hb1.size
  have HG0 := Lib.hid ((hb1.block w.heap.size (by omega)).trans hg0)
  have HA1 := Lib.hid (HA.out.below hb1)
  have HM1 := Lib.hid (RdS.below HM.out hb1)
  have hbb1 := below_step hbb hb1 hbb.size
  obtain ⟨hd0, hd1, he0, he1⟩ := cell_two HG0.out
  clear hb1 hg0 hc0 hc1 hf0 hf1 HA HM hzz hb0 hz0 hbb
  by_cases hck : checkN v cs = 0
  · have HOK := Lib.hid (check_ok hck)
    by_cases hv : (ms.length : Int) < v
    · have HR := Lib.hid (show r = false by rw [HF.out, decide_eq_false (by omega), Bool.false_and])
      rw [hck]
      clear hck
      go_wp2_with fail
      go_ret
      exact ⟨ret_bool HR.out.symm, hbb1⟩
    · have HR := Lib.hid (show r = holdB ms cs by rw [HF.out, decide_eq_true ⟨hck, by omega⟩, Bool.true_and])
      have HL := Lib.hid (show ∀ c ∈ cs, ∀ x ∈ c, x ≠ 0 ∧ absI x ≤ ms.length from fun c hc x hx => ⟨(HOK.out.2.2.2 c hc x hx).1, by have := (HOK.out.2.2.2 c hc x hx).2; omega⟩)
      rw [hck]
      clear hck HF HOK
      go_wp2_with fail
      go_loopw [5] (fun i wr => ∃ k : Nat, k ≤ cs.length ∧ i = .int .i64 k ∧ Hid (wr = w1) ∧ Hid (∀ j, j < k → (cs.getD j []).any (trueB ms) = true)) (fun i _ => cs.length - (intOf i).toNat)
      case atStart => exact ⟨0, by omega, rfl, Lib.hid rfl, Lib.hid fun j h => absurd h (Nat.not_lt_zero j)⟩
      case round =>
        obtain ⟨k, hk, rfl, HW, HS⟩ := hrel
        rw [HW.out]
        by_cases hlt : k < cs.length
        · obtain ⟨ad, u, rfl, hcu, hu⟩ := OutS.get HA1.out k hlt
          obtain ⟨A', ca', rfl, hl', hm'⟩ := RdS.form hu
          unfold maxLen at hm'
          rw [show (cs.getD k default) = cs.getD k [] from rfl] at *
          have HMEM := Lib.hid (show cs.getD k [] ∈ cs by simp [List.getD, hlt])
          have HG := Lib.hid (show ∀ j, j < k + 1 → j = k ∨ j < k by omega)
          obtain ⟨c, hc⟩ : ∃ c, c = cs.getD k [] := ⟨_, rfl⟩
          have HC := Lib.hid hc
          rw [← hc] at hu hl' HMEM hcu
          have HLC := Lib.hid (HL.out c HMEM.out)
          clear hc
          go_wp2_with fail
          clear HW
          generalize wr = wo at *
          go_loopw [6, 7] (fun s i wr => ∃ p : Nat, p ≤ c.length ∧ i = .int .i64 p ∧ s = .bool ((c.take p).any (trueB ms)) ∧ Hid (wr = w1)) (fun _ i _ => c.length - (intOf i).toNat)
          case atStart => exact ⟨0, by omega, rfl, rfl, Lib.hid rfl⟩
          case round =>
            obtain ⟨p, hp, rfl, rfl, HW⟩ := hrel
            rw [HW.out]
            clear HW
            by_cases hlt2 : p < c.length
            · obtain ⟨ad', rfl, hcx⟩ := IRow.get hu p hlt2
              have HT := Lib.hid (any_take ms c p hlt2)
              have HX := HLC.out (c.getD p 0) (by simp [List.getD, hlt2])
              have HCALL := Lib.hid (true_any (c.getD p 0) _ ms AllB w1 HM1.out HX.1 HX.2)
              generalize c.getD p 0 = x at *
              cases hs : (c.take p).any (trueB ms)
              · rw [hs, Bool.false_or] at HT
                have HT' := HT.out
                generalize trueB ms x = tb at *
                clear HX hs
                go_wp2_with (go_at_call 24; refine HCALL.out.mono ?_; rintro e w' ⟨rfl, rfl⟩)
                go_roundw
                case rel => exact ⟨p + 1, by omega, by go_num, by rw [HT'], Lib.hid (by first | trivial | rfl)⟩
                case measure => simp [intOf]; omega
              · rw [hs, Bool.true_or] at HT
                have HT' := HT.out
                clear HX hs HCALL
                go_wp2
                go_roundw
                case rel => exact ⟨p + 1, by omega, by go_num, by rw [HT'], Lib.hid (by first | trivial | rfl)⟩
                case measure => simp [intOf]; omega
            · have HE := Lib.hid (show (c.take p).any (trueB ms) = c.any (trueB ms) by rw [List.take_of_length_le (by omega)])
              cases hb : (c.take p).any (trueB ms)
              · have HR' := Lib.hid (show r = false by rw [HR.out]; exact no_any HMEM.out (by rw [← HE.out]; exact hb))
                clear hb
                go_wp2
                go_ret
                exact ⟨ret_bool HR'.out.symm, hbb1⟩
              · have HS' : Hid (∀ j, j < k + 1 → (cs.getD j []).any (trueB ms) = true) := Lib.hid fun j hj => by
                  rcases HG.out j hj with rfl | h
                  · rw [← HC.out, ← HE.out]; exact hb
                  · exact HS.out j h
                clear hb
                go_wp2
                go_roundw
                case rel => exact ⟨k + 1, by omega, by go_num, Lib.hid (by first | trivial | rfl), HS'⟩
                case measure => simp [intOf]; omega
        · have HR' := Lib.hid (show r = true by
            rw [HR.out]
            exact all_any fun j hj => HS.out j (by omega))
          go_wp2
          go_ret
          exact ⟨ret_bool HR'.out.symm, hbb1⟩
  · have HR := Lib.hid (show r = false by rw [HF.out, decide_eq_false (fun h => hck h.1), Bool.false_and])
    have hck' : (checkN v cs != 0) = true := by rw [bne_iff_ne]; exact hck
    clear HF
    generalize checkN v cs = q at *
    go_wp2_with fail
    go_ret
    exact ⟨ret_bool HR.out.symm, hbb1⟩
end Go.Proofs.Ytapaoccpbcjgeaa
