/- files: the reference's may, but for directories. -/
import Derived.Test.YtmcafiihicanfaaDoorFilSc
set_option linter.unusedVariables false
set_option linter.unusedSimpArgs false
namespace Go.Proofs.YtmcafiihicanfaaDoor
open Go Go.RowKit Go.BigFrame
open Fil (Es Nd Sp)

theorem es_nil {es : Es} (h : es.len = 0) : es = .nil := by
  cases es with
  | nil => rfl
  | cons _ _ _ _ _ => simp [Es.len] at h
theorem may_file (k : Nat) (d : ByteArray) (es : Es) (hk : k = 1 ∨ k = 2) : Nd.may ⟨k, d, es⟩ = (decide ((d.size : Int) ≤ 65536) && ((es.len : Int) == 0)) := by
  unfold Nd.may Fil.okB
  simp only [if_pos hk]
  by_cases h : es.len = 0
  · have := es_nil h
    subst this
    have e : decide (d.size ≤ 65536) = decide ((d.size : Int) ≤ 65536) := by rw [decide_eq_decide]; omega
    rw [e]
    simp [Es.may, Es.len]
  · have h2 : ((es.len : Int) == 0) = false := beq_eq_false_iff_ne.2 (by omega)
    rw [h2, decide_eq_false h]
    simp
theorem may_link (d : ByteArray) (es : Es) : Nd.may ⟨3, d, es⟩ = (decide ((1 : Int) ≤ (d.size : Int)) && decide ((d.size : Int) ≤ 255) && ((es.len : Int) == 0) && !d.data.toList.any (· == 0)) := by
  unfold Nd.may Fil.okB
  have e1 : decide (1 ≤ d.size) = decide ((1 : Int) ≤ (d.size : Int)) := by rw [decide_eq_decide]; omega
  have e2 : decide (d.size ≤ 255) = decide ((d.size : Int) ≤ 255) := by rw [decide_eq_decide]; omega
  simp only [if_neg (show ¬ ((3 : Nat) = 1 ∨ (3 : Nat) = 2) by omega), if_pos rfl, e1, e2]
  by_cases h : es.len = 0
  · have := es_nil h
    subst this
    simp [Es.may, Es.len]
  · have h2 : ((es.len : Int) == 0) = false := beq_eq_false_iff_ne.2 (by omega)
    rw [h2, decide_eq_false h]
    simp
theorem may_other (k : Nat) (d : ByteArray) (es : Es) (h1 : k ≠ 1) (h2 : k ≠ 2) (h3 : k ≠ 3) (h4 : k ≠ 4) : Nd.may ⟨k, d, es⟩ = false := by
  unfold Nd.may Fil.okB
  simp only [if_neg (show ¬ (k = 1 ∨ k = 2) by omega), if_neg h3, if_neg h4]
  rfl
set_option maxRecDepth 1000000 in
set_option maxRecDepth 100000 in
set_option maxHeartbeats 4000000 in
theorem refMay_file (k : Nat) (d : ByteArray) (es : Es) (hk : k = 1 ∨ k = 2) (w : World) (B : Nat) (v : Value) (hv : NdV w B v ⟨k, d, es⟩) :
    Calls Tryd.prog 42 #[v] w fun e W => e = .returned (.bool (Nd.may ⟨k, d, es⟩)) ∧ Below w.heap.size w W := by
  obtain ⟨ev, rfl, hes, hd, _⟩ := hv
  simp only at hes hd
  obtain ⟨A, c, rfl, hlc, hcm⟩ := hes.form
  have HM := Lib.hid (may_file k d es hk)
  have hbw : Below w.heap.size w (w.alloc (.cells #[.int .u8 (k : Int), .string d, .slice A es.len c] 26)) := (Below.refl _ _).alloc (Nat.le_refl _) _
  have HB := Lib.hid hbw
  clear hbw
  rcases hk with rfl | rfl
  all_goals
    go_enter Tryd.func42, Tryd.ntmps42
    rcases Bool.eq_false_or_eq_true (decide ((d.size : Int) ≤ 65536)) with h1 | h1
    · rcases Bool.eq_false_or_eq_true ((es.len : Int) == 0) with h2 | h2
      · have HF := Lib.hid (HM.out.trans (show _ = true by rw [h1, h2]; rfl))
        go_wp2
        go_ret
        exact ⟨by rw [HF.out]; rfl, HB.out⟩
      · have HF := Lib.hid (HM.out.trans (show _ = false by rw [h1, h2]; rfl))
        go_wp2
        go_ret
        exact ⟨by rw [HF.out]; rfl, HB.out⟩
    · have HF := Lib.hid (HM.out.trans (show _ = false by rw [h1]; rfl))
      go_wp2
      go_ret
      exact ⟨by rw [HF.out]; rfl, HB.out⟩
set_option maxRecDepth 1000000 in
set_option maxRecDepth 100000 in
set_option maxHeartbeats 4000000 in
theorem refMay_other (k : Nat) (d : ByteArray) (es : Es) (h1 : k ≠ 1) (h2 : k ≠ 2) (h3 : k ≠ 3) (h4 : k ≠ 4) (w : World) (B : Nat) (v : Value) (hv : NdV w B v ⟨k, d, es⟩) :
    Calls Tryd.prog 42 #[v] w fun e W => e = .returned (.bool (Nd.may ⟨k, d, es⟩)) ∧ Below w.heap.size w W := by
  obtain ⟨ev, rfl, hes, hd, _⟩ := hv
  simp only at hes hd
  obtain ⟨A, c, rfl, hlc, hcm⟩ := hes.form
  have HF := Lib.hid (may_other k d es h1 h2 h3 h4)
  have HB := Lib.hid (show Below w.heap.size w (w.alloc (.cells #[.int .u8 (k : Int), .string d, .slice A es.len c] 26)) from (Below.refl _ _).alloc (Nat.le_refl _) _)
  have e1 : ((k : Int) == 1) = false := beq_eq_false_iff_ne.2 (by omega)
  have e2 : ((k : Int) == 2) = false := beq_eq_false_iff_ne.2 (by omega)
  have e3 : ((k : Int) == 3) = false := beq_eq_false_iff_ne.2 (by omega)
  have e4 : ((k : Int) == 4) = false := beq_eq_false_iff_ne.2 (by omega)
  clear h1 h2 h3 h4
  go_enter Tryd.func42, Tryd.ntmps42
  go_wp2
  go_ret
  exact ⟨by rw [HF.out]; rfl, HB.out⟩
/-- The first bytes of a text are none of them zero. -/
def NoZero (s : ByteArray) (i : Nat) : Prop := ∀ (j : Nat) (b : UInt8), j < i → s.data.toList[j]? = some b → (b == 0) = false
theorem NoZero.all {s : ByteArray} {i : Nat} (h : NoZero s i) (hi : s.size ≤ i) : s.data.toList.any (· == 0) = false := by
  rw [List.any_eq_false]
  intro b hb
  obtain ⟨j, hj, rfl⟩ := List.getElem_of_mem hb
  have := h j _ (by have := Lib.size_eq s; omega) (List.getElem?_eq_getElem hj)
  rw [this]
  exact Bool.false_ne_true
set_option maxRecDepth 1000000 in
set_option maxRecDepth 100000 in
set_option maxHeartbeats 4000000 in
theorem refMay_link (d : ByteArray) (es : Es) (w : World) (B : Nat) (v : Value) (hv : NdV w B v ⟨3, d, es⟩) :
    Calls Tryd.prog 42 #[v] w fun e W => e = .returned (.bool (Nd.may ⟨3, d, es⟩)) ∧ Below w.heap.size w W := by
  obtain ⟨ev, rfl, hes, hd, _⟩ := hv
  simp only at hes hd
  obtain ⟨A, c, rfl, hlc, hcm⟩ := hes.form
  have HM := Lib.hid (may_link d es)
  obtain ⟨W0, e0, hg0, hb0⟩ : ∃ W0, W0 = w.alloc (.cells #[.int .u8 3, .string d, .slice A es.len c] 26) ∧ W0.heap[w.heap.size]? = some (.cells #[.int .u8 3, .string d, .slice A es.len c] 26 (0, 0)) ∧ Below w.heap.size w W0 := ⟨_, rfl, heap_alloc_new _ _, (Below.refl _ _).alloc (Nat.le_refl _) _⟩
  go_enter Tryd.func42, Tryd.ntmps42
  go_upto_region 1 with (fail)
  rw [← e0]
  obtain ⟨hn0, hn1, hn2, _⟩ := nd_box (W := W0) (k := 3) (d := d) (v := .slice A es.len c) hg0
  have HB := Lib.hid hb0
  clear e0 hg0 hb0 hes
  go_wp2
  clear hn0
  obtain ⟨n, hn⟩ : ∃ n, n = min d.size 256 := ⟨_, rfl⟩
  have hnd : n ≤ d.size := by omega
  have hn256 : n ≤ 256 := by omega
  have HN := Lib.hid hn
  clear hn
  go_loopg [3] n (fun g u3 wx => ∃ i : Nat, u3 = .int .i64 (i : Int) ∧ i + g = n ∧ wx = W0 ∧ Hid (NoZero d i))
  case atStart => exact ⟨0, rfl, by omega, rfl, fun j b hj => by omega⟩
  case round =>
    obtain ⟨i, rfl, hig, rfl, HNZ⟩ := hrel
    cases gk with
    | zero =>
      obtain rfl : i = n := by omega
      rcases Bool.eq_false_or_eq_true (decide ((d.size : Int) ≤ 255)) with h2 | h2
      rotate_left
      · have h2' : ¬ d.size ≤ 255 := fun h => by rw [decide_eq_true (by omega)] at h2; cases h2
        have hi2 : i = 256 := by have := HN.out; omega
        have HF := Lib.hid (HM.out.trans (show _ = false by rw [h2]; simp))
        have h1 : decide ((1 : Int) ≤ (d.size : Int)) = true := decide_eq_true (by omega)
        have hc : ¬ i < 256 := by omega
        have hcI : ¬ (i : Int) < 256 := by omega
        rcases Decidable.em (i < d.size) with hq | hq
        all_goals
          clear hi2 h2'
          go_wp2
          go_ret
          exact ⟨by rw [HF.out]; rfl, HB.out⟩
      have h2' : d.size ≤ 255 := by have := of_decide_eq_true h2; omega
      have hi2 : i = d.size := by have := HN.out; omega
      have HZ := Lib.hid (HNZ.out.all (Nat.le_of_eq hi2.symm))
      have hq : ¬ i < d.size := by omega
      clear hi2 h2'
      rcases Bool.eq_false_or_eq_true (decide ((1 : Int) ≤ (d.size : Int))) with h1 | h1
      rotate_left
      · have HF := Lib.hid (HM.out.trans (show _ = false by rw [h1]; simp))
        go_wp2
        go_ret
        exact ⟨by rw [HF.out]; rfl, HB.out⟩
      rcases Bool.eq_false_or_eq_true ((es.len : Int) == 0) with h3 | h3
      · have HF := Lib.hid (HM.out.trans (show _ = true by rw [h1, h2, h3, HZ.out]; rfl))
        go_wp2
        go_ret
        exact ⟨by rw [HF.out]; rfl, HB.out⟩
      · have HF := Lib.hid (HM.out.trans (show _ = false by rw [h1, h2, h3]; rfl))
        go_wp2
        go_ret
        exact ⟨by rw [HF.out]; rfl, HB.out⟩
    | succ g =>
      have hil : i < d.size := by omega
      have hi256 : i < 256 := by omega
      have hi256I : (i : Int) < 256 := by omega
      obtain ⟨x, hx⟩ : ∃ x : UInt8, d[i]'hil = x := ⟨_, rfl⟩
      have HX := Lib.hid (show d.data.toList[i]? = some x by rw [← hx]; exact Lib.data_getElem? d i hil)
      have hw1 : IntKind.i64.wrap ((i : Int) + 1) = (i : Int) + 1 := IntWalk.i64_in _ (by unfold maxLen at hd; omega)
      rcases Bool.eq_false_or_eq_true ((x.toNat : Int) == 0) with h0 | h0
      · have HF := Lib.hid (HM.out.trans (show _ = false by
          have hx0 : (x == 0) = true := by
            rw [beq_iff_eq] at h0 ⊢
            exact UInt8.toNat_inj.1 (show x.toNat = 0 by omega)
          rw [List.any_eq_true.2 ⟨x, List.mem_of_getElem? HX.out, hx0⟩]; simp))
        go_wp2
        go_ret
        exact ⟨by rw [HF.out]; rfl, HB.out⟩
      · have HQ := Lib.hid (show (x == 0) = false by
          rw [beq_eq_false_iff_ne] at h0 ⊢
          intro e; subst e; exact h0 rfl)
        go_wp2
        go_roundg g
        case measure => omega
        case rel =>
          refine ⟨i + 1, by simp, by omega, rfl, fun j b hj hb => ?_⟩
          rcases Nat.lt_or_ge j i with hji | hji
          · exact HNZ.out j b hji hb
          · obtain rfl : j = i := by omega
            rw [HX.out] at hb
            cases hb
            exact HQ.out
end Go.Proofs.YtmcafiihicanfaaDoor
