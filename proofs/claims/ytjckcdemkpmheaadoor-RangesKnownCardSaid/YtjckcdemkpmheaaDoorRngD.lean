/- Contracts of near, bears, bounded. -/
import Derived.Test.YtjckcdemkpmheaaDoorRngC
namespace Go.Proofs.YtjckcdemkpmheaaDoor
open Go.RowKit Go.BigFrame
open Ver (cmpV BL)

theorem equal_q (n : Nat) (a b : Value) (xs ys : List Int) (B : Nat) (w : World) (ha : Reads w B a (ints xs)) (hb : Reads w B b (ints ys)) :
    Calls Tryd.prog 83 #[a, b] w fun e w' => e = .returned (.bool (decide (xs = ys))) ∧ ∃ m, w' = w.drewN m := equal_any a b xs ys B w ha hb
set_option maxRecDepth 100000 in
set_option maxHeartbeats 1000000 in
theorem near_any (a b : Value) (xs ys : List Int) (p q : ByteArray) (w : World) (ha : Reads w w.heap.size a (ints xs)) (hb : Reads w w.heap.size b (ints ys)) (hy : 1 ≤ ys.length) (hp : p.size ≤ 1000000) (hq : q.size ≤ 1000000) :
    Calls Tryd.prog 70 #[.agg #[a, .string p], .agg #[b, .string q]] w fun e w' => e = .returned (.bool (nearV (ys, q.data.toList) (xs, p.data.toList))) ∧ Below w.heap.size w w' := by
  obtain ⟨A, ca, rfl⟩ := ha.form
  obtain ⟨A', cb, rfl⟩ := hb.form
  have hla : xs.length ≤ ca ∧ ca ≤ maxLen := by obtain ⟨_, _, e, h1, h2, _⟩ := ha; rw [ints_len] at e h1; cases e; exact ⟨h1, h2⟩
  have hlb : ys.length ≤ cb ∧ cb ≤ maxLen := by obtain ⟨_, _, e, h1, h2, _⟩ := hb; rw [ints_len] at e h1; cases e; exact ⟨h1, h2⟩
  unfold maxLen at hla hlb
  obtain ⟨m, hm⟩ : ∃ m, m = max 1 (ys.length - 1) := ⟨_, rfl⟩
  have hmy : m ≤ ys.length := by omega
  have HMI := Lib.hid (show max ((ys.length : Int) - 1) 1 = (m : Int) by omega)
  have hwr : IntKind.i64.wrap ((ys.length : Int) - 1) = (ys.length : Int) - 1 := IntWalk.i64_in _ (by omega)
  have HA := Lib.hid ha
  have HB := Lib.hid hb
  have HN := Lib.hid (show nearV (ys, q.data.toList) (xs, p.data.toList) = (decide (m ≤ xs.length) && decide (xs.take m = ys.take m) && decide (0 ≤ cmpV (xs, p.data.toList) (ys, q.data.toList))) by unfold nearV; rw [hm])
  clear ha hb hm
  go_enter Tryd.func70, Tryd.ntmps70
  go_upto_region 1 with (fail)
  obtain ⟨W1, hW1, hg0, hg1, hb1, hz1⟩ := rows2 w (.cells #[.slice A xs.length ca, .string p] 65) (.cells #[.slice A' ys.length cb, .string q] 65)
  rw [← hW1]
  clear hW1
  have HA1 := Lib.hid ((HA.out.below hb1).more hb1.size)
  have HB1 := Lib.hid ((HB.out.below hb1).more hb1.size)
  have HBE := Lib.hid hb1
  obtain ⟨hc0, hc1, _, _⟩ := cell_two hg0
  obtain ⟨hd0, hd1, _, _⟩ := cell_two hg1
  clear hg0 hg1 HA HB hz1 hb1
  go_upto_region 2 with (fail)
  rw [HMI.out]
  by_cases hlt : m ≤ xs.length
  · have hlt1 : ¬ (xs.length : Int) < (m : Int) := by omega
    have hm0 : (0 : Int) ≤ (m : Int) := by omega
    have hm1 : (m : Int) ≤ (ca : Int) := by omega
    have hm2 : (m : Int) ≤ (cb : Int) := by omega
    have HTA := Lib.hid (reads_take HA1.out hlt)
    have HTB := Lib.hid (reads_take HB1.out hmy)
    have HEQ := Lib.hid (fun n : Nat => equal_any _ _ _ _ _ _ (HTA.out.below (below_drewN (Below.refl W1.heap.size W1) n)) (HTB.out.below (below_drewN (Below.refl W1.heap.size W1) n)))
    by_cases heq : xs.take m = ys.take m
    · have HF := Lib.hid (HN.out.trans (by rw [decide_eq_true hlt, decide_eq_true heq, Bool.true_and, Bool.true_and]))
      rw [decide_eq_true heq] at HEQ
      clear heq HTA HTB
      go_quiet ((go_at_call 83; exact Calls.quiet_of (HEQ.out _)))
      rename_i nq
      have hcw : ∀ p, (W1.drewN nq).cell? p = W1.cell? p := cell_drew rfl
      have hc0' := (hcw _).trans hc0
      have hc1' := (hcw _).trans hc1
      have hd0' := (hcw _).trans hd0
      have hd1' := (hcw _).trans hd1
      have hB2 := below_drewN HBE.out nq
      have HA2 := Lib.hid (HA1.out.below (below_drewN (Below.refl W1.heap.size W1) nq))
      have HB2 := Lib.hid (HB1.out.below (below_drewN (Below.refl W1.heap.size W1) nq))
      have hz2 : W1.heap.size ≤ (W1.drewN nq).heap.size := (below_drewN (Below.refl W1.heap.size W1) nq).size
      generalize W1.drewN nq = W2 at *
      clear hcw hc0 hc1 hd0 hd1 HEQ HA1 HB1
      go_wp2_with (go_at_call 37; refine (compare_any _ _ _ _ p q W1.heap.size _ HA2.out HB2.out hz2 hp hq).mono ?_; rintro e w5 ⟨rfl, hb5⟩)
      go_ret
      exact ⟨ret_bool HF.out.symm, below_step hB2 hb5.below hB2.size⟩
    · have HF := Lib.hid (HN.out.trans (by rw [decide_eq_true hlt, decide_eq_false heq, Bool.true_and, Bool.false_and]))
      rw [decide_eq_false heq] at HEQ
      clear heq HTA HTB
      go_quiet ((go_at_call 83; exact Calls.quiet_of (HEQ.out _)))
      go_wp2
      go_ret
      exact ⟨ret_bool HF.out.symm, below_drewN HBE.out _⟩
  · have hlt1 : (xs.length : Int) < (m : Int) := by omega
    have HF := Lib.hid (HN.out.trans (by rw [decide_eq_false hlt, Bool.false_and, Bool.false_and]))
    go_quiet (fail)
    go_wp2
    go_ret
    exact ⟨ret_bool HF.out.symm, below_drewN HBE.out _⟩
end Go.Proofs.YtjckcdemkpmheaaDoor
