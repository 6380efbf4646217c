/- files: mayBe of a Link, of another kind, of any node. -/
import Derived.Test.YtmcafiihicanfaaDoorFilK
import Derived.Lib.AtoiErrMem
set_option linter.unusedVariables false
set_option linter.unusedSimpArgs false
namespace Go.Proofs.YtmcafiihicanfaaDoor
open Go Go.RowKit Go.BigFrame
open Fil (Es Nd Sp)

set_option maxRecDepth 1000000 in
set_option maxRecDepth 100000 in
set_option maxHeartbeats 4000000 in
theorem mayBe_link (w : World) (B : Nat) (p : Addr) (nd : Nd) (hp : p.spot = none) (h : NdC w B p nd) (hk : nd.k = 3) :
    Calls Tryd.prog 41 #[.pointer (some p)] w fun e W => Below w.heap.size w W ∧ ((Fil.okB nd.k nd.d nd.es = true ∧ ∃ v, e = .returned v) ∨ (Fil.okB nd.k nd.d nd.es = false ∧ e = .panicked wrongCh)) := by
  obtain ⟨h1, h2, ⟨ev, h3, hes⟩, hdm, hkm⟩ := h
  obtain ⟨A, c, rfl, hlc, hcm⟩ := hes.form
  obtain ⟨pb, po, ps⟩ := p
  obtain rfl : ps = none := hp
  rw [add_none] at h2 h3
  have hok : Fil.okB nd.k nd.d nd.es = (!nd.d.toList.isEmpty && decide ((nd.d.size : Int) ≤ 255) && ((nd.es.len : Int) == 0) && !decide ((0 : Int) ≤ Lib.indexByte nd.d.data.toList 0)) := by
    unfold Fil.okB
    rw [if_neg (by omega), if_pos hk, any_zero]
    congr 1
    congr 1
    · congr 1
      · have hs := Lib.size_eq nd.d
        rw [Lib.toList_data]
        cases h : nd.d.data.toList with
        | nil => rw [h] at hs; simp at hs; simp [hs]
        | cons a l => rw [h] at hs; simp at hs; simp; omega
      · rw [decide_eq_decide]; omega
    · by_cases hl : nd.es.len = 0
      · simp [hl]
      · rw [decide_eq_false hl]
        symm
        exact beq_eq_false_iff_ne.2 (by omega)
  obtain ⟨ok, hok2⟩ : ∃ ok, ok = Fil.okB nd.k nd.d nd.es := ⟨_, rfl⟩
  rw [← hok2]
  rw [← hok2] at hok
  have HO := Lib.hid hok
  rw [hk] at h1
  have HC := Lib.hid (fun w => Tryd.strings_Contains_one nd.d 0 w)
  clear hok hok2 hk hkm hes hlc hcm hdm
  go_enter Tryd.func41, Tryd.ntmps41
  rcases Bool.eq_false_or_eq_true nd.d.toList.isEmpty with he | he
  · have HF := Lib.hid (show ok = false by rw [HO.out, he]; rfl)
    go_wp2_with (first | (refine (callsIn_wide.1 (must_true 0 _)).mono ?_; intro eQ WQ hQ; obtain ⟨hQ1, vQ, hQ2⟩ := hQ; have hQ3 := hQ1.symm; subst hQ3; subst hQ2) | (refine (callsIn_wide.1 (must_false 0 _)).mono ?_; intro eQ WQ hQ; obtain ⟨hQ1, hQ2⟩ := hQ; have hQ3 := hQ1.symm; subst hQ3; subst hQ2))
    exact ⟨rfl, Below.refl _ _, .inr ⟨HF.out, rfl⟩⟩
  rcases Bool.eq_false_or_eq_true (decide ((nd.d.size : Int) ≤ 255)) with hd | hd
  rotate_left
  · have HF := Lib.hid (show ok = false by rw [HO.out, he, hd]; rfl)
    go_wp2_with (first | (refine (callsIn_wide.1 (must_true 0 _)).mono ?_; intro eQ WQ hQ; obtain ⟨hQ1, vQ, hQ2⟩ := hQ; have hQ3 := hQ1.symm; subst hQ3; subst hQ2) | (refine (callsIn_wide.1 (must_false 0 _)).mono ?_; intro eQ WQ hQ; obtain ⟨hQ1, hQ2⟩ := hQ; have hQ3 := hQ1.symm; subst hQ3; subst hQ2))
    exact ⟨rfl, Below.refl _ _, .inr ⟨HF.out, rfl⟩⟩
  rcases Bool.eq_false_or_eq_true ((nd.es.len : Int) == 0) with hl | hl
  rotate_left
  · have HF := Lib.hid (show ok = false by rw [HO.out, he, hd, hl]; rfl)
    go_wp2_with (first | (refine (callsIn_wide.1 (must_true 0 _)).mono ?_; intro eQ WQ hQ; obtain ⟨hQ1, vQ, hQ2⟩ := hQ; have hQ3 := hQ1.symm; subst hQ3; subst hQ2) | (refine (callsIn_wide.1 (must_false 0 _)).mono ?_; intro eQ WQ hQ; obtain ⟨hQ1, hQ2⟩ := hQ; have hQ3 := hQ1.symm; subst hQ3; subst hQ2))
    exact ⟨rfl, Below.refl _ _, .inr ⟨HF.out, rfl⟩⟩
  rcases Bool.eq_false_or_eq_true (decide ((0 : Int) ≤ Lib.indexByte nd.d.data.toList 0)) with hz | hz
  · have HF := Lib.hid (show ok = false by rw [HO.out, he, hd, hl, hz]; rfl)
    go_wp2_with (first | (go_at_call 52; refine (HC.out _).mono ?_; rintro e W2 ⟨rfl, rfl⟩; rw [hz]) | (first | (refine (callsIn_wide.1 (must_true 0 _)).mono ?_; intro eQ WQ hQ; obtain ⟨hQ1, vQ, hQ2⟩ := hQ; have hQ3 := hQ1.symm; subst hQ3; subst hQ2) | (refine (callsIn_wide.1 (must_false 0 _)).mono ?_; intro eQ WQ hQ; obtain ⟨hQ1, hQ2⟩ := hQ; have hQ3 := hQ1.symm; subst hQ3; subst hQ2)))
    exact ⟨rfl, Below.refl _ _, .inr ⟨HF.out, rfl⟩⟩
  · have HF := Lib.hid (show ok = true by rw [HO.out, he, hd, hl, hz]; rfl)
    go_wp2_with (first | (go_at_call 52; refine (HC.out _).mono ?_; rintro e W2 ⟨rfl, rfl⟩; rw [hz]) | (first | (refine (callsIn_wide.1 (must_true 0 _)).mono ?_; intro eQ WQ hQ; obtain ⟨hQ1, vQ, hQ2⟩ := hQ; have hQ3 := hQ1.symm; subst hQ3; subst hQ2) | (refine (callsIn_wide.1 (must_false 0 _)).mono ?_; intro eQ WQ hQ; obtain ⟨hQ1, hQ2⟩ := hQ; have hQ3 := hQ1.symm; subst hQ3; subst hQ2)))
    go_end0
    exact ⟨Below.refl _ _, .inl ⟨HF.out, _, rfl⟩⟩
set_option maxRecDepth 1000000 in
set_option maxRecDepth 100000 in
set_option maxHeartbeats 4000000 in
theorem mayBe_other (w : World) (B : Nat) (p : Addr) (nd : Nd) (hp : p.spot = none) (h : NdC w B p nd) (h1' : nd.k ≠ 1) (h2' : nd.k ≠ 2) (h3' : nd.k ≠ 3) (h4' : nd.k ≠ 4) :
    Calls Tryd.prog 41 #[.pointer (some p)] w fun e W => Below w.heap.size w W ∧ ((Fil.okB nd.k nd.d nd.es = true ∧ ∃ v, e = .returned v) ∨ (Fil.okB nd.k nd.d nd.es = false ∧ e = .panicked wrongCh)) := by
  obtain ⟨h1, h2, ⟨ev, h3, hes⟩, hdm, hkm⟩ := h
  obtain ⟨pb, po, ps⟩ := p
  obtain rfl : ps = none := hp
  have hok : Fil.okB nd.k nd.d nd.es = false := by
    unfold Fil.okB
    rw [if_neg (by omega), if_neg h3', if_neg h4']
  rw [hok]
  have e1 : ((nd.k : Int) == 1) = false := beq_eq_false_iff_ne.2 (by omega)
  have e2 : ((nd.k : Int) == 2) = false := beq_eq_false_iff_ne.2 (by omega)
  have e3 : ((nd.k : Int) == 3) = false := beq_eq_false_iff_ne.2 (by omega)
  have e4 : ((nd.k : Int) == 4) = false := beq_eq_false_iff_ne.2 (by omega)
  clear hok h2 h3 hes hdm hkm h1' h2' h3' h4'
  go_enter Tryd.func41, Tryd.ntmps41
  go_wp2
  exact ⟨rfl, Below.refl _ _, .inr ⟨trivial, rfl⟩⟩
/-- mayBe: it returns, or it gives up. -/
theorem mayBe_any (n : Nat) (hn : 1 ≤ n) (w : World) (B : Nat) (p : Addr) (nd : Nd) (h : NdC w B p nd) (hB : B ≤ w.heap.size) :
    CallsIn Fence.wide n Tryd.prog 41 #[.pointer (some p)] w fun e W => Below w.heap.size w W ∧ ((Fil.okB nd.k nd.d nd.es = true ∧ ∃ v, e = .returned v) ∨ (Fil.okB nd.k nd.d nd.es = false ∧ e = .panicked wrongCh)) := by
  have hp := spot_none h.1
  have hpb : p.block < w.heap.size := Lib.lt_of_cell h.1
  by_cases h1 : nd.k = 1 ∨ nd.k = 2
  · exact mayBe_file n hn w B p nd hp h hB h1
  by_cases h3 : nd.k = 3
  · exact callsIn_wide.2 (mayBe_link w B p nd hp h h3)
  by_cases h4 : nd.k = 4
  · exact callsIn_wide.2 (mayBe_dir w B p nd hp h hB hpb h4)
  · exact callsIn_wide.2 (mayBe_other w B p nd hp h (fun e => h1 (.inl e)) (fun e => h1 (.inr e)) h3 h4)
end Go.Proofs.YtmcafiihicanfaaDoor
