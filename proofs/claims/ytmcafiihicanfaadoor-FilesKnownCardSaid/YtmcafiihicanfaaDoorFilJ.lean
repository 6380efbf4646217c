/- files: mayBe. -/
import Derived.Test.YtmcafiihicanfaaDoorFmH
import Derived.Test.YtmcafiihicanfaaDoorFilG
set_option linter.unusedVariables false
set_option linter.unusedSimpArgs false
namespace Go.Proofs.YtmcafiihicanfaaDoor
open Go Go.RowKit Go.BigFrame
open Fil (Es Nd Sp)
attribute [local go_sem] Oper.semAt_some

theorem must_true (n : Nat) (w : World) : CallsIn Fence.wide n Tryd.prog 40 #[.bool true] w fun e W => W = w ∧ ∃ v, e = .returned v :=
  (must_any n true w).mono (by rintro e W ⟨rfl, (⟨_, h⟩ | ⟨h, _⟩)⟩; exact ⟨rfl, h⟩; cases h)
theorem must_false (n : Nat) (w : World) : CallsIn Fence.wide n Tryd.prog 40 #[.bool false] w fun e W => W = w ∧ e = .panicked wrongCh :=
  (must_any n false w).mono (by rintro e W ⟨rfl, (⟨h, _⟩ | ⟨_, h⟩)⟩; cases h; exact ⟨rfl, h⟩)
theorem spot_none {w : World} {p : Addr} {v : Value} (h : w.cell? p = some v) : p.spot = none := by
  unfold World.cell? at h
  split at h
  · split at h
    · cases h
    · rename_i hs; simpa using hs
  · cases h
set_option maxRecDepth 1000000 in
set_option maxRecDepth 100000 in
set_option maxHeartbeats 4000000 in
theorem mayBe_file (n : Nat) (hn : 1 ≤ n) (w : World) (B : Nat) (p : Addr) (nd : Nd) (hp : p.spot = none) (h : NdC w B p nd) (hB : B ≤ w.heap.size) (hk : nd.k = 1 ∨ nd.k = 2) :
    CallsIn Fence.wide n Tryd.prog 41 #[.pointer (some p)] w fun e W => Below w.heap.size w W ∧ ((Fil.okB nd.k nd.d nd.es = true ∧ ∃ v, e = .returned v) ∨ (Fil.okB nd.k nd.d nd.es = false ∧ e = .panicked wrongCh)) := by
  have hro : Fence.wide.round = none := rfl
  obtain ⟨h1, h2, ⟨ev, h3, hes⟩, hdm, hkm⟩ := h
  obtain ⟨A, c, rfl, _, _⟩ := hes.form
  obtain ⟨pb, po, ps⟩ := p
  obtain rfl : ps = none := hp
  rw [show (⟨pb, po, none⟩ : Addr).add 1 = ⟨pb, po + 1, none⟩ from rfl] at h2
  rw [show (⟨pb, po, none⟩ : Addr).add 2 = ⟨pb, po + 2, none⟩ from rfl] at h3
  have hok : Fil.okB nd.k nd.d nd.es = (decide ((nd.d.size : Int) ≤ 65536) && decide ((nd.es.len : Int) = 0)) := by
    unfold Fil.okB
    rw [if_pos hk]
    congr 1
    · rw [decide_eq_decide]; omega
    · rw [decide_eq_decide]; omega
  rw [hok]
  clear hok
  refine callsIn_of_wp Tryd.func41 rfl trivial ?_ hro
  simp only [Tryd.ntmps41, List.size_toArray, List.length_cons, List.length_nil, Nat.reduceAdd, Nat.reduceSub, Array.replicate_succ, Array.replicate_zero, List.push_toArray, List.append_toArray, List.nil_append, List.cons_append]
  rcases hk with hk | hk <;> rw [hk] at h1
  all_goals
    clear hk hkm
    rcases Decidable.em ((nd.d.size : Int) ≤ 65536) with hd | hd
    · have hd' : decide ((nd.d.size : Int) ≤ 65536) = true := decide_eq_true hd
      rcases Decidable.em ((nd.es.len : Int) = 0) with hl | hl
      · have hl' : ((nd.es.len : Int) == 0) = true := beq_iff_eq.2 hl
        have HP := Lib.hid (show (decide ((nd.d.size : Int) ≤ 65536) && decide ((nd.es.len : Int) = 0)) = true by rw [hd', decide_eq_true hl]; rfl)
        rw [HP.out]
        clear hl
        gi_wp2_with (first | (refine ⟨trivial, (must_true _ _).mono ?_⟩; intro eQ WQ hQ; obtain ⟨hQ1, vQ, hQ2⟩ := hQ; subst hQ1; subst hQ2) | (refine ⟨trivial, (must_false _ _).mono ?_⟩; intro eQ WQ hQ; obtain ⟨hQ1, hQ2⟩ := hQ; subst hQ1; subst hQ2))
        go_end0
        exact ⟨Below.refl _ _, _, rfl⟩
      · have hl' : ((nd.es.len : Int) == 0) = false := beq_eq_false_iff_ne.2 hl
        have HP := Lib.hid (show (decide ((nd.d.size : Int) ≤ 65536) && decide ((nd.es.len : Int) = 0)) = false by rw [hd', decide_eq_false hl]; rfl)
        rw [HP.out]
        clear hl
        gi_wp2_with (first | (refine ⟨trivial, (must_true _ _).mono ?_⟩; intro eQ WQ hQ; obtain ⟨hQ1, vQ, hQ2⟩ := hQ; subst hQ1; subst hQ2) | (refine ⟨trivial, (must_false _ _).mono ?_⟩; intro eQ WQ hQ; obtain ⟨hQ1, hQ2⟩ := hQ; subst hQ1; subst hQ2))
        exact ⟨rfl, Below.refl _ _, rfl⟩
    · have hd' : decide ((nd.d.size : Int) ≤ 65536) = false := decide_eq_false hd
      have HP := Lib.hid (show (decide ((nd.d.size : Int) ≤ 65536) && decide ((nd.es.len : Int) = 0)) = false by rw [hd']; rfl)
      rw [HP.out]
      gi_wp2_with (first | (refine ⟨trivial, (must_true _ _).mono ?_⟩; intro eQ WQ hQ; obtain ⟨hQ1, vQ, hQ2⟩ := hQ; subst hQ1; subst hQ2) | (refine ⟨trivial, (must_false _ _).mono ?_⟩; intro eQ WQ hQ; obtain ⟨hQ1, hQ2⟩ := hQ; subst hQ1; subst hQ2))
      exact ⟨rfl, Below.refl _ _, rfl⟩
end Go.Proofs.YtmcafiihicanfaaDoor
