/- What a step may change: all blocks but those of a set stand. -/
import Derived.Test.YtmcafiihicanfaaDoorRowS
import Derived.Test.YtmcafiihicanfaaDoorBaseB
set_option linter.unusedVariables false
set_option linter.unusedSimpArgs false
namespace Go.Proofs.YtmcafiihicanfaaDoor
open Go.RowKit Go.BigFrame

structure Ch (w w' : World) (M : Nat → Prop) : Prop where
  os : w'.os = w.os
  tape : w'.tape = w.tape
  output : w'.output = w.output
  size : w.heap.size ≤ w'.heap.size
  block : ∀ k, k < w.heap.size → ¬ M k → w'.heap[k]? = w.heap[k]?
theorem Ch.refl (w : World) (M : Nat → Prop) : Ch w w M := ⟨rfl, rfl, rfl, Nat.le_refl _, fun _ _ _ => rfl⟩
theorem Ch.weak {w w' : World} {M M' : Nat → Prop} (h : Ch w w' M) (hm : ∀ k, k < w.heap.size → M k → M' k) : Ch w w' M' :=
  ⟨h.os, h.tape, h.output, h.size, fun k hk hn => h.block k hk fun c => hn (hm k hk c)⟩
theorem Ch.trans {w w1 w2 : World} {M M' : Nat → Prop} (h : Ch w w1 M) (h2 : Ch w1 w2 M') (hm : ∀ k, k < w.heap.size → M' k → M k) : Ch w w2 M :=
  ⟨h2.os.trans h.os, h2.tape.trans h.tape, h2.output.trans h.output, Nat.le_trans h.size h2.size, fun k hk hn => (h2.block k (Nat.lt_of_lt_of_le hk h.size) fun c => hn (hm k hk c)).trans (h.block k hk hn)⟩
theorem Ch.setCell {w w1 : World} {M : Nat → Prop} (h : Ch w w1 M) {p : Addr} (hp : M p.block) (u : Value) : Ch w (w1.setCell p u) M :=
  ⟨h.os, h.tape, h.output, by simpa using h.size, fun k hk hn => (Below.heap_setCell _ _ _ _ (fun e => hn (by rw [e]; exact hp))).trans (h.block k hk hn)⟩
theorem Ch.alloc {w w1 : World} {M : Nat → Prop} (h : Ch w w1 M) (o : Obj) : Ch w (w1.alloc o) M :=
  ⟨h.os, h.tape, h.output, Nat.le_trans h.size (by simp), fun k hk hn => (Below.heap_alloc _ _ _ (Nat.lt_of_lt_of_le hk h.size)).trans (h.block k hk hn)⟩
theorem Ch.drewN {w w1 : World} {M : Nat → Prop} (h : Ch w w1 M) (q : Nat) : Ch w (w1.drewN q) M := by
  induction q with
  | zero => exact h
  | succ q ih => exact ⟨ih.os, ih.tape, ih.output, ih.size, ih.block⟩
theorem Ch.drew {w w1 : World} {M : Nat → Prop} (h : Ch w w1 M) : Ch w w1.drew M := ⟨h.os, h.tape, h.output, h.size, h.block⟩
theorem Ch.grown {w w1 w2 : World} {M : Nat → Prop} {row : Option Nat} (h : Ch w w1 M) (h2 : w1.grownBy w2 row) (hr : ∀ k, k < w.heap.size → row = some k → M k) : Ch w w2 M :=
  ⟨h2.os.trans h.os, h2.tape.trans h.tape, h2.output.trans h.output, Nat.le_trans h.size h2.size, fun k hk hn => (h2.block k (Nat.lt_of_lt_of_le hk h.size) fun c => hn (hr k hk c.symm)).trans (h.block k hk hn)⟩
theorem Ch.of_below {w w' : World} {B : Nat} (h : Below B w w') (M : Nat → Prop) (hm : ∀ k, k < w.heap.size → B ≤ k → M k) : Ch w w' M :=
  ⟨h.os, h.tape, h.output, h.size, fun k hk hn => h.block k (by
    by_cases c : B ≤ k
    · exact absurd (hm k hk c) hn
    · omega)⟩
theorem Ch.below {w w' : World} {M : Nat → Prop} (h : Ch w w' M) {B : Nat} (hB : B ≤ w.heap.size) (hm : ∀ k, M k → B ≤ k) : Below B w w' :=
  ⟨h.os, h.tape, h.output, h.size, fun k hk => h.block k (by omega) fun c => by have := hm k c; omega⟩
theorem Ch.same {w w' : World} {M : Nat → Prop} (h : Ch w w' M) (S : Nat → Prop) (hs : ∀ b, b < w.heap.size → S b → ¬ M b) : SameS w w' S :=
  ⟨h.size, fun b hb hS => h.block b hb (hs b hb hS)⟩
theorem Ch.cell {w w' : World} {M : Nat → Prop} (h : Ch w w' M) {p : Addr} {v : Value} (hc : w.cell? p = some v) (hm : ¬ M p.block) : w'.cell? p = some v :=
  (World.cell?_of_block (h.block p.block (World.block_lt_of_cell? w p hc) hm)).trans hc
theorem Ch.heap {w w' : World} {M : Nat → Prop} (h : Ch w w' M) {g : Nat} {o : Obj} (hc : w.heap[g]? = some o) (hm : ¬ M g) : w'.heap[g]? = some o :=
  (h.block g (block_lt hc) hm).trans hc
theorem Ch.own {w w' : World} {M : Nat → Prop} (h : Ch w w' M) {base size n : Nat} {e : TypeId} {v : Value} {xs : List Value} (ho : w.ownsRow base e size v n xs) (hm : ∀ b, v.ownBlock = some b → ¬ M b) : w'.ownsRow base e size v n xs := by
  obtain ⟨hl, hz | ⟨g, cap, cur, rfl, hg, hgg, h2⟩⟩ := ho
  · exact ⟨hl, .inl hz⟩
  · exact ⟨hl, .inr ⟨g, cap, cur, rfl, hg, h.heap hgg (hm g rfl), h2⟩⟩
/-- One store into a block that is known whole. -/
theorem blk_set {w : World} {g : Nat} {T : TypeId} {cs : Array Value} (h : w.heap[g]? = some (.cells cs T (0, 0))) (i : Nat) (v : Value) : (w.setCell ⟨g, i, none⟩ v).heap[g]? = some (.cells (cs.setIfInBounds i v) T (0, 0)) :=
  heap_setCell_same w g i cs T v h
theorem blk_cell {w : World} {g : Nat} {T : TypeId} {cs : Array Value} (h : w.heap[g]? = some (.cells cs T (0, 0))) (i : Nat) : w.cell? ⟨g, i, none⟩ = cs[i]? := cell_of_row _ _ _ _ _ _ h
theorem blk_free {w : World} {g : Nat} {T : TypeId} {cs : Array Value} (h : w.heap[g]? = some (.cells cs T (0, 0))) (i : Nat) : w.frozen? ⟨g, i, none⟩ = false := frozen_of_row _ _ _ _ _ h
theorem heap_drewN (w : World) (q : Nat) : (w.drewN q).heap = w.heap := by
  induction q with
  | zero => rfl
  | succ q ih => exact ih
/-- A row that is not nil: where it lies. -/
theorem own_at {w : World} {base n : Nat} {e : TypeId} {v : Value} {xs : List Value} (h : w.ownsRow base e 1 v n xs) (hn : 0 < n) : ∃ g cap, v = .slice (some ⟨g, 0, none⟩) n cap ∧ base ≤ g ∧ g < w.heap.size ∧ n ≤ cap ∧ cap ≤ maxLen := by
  rcases h.2 with ⟨_, e⟩ | ⟨g, cap, cur, rfl, hg, hgg, hnc, hcm, _, _⟩
  · omega
  · exact ⟨g, cap, rfl, hg, block_lt hgg, hnc, hcm⟩
/-- The row's first n cells are a row too. -/
theorem own_cut {w : World} {base n m cap : Nat} {e : TypeId} {p : Option Addr} {xs : List Value} (h : w.ownsRow base e 1 (.slice p n cap) n xs) (hp : p ≠ none) (hm : m ≤ n) : w.ownsRow base e 1 (.slice p m cap) m (xs.take m) := by
  have hl := h.1
  rcases h.2 with ⟨e', _⟩ | ⟨g, cap', cur, e', hg, hgg, hnc, hcm, hcs, htake⟩
  · simp only [Value.slice.injEq] at e'; exact absurd e'.1 hp
  · simp only [Value.slice.injEq, true_and] at e'
    obtain ⟨rfl, rfl⟩ := e'
    refine ⟨by rw [List.length_take]; omega, .inr ⟨g, cap, cur, rfl, hg, hgg, by omega, hcm, hcs, ?_⟩⟩
    rw [← htake, List.take_take]
    congr 1
    omega
end Go.Proofs.YtmcafiihicanfaaDoor
