/- Rows of values, and rows of rows, in blocks of a set. (Drawn out of ranges' text A, for stages without it.) -/
import Derived.Test.YtmcafiihicanfaaDoorReadI
set_option linter.unusedVariables false
set_option linter.unusedSimpArgs false
namespace Go.Proofs.YtmcafiihicanfaaDoor
open Go.RowKit Go.BigFrame

/-- A slice of n values whose cells are xs, in a block of S. -/
def RdS (w : World) (S : Nat → Prop) (v : Value) (n : Nat) (xs : List Value) : Prop :=
  ∃ A cap, v = .slice A n cap ∧ n ≤ cap ∧ cap ≤ maxLen ∧ (A = none → cap = 0) ∧ (0 < n → ∃ ad, A = some ad ∧ ad.block < w.heap.size ∧ S ad.block ∧ ∀ j u, xs[j]? = some u → w.cell? (ad.add j) = some u)
/-- The blocks of S are as they were. -/
def SameS (w w' : World) (S : Nat → Prop) : Prop := w.heap.size ≤ w'.heap.size ∧ ∀ b, b < w.heap.size → S b → w'.heap[b]? = w.heap[b]?
def AllB : Nat → Prop := fun _ => True
theorem SameS.refl (w : World) (S : Nat → Prop) : SameS w w S := ⟨Nat.le_refl _, fun _ _ _ => rfl⟩
theorem SameS.trans {w w1 w2 : World} {S : Nat → Prop} (h : SameS w w1 S) (h2 : SameS w1 w2 S) : SameS w w2 S :=
  ⟨Nat.le_trans h.1 h2.1, fun b hb hs => (h2.2 b (Nat.lt_of_lt_of_le hb h.1) hs).trans (h.2 b hb hs)⟩
theorem SameS.weak {w w' : World} {S S' : Nat → Prop} (h : SameS w w' S) (hw : ∀ b, b < w.heap.size → S' b → S b) : SameS w w' S' := ⟨h.1, fun b hb hs => h.2 b hb (hw b hb hs)⟩
theorem SameS.below {w w' : World} (h : Below w.heap.size w w') (S : Nat → Prop) : SameS w w' S := ⟨h.size, fun b hb _ => h.block b hb⟩
theorem SameS.grown {w w' : World} {row : Option Nat} (h : w.grownBy w' row) : SameS w w' (fun b => row ≠ some b) := ⟨h.size, fun b hb hs => h.block b hb fun e => hs e.symm⟩
theorem RdS.keep {w w' : World} {S : Nat → Prop} {v : Value} {n : Nat} {xs : List Value} (h : RdS w S v n xs) (hs : SameS w w' S) : RdS w' S v n xs := by
  obtain ⟨A, cap, e, h1, h2, h3, h4⟩ := h
  refine ⟨A, cap, e, h1, h2, h3, fun hn => ?_⟩
  obtain ⟨ad, e2, hl, hS, hc⟩ := h4 hn
  refine ⟨ad, e2, Nat.lt_of_lt_of_le hl hs.1, hS, fun j u hu => ?_⟩
  have hb := hs.2 ad.block hl hS
  have hcj := hc j u hu
  unfold World.cell? at hcj ⊢
  rw [add_block] at hcj ⊢
  rw [hb]; exact hcj
theorem RdS.weak {w : World} {S S' : Nat → Prop} {v : Value} {n : Nat} {xs : List Value} (h : RdS w S v n xs) (hw : ∀ b, b < w.heap.size → S b → S' b) : RdS w S' v n xs := by
  obtain ⟨A, cap, e, h1, h2, h3, h4⟩ := h
  exact ⟨A, cap, e, h1, h2, h3, fun hn => by
    obtain ⟨ad, e2, hl, hS, hc⟩ := h4 hn
    exact ⟨ad, e2, hl, hw _ hl hS, hc⟩⟩
theorem RdS.all {w : World} {S : Nat → Prop} {v : Value} {n : Nat} {xs : List Value} (h : RdS w S v n xs) : RdS w AllB v n xs := h.weak fun _ _ _ => trivial
theorem RdS.below {w w' : World} {S : Nat → Prop} {v : Value} {n : Nat} {xs : List Value} (h : RdS w S v n xs) (hb : Below w.heap.size w w') : RdS w' S v n xs := h.keep (SameS.below hb S)
theorem RdS.nil (w : World) (S : Nat → Prop) : RdS w S (.slice none 0 0) 0 [] := ⟨none, 0, rfl, Nat.le_refl _, Nat.zero_le _, fun _ => rfl, fun h => absurd h (by simp)⟩
theorem RdS.own {w : World} {base n sz : Nat} {e : TypeId} {v : Value} {xs : List Value} (h : w.ownsRow base e sz v n xs) : RdS w (fun b => base ≤ b) v n xs := by
  obtain ⟨hl, ⟨rfl, rfl⟩ | ⟨g, cap, cur, rfl, hg, hgg, h1, h2, h3, h4⟩⟩ := h
  · exact ⟨none, 0, rfl, Nat.le_refl _, Nat.zero_le _, fun _ => rfl, fun h => absurd h (by simp)⟩
  · refine ⟨_, cap, rfl, by omega, h2, (fun h => by cases h), fun hn => ⟨_, rfl, block_lt hgg, hg, fun j u hu => ?_⟩⟩
    have hj : j < n * sz := by have := (List.getElem?_eq_some_iff.1 hu).1; omega
    have hx : cur[j]? = some u := by
      rw [← h4, List.getElem?_take, if_pos hj] at hu
      simpa using hu
    have e : (⟨g, 0, none⟩ : Addr).add j = ⟨g, j, none⟩ := by unfold Addr.add; by_cases h0 : j = 0 <;> simp [h0]
    rw [e, cell_of_row _ _ _ _ _ _ hgg, hx]
theorem RdS.reads {w : World} {S : Nat → Prop} {v : Value} {xs : List Value} (h : RdS w S v xs.length xs) : Reads w w.heap.size v xs := by
  obtain ⟨A, cap, e, h1, h2, h3, h4⟩ := h
  exact ⟨A, cap, e, h1, h2, h3, fun hn => by
    obtain ⟨ad, e2, hl, hS, hc⟩ := h4 hn
    exact ⟨ad, e2, hl, hc⟩⟩
theorem RdS.of_reads {w : World} {v : Value} {xs : List Value} {n : Nat} (h : Reads w w.heap.size v xs) (hn : xs.length = n) : RdS w AllB v n xs := by
  obtain ⟨A, cap, e, h1, h2, h3, h4⟩ := h
  subst hn
  exact ⟨A, cap, e, h1, h2, h3, fun hn => by
    obtain ⟨ad, e2, hl, hc⟩ := h4 hn
    exact ⟨ad, e2, hl, trivial, hc⟩⟩
theorem RdS.form {w : World} {S : Nat → Prop} {v : Value} {n : Nat} {xs : List Value} (h : RdS w S v n xs) : ∃ A cap, v = .slice A n cap ∧ n ≤ cap ∧ cap ≤ maxLen := by
  obtain ⟨A, cap, e, h1, h2, _⟩ := h; exact ⟨A, cap, e, h1, h2⟩
/-- A law of what a value in memory reads as: it stays where its blocks stay. -/
structure Keeps {α : Type} (R : World → (Nat → Prop) → Value → α → Prop) : Prop where
  keep : ∀ {w w' : World} {S : Nat → Prop} {v : Value} {x : α}, R w S v x → SameS w w' S → R w' S v x
  weak : ∀ {w : World} {S S' : Nat → Prop} {v : Value} {x : α}, R w S v x → (∀ b, b < w.heap.size → S b → S' b) → R w S' v x
def ItemsS {α : Type} (R : World → (Nat → Prop) → Value → α → Prop) (w : World) (S : Nat → Prop) (vs : List Value) (r : List α) : Prop :=
  vs.length = r.length ∧ ∀ (k : Nat) (u : Value) (x : α), vs[k]? = some u → r[k]? = some x → R w S u x
theorem ItemsS.nil {α : Type} (R : World → (Nat → Prop) → Value → α → Prop) (w : World) (S : Nat → Prop) : ItemsS R w S [] [] := ⟨rfl, fun k u x h => by simp at h⟩
theorem ItemsS.snoc {α : Type} {R : World → (Nat → Prop) → Value → α → Prop} {w : World} {S : Nat → Prop} {vs : List Value} {r : List α} {u : Value} {x : α} (h : ItemsS R w S vs r) (hx : R w S u x) : ItemsS R w S (vs ++ [u]) (r ++ [x]) := by
  refine ⟨by simp [h.1], fun k a b ha hb => ?_⟩
  rcases Nat.lt_or_ge k vs.length with hk | hk
  · rw [List.getElem?_append_left hk] at ha
    rw [List.getElem?_append_left (by rw [← h.1]; exact hk)] at hb
    exact h.2 k a b ha hb
  · have hkl : k < vs.length + 1 := by have := (List.getElem?_eq_some_iff.1 ha).1; simpa using this
    obtain rfl : k = vs.length := by omega
    have e1 : a = u := by simpa using ha.symm
    rw [h.1] at hb
    have e2 : b = x := by simpa using hb.symm
    subst e1; subst e2; exact hx
theorem ItemsS.keep {α : Type} {R : World → (Nat → Prop) → Value → α → Prop} (K : Keeps R) {w w' : World} {S : Nat → Prop} {vs : List Value} {r : List α} (h : ItemsS R w S vs r) (hs : SameS w w' S) : ItemsS R w' S vs r :=
  ⟨h.1, fun k u x hu hx => K.keep (h.2 k u x hu hx) hs⟩
theorem ItemsS.weak {α : Type} {R : World → (Nat → Prop) → Value → α → Prop} (K : Keeps R) {w : World} {S S' : Nat → Prop} {vs : List Value} {r : List α} (h : ItemsS R w S vs r) (hw : ∀ b, b < w.heap.size → S b → S' b) : ItemsS R w S' vs r :=
  ⟨h.1, fun k u x hu hx => K.weak (h.2 k u x hu hx) hw⟩
def OutS {α : Type} (R : World → (Nat → Prop) → Value → α → Prop) (w : World) (S : Nat → Prop) (v : Value) (r : List α) : Prop :=
  ∃ vs : List Value, RdS w S v r.length vs ∧ ItemsS R w S vs r
theorem OutS.keep {α : Type} {R : World → (Nat → Prop) → Value → α → Prop} (K : Keeps R) {w w' : World} {S : Nat → Prop} {v : Value} {r : List α} (h : OutS R w S v r) (hs : SameS w w' S) : OutS R w' S v r := by
  obtain ⟨vs, h1, h2⟩ := h; exact ⟨vs, h1.keep hs, h2.keep K hs⟩
theorem OutS.below {α : Type} {R : World → (Nat → Prop) → Value → α → Prop} (K : Keeps R) {w w' : World} {S : Nat → Prop} {v : Value} {r : List α} (h : OutS R w S v r) (hb : Below w.heap.size w w') : OutS R w' S v r := h.keep K (SameS.below hb S)
theorem OutS.all {α : Type} {R : World → (Nat → Prop) → Value → α → Prop} (K : Keeps R) {w : World} {S : Nat → Prop} {v : Value} {r : List α} (h : OutS R w S v r) : OutS R w AllB v r := by
  obtain ⟨vs, h1, h2⟩ := h; exact ⟨vs, h1.all, h2.weak K fun _ _ _ => trivial⟩
theorem OutS.form {α : Type} {R : World → (Nat → Prop) → Value → α → Prop} {w : World} {S : Nat → Prop} {v : Value} {r : List α} (h : OutS R w S v r) : ∃ A cap, v = .slice A r.length cap ∧ r.length ≤ cap ∧ cap ≤ maxLen := by
  obtain ⟨vs, h1, _⟩ := h; exact h1.form
/-- The k-th of a row of rows: its cell, and what it reads as. -/
theorem OutS.get {α : Type} [Inhabited α] {R : World → (Nat → Prop) → Value → α → Prop} {w : World} {S : Nat → Prop} {A : Option Addr} {n cap : Nat} {r : List α} (h : OutS R w S (.slice A n cap) r) (k : Nat) (hk : k < r.length) :
    ∃ ad u, A = some ad ∧ w.cell? (ad.add k) = some u ∧ R w S u (r.getD k default) := by
  obtain ⟨vs, ⟨A', cap', e, h1, h2, h3, h4⟩, hi⟩ := h
  cases e
  obtain ⟨ad, rfl, _, _, hc⟩ := h4 (by omega)
  have hkv : k < vs.length := by rw [hi.1]; exact hk
  exact ⟨ad, vs[k], rfl, hc k _ (List.getElem?_eq_getElem hkv), hi.2 k _ _ (List.getElem?_eq_getElem hkv) (by simp [hk])⟩
theorem add_add (ad : Addr) (k j : Nat) : (ad.add k).add j = ad.add (k + j) := by
  unfold Addr.add
  by_cases h1 : k = 0 <;> by_cases h2 : j = 0 <;> simp_all [Nat.add_assoc]
theorem cell_two {w : World} {g : Nat} {T : TypeId} {x y : Value} (h : w.heap[g]? = some (.cells #[x, y] T (0, 0))) : w.cell? ⟨g, 0, none⟩ = some x ∧ w.cell? ⟨g, 1, none⟩ = some y ∧ w.frozen? ⟨g, 0, none⟩ = false ∧ w.frozen? ⟨g, 1, none⟩ = false :=
  ⟨by rw [cell_of_row _ _ _ _ _ _ h]; rfl, by rw [cell_of_row _ _ _ _ _ _ h]; rfl, frozen_of_row _ _ _ _ _ h, frozen_of_row _ _ _ _ _ h⟩
theorem row_at (w0 w : World) (o : Obj) (hb : Below w0.heap.size w0 w) : ∃ w1, w1 = w.alloc o ∧ w1.heap[w.heap.size]? = some o ∧ Below w.heap.size w w1 ∧ w1.heap.size = w.heap.size + 1 ∧ Below w0.heap.size w0 w1 :=
  ⟨_, rfl, heap_alloc_new w o, (Below.refl _ _).alloc (Nat.le_refl _) o, by simp, hb.alloc hb.size o⟩
theorem cell_lit {w : World} {g k : Nat} {v : Value} (h : w.cell? ((⟨g, 0, none⟩ : Addr).add k) = some v) : w.cell? ⟨g, k, none⟩ = some v := by
  have e : (⟨g, 0, none⟩ : Addr).add k = ⟨g, k, none⟩ := by unfold Addr.add; by_cases h0 : k = 0 <;> simp [h0]
  rwa [e] at h
end Go.Proofs.YtmcafiihicanfaaDoor
