/- What lay below a block in a world lies there still. (Drawn out of version's text Z, for stages without it.) -/
import Derived.Test.YtmcafiihicanfaaDoorBase
import Derived.Test.YtmcafiihicanfaaDoorProg
import Derived.LoopTactic
import Derived.Deep.RegionLaw
import Derived.OneCell
set_option linter.unusedVariables false
set_option linter.unusedSimpArgs false
namespace Go.Proofs.YtmcafiihicanfaaDoor
open Go.RowKit Go.BigFrame

/-- What lay below block B in a world lies there still. -/
def KeepW (W1 : World) (B : Nat) (w' : World) : Prop := Below B W1 w' ∧ B ≤ w'.heap.size
theorem KeepW.start {W : World} {B : Nat} (h : B ≤ W.heap.size) : KeepW W B W := ⟨Below.refl _ _, h⟩
theorem KeepW.drew {W1 w' : World} {B : Nat} (h : KeepW W1 B w') : KeepW W1 B w'.drew := ⟨h.1.drew, h.2⟩
theorem KeepW.step {W1 w' w2 : World} {B : Nat} (h : KeepW W1 B w') (h2 : Below w'.heap.size w' w2) : KeepW W1 B w2 := ⟨below_step h.1 h2 h.2, Nat.le_trans h.2 h2.size⟩
theorem KeepW.calls {P : Program} {f : FuncId} {args : Array Value} {v : Value} {W1 w' : World} {B : Nat} (h : KeepW W1 B w') (hc : Calls P f args w' fun e w2 => e = .returned v ∧ Below w'.heap.size w' w2) : Calls P f args w' fun e w2 => e = .returned v ∧ KeepW W1 B w2 :=
  hc.mono fun _ _ ⟨he, hb⟩ => ⟨he, h.step hb⟩
theorem KeepW.alloc {W1 w' : World} {B : Nat} (h : KeepW W1 B w') (o : Obj) : KeepW W1 B (w'.alloc o) := ⟨h.1.alloc h.2 o, Nat.le_trans h.2 (by simp)⟩
end Go.Proofs.YtmcafiihicanfaaDoor

/- Rows that a slice reads as; texts in rows. (Drawn out of version's texts G, J, W: for stages that import none of version's.) -/
namespace Go.Proofs.YtmcafiihicanfaaDoor
open Go.RowKit Go.BigFrame

/-- A slice of one-cell values, that lies below block B. -/
def Reads (w : World) (B : Nat) (v : Value) (xs : List Value) : Prop :=
  ∃ A cap, v = .slice A xs.length cap ∧ xs.length ≤ cap ∧ cap ≤ maxLen ∧ (A = none → cap = 0) ∧ (0 < xs.length → ∃ ad, A = some ad ∧ ad.block < B ∧ ∀ j u, xs[j]? = some u → w.cell? (ad.add j) = some u)
theorem Reads.below {w w' : World} {B : Nat} {v : Value} {xs : List Value} (h : Reads w B v xs) (hb : Below B w w') : Reads w' B v xs := by
  obtain ⟨A, cap, e, h1, h2, h3, h4⟩ := h
  exact ⟨A, cap, e, h1, h2, h3, fun hn => by
    obtain ⟨ad, e2, hl, hc⟩ := h4 hn
    exact ⟨ad, e2, hl, fun j u hu => (hb.cell (by rw [add_block]; exact hl)).trans (hc j u hu)⟩⟩
theorem Reads.more {w : World} {B B' : Nat} {v : Value} {xs : List Value} (h : Reads w B v xs) (hb : B ≤ B') : Reads w B' v xs := by
  obtain ⟨A, cap, e, h1, h2, h3, h4⟩ := h
  exact ⟨A, cap, e, h1, h2, h3, fun hn => by
    obtain ⟨ad, e2, hl, hc⟩ := h4 hn
    exact ⟨ad, e2, by omega, hc⟩⟩
theorem Reads.own {w : World} {base n : Nat} {e : TypeId} {v : Value} {xs : List Value} (h : w.ownsRow base e 1 v n xs) : Reads w w.heap.size v xs := by
  obtain ⟨hl, ⟨rfl, rfl⟩ | ⟨g, cap, cur, rfl, hg, hgg, h1, h2, h3, h4⟩⟩ := h
  · have : xs = [] := List.eq_nil_of_length_eq_zero (by omega)
    subst this
    exact ⟨none, 0, rfl, Nat.le_refl _, Nat.zero_le _, fun _ => rfl, fun h => absurd h (by simp)⟩
  · rw [Nat.mul_one] at hl h4
    refine ⟨_, cap, by rw [hl], by omega, h2, (fun h => by cases h), fun hn => ⟨_, rfl, block_lt hgg, fun j u hu => ?_⟩⟩
    have hj : j < n := by have := (List.getElem?_eq_some_iff.1 hu).1; omega
    have hx : cur[j]? = some u := by
      rw [← h4, List.getElem?_take, if_pos hj] at hu
      simpa using hu
    have e : (⟨g, 0, none⟩ : Addr).add j = ⟨g, j, none⟩ := by unfold Addr.add; by_cases h0 : j = 0 <;> simp [h0]
    rw [e, cell_of_row _ _ _ _ _ _ hgg, hx]
theorem Reads.nil (w : World) (B : Nat) : Reads w B (.slice none 0 0) [] := ⟨none, 0, rfl, Nat.le_refl _, Nat.zero_le _, fun _ => rfl, fun h => absurd h (by simp)⟩
def ints (xs : List Int) : List Value := xs.map (Value.int .i64)
def byts (xs : List Int) : List Value := xs.map (Value.int .u8)
theorem ints_get (xs : List Int) (k : Nat) (h : k < xs.length) : (ints xs)[k]? = some (.int .i64 (xs.getD k 0)) := by simp [ints, h]
theorem byts_get (xs : List Int) (k : Nat) (h : k < xs.length) : (byts xs)[k]? = some (.int .u8 (xs.getD k 0)) := by simp [byts, h]
theorem ints_len (xs : List Int) : (ints xs).length = xs.length := by simp [ints]
theorem byts_len (xs : List Int) : (byts xs).length = xs.length := by simp [byts]
theorem cell_drew {w wr : World} {n : Nat} (h : wr = w.drewN n) (p : Addr) : wr.cell? p = w.cell? p := by
  subst h
  induction n with
  | zero => rfl
  | succ n ih => exact ih
def strs (ss : List ByteArray) : List Value := ss.map Value.string
theorem strs_len (ss : List ByteArray) : (strs ss).length = ss.length := by simp [strs]
theorem strs_get (ss : List ByteArray) (k : Nat) (h : k < ss.length) : (strs ss)[k]? = some (.string (ss.getD k ⟨#[]⟩)) := by simp [strs, h]
theorem list_ne {α : Type} (xs ys : List α) (d : α) (k : Nat) (h : xs.getD k d ≠ ys.getD k d) : xs ≠ ys := fun e => h (by rw [e])
theorem list_eq {α : Type} (xs ys : List α) (d : α) (hl : xs.length = ys.length) (h : ∀ j, j < xs.length → xs.getD j d = ys.getD j d) : xs = ys := by
  apply List.ext_getElem hl
  intro j h1 h2
  have := h j h1
  simpa [List.getD, h1, h2] using this
theorem str_ne_iff (x y : ByteArray) : (x.toList == y.toList) = decide (x = y) := by
  rw [Lib.toList_data, Lib.toList_data, Bool.eq_iff_iff]
  simp only [beq_iff_eq, decide_eq_true_eq]
  exact ⟨str_ext, fun e => by rw [e]⟩
/-- A new row of texts. -/
theorem reads_new (w : World) (cs : Array Value) (T : TypeId) (xs : List Value) (h : cs.toList = xs) (hn : xs.length ≤ 1000) : Reads (w.alloc (.cells cs T)) (w.alloc (.cells cs T)).heap.size (.slice (some ⟨w.heap.size, 0, none⟩) xs.length xs.length) xs :=
  ⟨_, _, rfl, Nat.le_refl _, by unfold maxLen; omega, (fun h => by cases h), fun _ => ⟨_, rfl, by simp, fun j u hu => row_cells (heap_alloc_new w (.cells cs T)) j u (by rw [← hu, ← h]; simp)⟩⟩
end Go.Proofs.YtmcafiihicanfaaDoor

/- Rows of values, and rows of rows, in blocks of a set. (Drawn out of ranges' text A, for stages without it.) -/
namespace Go.Proofs.YtmcafiihicanfaaDoor
open Go.RowKit Go.BigFrame

/-- A slice of n values whose cells are xs, in a block of S. -/
def RdS (w : World) (S : Nat → Prop) (v : Value) (n : Nat) (xs : List Value) : Prop :=
  ∃ A cap, v = .slice A n cap ∧ n ≤ cap ∧ cap ≤ maxLen ∧ (A = none → cap = 0) ∧ (0 < n → ∃ ad, A = some ad ∧ ad.block < w.heap.size ∧ S ad.block ∧ ∀ j u, xs[j]? = some u → w.cell? (ad.add j) = some u)
/-- The blocks of S are as they were. -/
def SameS (w w' : World) (S : Nat → Prop) : Prop := w.heap.size ≤ w'.heap.size ∧ ∀ b, b < w.heap.size → S b → w'.heap[b]? = w.heap[b]?
def AllB : Nat → Prop := fun _ => True
theorem SameS.refl (w : World) (S : Nat → Prop) : SameS w w S := ⟨Nat.le_refl _, fun _ _ _ => rfl⟩
theorem SameS.trans {w w1 w2 : World} {S : Nat → Prop} (h : SameS w w1 S) (h2 : SameS w1 w2 S) : SameS w w2 S :=
  ⟨Nat.le_trans h.1 h2.1, fun b hb hs => (h2.2 b (Nat.lt_of_lt_of_le hb h.1) hs).trans (h.2 b hb hs)⟩
theorem SameS.weak {w w' : World} {S S' : Nat → Prop} (h : SameS w w' S) (hw : ∀ b, b < w.heap.size → S' b → S b) : SameS w w' S' := ⟨h.1, fun b hb hs => h.2 b hb (hw b hb hs)⟩
theorem SameS.below {w w' : World} (h : Below w.heap.size w w') (S : Nat → Prop) : SameS w w' S := ⟨h.size, fun b hb _ => h.block b hb⟩
theorem SameS.grown {w w' : World} {row : Option Nat} (h : w.grownBy w' row) : SameS w w' (fun b => row ≠ some b) := ⟨h.size, fun b hb hs => h.block b hb fun e => hs e.symm⟩
theorem RdS.keep {w w' : World} {S : Nat → Prop} {v : Value} {n : Nat} {xs : List Value} (h : RdS w S v n xs) (hs : SameS w w' S) : RdS w' S v n xs := by
  obtain ⟨A, cap, e, h1, h2, h3, h4⟩ := h
  refine ⟨A, cap, e, h1, h2, h3, fun hn => ?_⟩
  obtain ⟨ad, e2, hl, hS, hc⟩ := h4 hn
  refine ⟨ad, e2, Nat.lt_of_lt_of_le hl hs.1, hS, fun j u hu => ?_⟩
  have hb := hs.2 ad.block hl hS
  have hcj := hc j u hu
  unfold World.cell? at hcj ⊢
  rw [add_block] at hcj ⊢
  rw [hb]; exact hcj
theorem RdS.weak {w : World} {S S' : Nat → Prop} {v : Value} {n : Nat} {xs : List Value} (h : RdS w S v n xs) (hw : ∀ b, b < w.heap.size → S b → S' b) : RdS w S' v n xs := by
  obtain ⟨A, cap, e, h1, h2, h3, h4⟩ := h
  exact ⟨A, cap, e, h1, h2, h3, fun hn => by
    obtain ⟨ad, e2, hl, hS, hc⟩ := h4 hn
    exact ⟨ad, e2, hl, hw _ hl hS, hc⟩⟩
theorem RdS.all {w : World} {S : Nat → Prop} {v : Value} {n : Nat} {xs : List Value} (h : RdS w S v n xs) : RdS w AllB v n xs := h.weak fun _ _ _ => trivial
theorem RdS.below {w w' : World} {S : Nat → Prop} {v : Value} {n : Nat} {xs : List Value} (h : RdS w S v n xs) (hb : Below w.heap.size w w') : RdS w' S v n xs := h.keep (SameS.below hb S)
theorem RdS.nil (w : World) (S : Nat → Prop) : RdS w S (.slice none 0 0) 0 [] := ⟨none, 0, rfl, Nat.le_refl _, Nat.zero_le _, fun _ => rfl, fun h => absurd h (by simp)⟩
theorem RdS.own {w : World} {base n sz : Nat} {e : TypeId} {v : Value} {xs : List Value} (h : w.ownsRow base e sz v n xs) : RdS w (fun b => base ≤ b) v n xs := by
  obtain ⟨hl, ⟨rfl, rfl⟩ | ⟨g, cap, cur, rfl, hg, hgg, h1, h2, h3, h4⟩⟩ := h
  · exact ⟨none, 0, rfl, Nat.le_refl _, Nat.zero_le _, fun _ => rfl, fun h => absurd h (by simp)⟩
  · refine ⟨_, cap, rfl, by omega, h2, (fun h => by cases h), fun hn => ⟨_, rfl, block_lt hgg, hg, fun j u hu => ?_⟩⟩
    have hj : j < n * sz := by have := (List.getElem?_eq_some_iff.1 hu).1; omega
    have hx : cur[j]? = some u := by
      rw [← h4, List.getElem?_take, if_pos hj] at hu
      simpa using hu
    have e : (⟨g, 0, none⟩ : Addr).add j = ⟨g, j, none⟩ := by unfold Addr.add; by_cases h0 : j = 0 <;> simp [h0]
    rw [e, cell_of_row _ _ _ _ _ _ hgg, hx]
theorem RdS.reads {w : World} {S : Nat → Prop} {v : Value} {xs : List Value} (h : RdS w S v xs.length xs) : Reads w w.heap.size v xs := by
  obtain ⟨A, cap, e, h1, h2, h3, h4⟩ := h
  exact ⟨A, cap, e, h1, h2, h3, fun hn => by
    obtain ⟨ad, e2, hl, hS, hc⟩ := h4 hn
    exact ⟨ad, e2, hl, hc⟩⟩
theorem RdS.of_reads {w : World} {v : Value} {xs : List Value} {n : Nat} (h : Reads w w.heap.size v xs) (hn : xs.length = n) : RdS w AllB v n xs := by
  obtain ⟨A, cap, e, h1, h2, h3, h4⟩ := h
  subst hn
  exact ⟨A, cap, e, h1, h2, h3, fun hn => by
    obtain ⟨ad, e2, hl, hc⟩ := h4 hn
    exact ⟨ad, e2, hl, trivial, hc⟩⟩
theorem RdS.form {w : World} {S : Nat → Prop} {v : Value} {n : Nat} {xs : List Value} (h : RdS w S v n xs) : ∃ A cap, v = .slice A n cap ∧ n ≤ cap ∧ cap ≤ maxLen := by
  obtain ⟨A, cap, e, h1, h2, _⟩ := h; exact ⟨A, cap, e, h1, h2⟩
/-- A law of what a value in memory reads as: it stays where its blocks stay. -/
structure Keeps {α : Type} (R : World → (Nat → Prop) → Value → α → Prop) : Prop where
  keep : ∀ {w w' : World} {S : Nat → Prop} {v : Value} {x : α}, R w S v x → SameS w w' S → R w' S v x
  weak : ∀ {w : World} {S S' : Nat → Prop} {v : Value} {x : α}, R w S v x → (∀ b, b < w.heap.size → S b → S' b) → R w S' v x
def ItemsS {α : Type} (R : World → (Nat → Prop) → Value → α → Prop) (w : World) (S : Nat → Prop) (vs : List Value) (r : List α) : Prop :=
  vs.length = r.length ∧ ∀ (k : Nat) (u : Value) (x : α), vs[k]? = some u → r[k]? = some x → R w S u x
theorem ItemsS.nil {α : Type} (R : World → (Nat → Prop) → Value → α → Prop) (w : World) (S : Nat → Prop) : ItemsS R w S [] [] := ⟨rfl, fun k u x h => by simp at h⟩
theorem ItemsS.snoc {α : Type} {R : World → (Nat → Prop) → Value → α → Prop} {w : World} {S : Nat → Prop} {vs : List Value} {r : List α} {u : Value} {x : α} (h : ItemsS R w S vs r) (hx : R w S u x) : ItemsS R w S (vs ++ [u]) (r ++ [x]) := by
  refine ⟨by simp [h.1], fun k a b ha hb => ?_⟩
  rcases Nat.lt_or_ge k vs.length with hk | hk
  · rw [List.getElem?_append_left hk] at ha
    rw [List.getElem?_append_left (by rw [← h.1]; exact hk)] at hb
    exact h.2 k a b ha hb
  · have hkl : k < vs.length + 1 := by have := (List.getElem?_eq_some_iff.1 ha).1; simpa using this
    obtain rfl : k = vs.length := by omega
    have e1 : a = u := by simpa using ha.symm
    rw [h.1] at hb
    have e2 : b = x := by simpa using hb.symm
    subst e1; subst e2; exact hx
theorem ItemsS.keep {α : Type} {R : World → (Nat → Prop) → Value → α → Prop} (K : Keeps R) {w w' : World} {S : Nat → Prop} {vs : List Value} {r : List α} (h : ItemsS R w S vs r) (hs : SameS w w' S) : ItemsS R w' S vs r :=
  ⟨h.1, fun k u x hu hx => K.keep (h.2 k u x hu hx) hs⟩
theorem ItemsS.weak {α : Type} {R : World → (Nat → Prop) → Value → α → Prop} (K : Keeps R) {w : World} {S S' : Nat → Prop} {vs : List Value} {r : List α} (h : ItemsS R w S vs r) (hw : ∀ b, b < w.heap.size → S b → S' b) : ItemsS R w S' vs r :=
  ⟨h.1, fun k u x hu hx => K.weak (h.2 k u x hu hx) hw⟩
def OutS {α : Type} (R : World → (Nat → Prop) → Value → α → Prop) (w : World) (S : Nat → Prop) (v : Value) (r : List α) : Prop :=
  ∃ vs : List Value, RdS w S v r.length vs ∧ ItemsS R w S vs r
theorem OutS.keep {α : Type} {R : World → (Nat → Prop) → Value → α → Prop} (K : Keeps R) {w w' : World} {S : Nat → Prop} {v : Value} {r : List α} (h : OutS R w S v r) (hs : SameS w w' S) : OutS R w' S v r := by
  obtain ⟨vs, h1, h2⟩ := h; exact ⟨vs, h1.keep hs, h2.keep K hs⟩
theorem OutS.below {α : Type} {R : World → (Nat → Prop) → Value → α → Prop} (K : Keeps R) {w w' : World} {S : Nat → Prop} {v : Value} {r : List α} (h : OutS R w S v r) (hb : Below w.heap.size w w') : OutS R w' S v r := h.keep K (SameS.below hb S)
theorem OutS.all {α : Type} {R : World → (Nat → Prop) → Value → α → Prop} (K : Keeps R) {w : World} {S : Nat → Prop} {v : Value} {r : List α} (h : OutS R w S v r) : OutS R w AllB v r := by
  obtain ⟨vs, h1, h2⟩ := h; exact ⟨vs, h1.all, h2.weak K fun _ _ _ => trivial⟩
theorem OutS.form {α : Type} {R : World → (Nat → Prop) → Value → α → Prop} {w : World} {S : Nat → Prop} {v : Value} {r : List α} (h : OutS R w S v r) : ∃ A cap, v = .slice A r.length cap ∧ r.length ≤ cap ∧ cap ≤ maxLen := by
  obtain ⟨vs, h1, _⟩ := h; exact h1.form
/-- The k-th of a row of rows: its cell, and what it reads as. -/
theorem OutS.get {α : Type} [Inhabited α] {R : World → (Nat → Prop) → Value → α → Prop} {w : World} {S : Nat → Prop} {A : Option Addr} {n cap : Nat} {r : List α} (h : OutS R w S (.slice A n cap) r) (k : Nat) (hk : k < r.length) :
    ∃ ad u, A = some ad ∧ w.cell? (ad.add k) = some u ∧ R w S u (r.getD k default) := by
  obtain ⟨vs, ⟨A', cap', e, h1, h2, h3, h4⟩, hi⟩ := h
  cases e
  obtain ⟨ad, rfl, _, _, hc⟩ := h4 (by omega)
  have hkv : k < vs.length := by rw [hi.1]; exact hk
  exact ⟨ad, vs[k], rfl, hc k _ (List.getElem?_eq_getElem hkv), hi.2 k _ _ (List.getElem?_eq_getElem hkv) (by simp [hk])⟩
theorem add_add (ad : Addr) (k j : Nat) : (ad.add k).add j = ad.add (k + j) := by
  unfold Addr.add
  by_cases h1 : k = 0 <;> by_cases h2 : j = 0 <;> simp_all [Nat.add_assoc]
theorem cell_two {w : World} {g : Nat} {T : TypeId} {x y : Value} (h : w.heap[g]? = some (.cells #[x, y] T (0, 0))) : w.cell? ⟨g, 0, none⟩ = some x ∧ w.cell? ⟨g, 1, none⟩ = some y ∧ w.frozen? ⟨g, 0, none⟩ = false ∧ w.frozen? ⟨g, 1, none⟩ = false :=
  ⟨by rw [cell_of_row _ _ _ _ _ _ h]; rfl, by rw [cell_of_row _ _ _ _ _ _ h]; rfl, frozen_of_row _ _ _ _ _ h, frozen_of_row _ _ _ _ _ h⟩
theorem row_at (w0 w : World) (o : Obj) (hb : Below w0.heap.size w0 w) : ∃ w1, w1 = w.alloc o ∧ w1.heap[w.heap.size]? = some o ∧ Below w.heap.size w w1 ∧ w1.heap.size = w.heap.size + 1 ∧ Below w0.heap.size w0 w1 :=
  ⟨_, rfl, heap_alloc_new w o, (Below.refl _ _).alloc (Nat.le_refl _) o, by simp, hb.alloc hb.size o⟩
theorem cell_lit {w : World} {g k : Nat} {v : Value} (h : w.cell? ((⟨g, 0, none⟩ : Addr).add k) = some v) : w.cell? ⟨g, k, none⟩ = some v := by
  have e : (⟨g, 0, none⟩ : Addr).add k = ⟨g, k, none⟩ := by unfold Addr.add; by_cases h0 : k = 0 <;> simp [h0]
  rwa [e] at h
end Go.Proofs.YtmcafiihicanfaaDoor

/- Laws of append that tell in which block the row lies then; frames with two exceptions. -/
namespace Go.Proofs.YtmcafiihicanfaaDoor
open Go.ChangeShapes Go.WideShapes Go.ChangeAt Go.RowKit

/-- Where an appended row lies: where it lay, or in a new block. -/
def Moved (w : World) (v v' : Value) : Prop := v'.ownBlock = v.ownBlock ∨ ∃ g, v'.ownBlock = some g ∧ w.heap.size ≤ g
theorem Moved.refl (w : World) (v : Value) : Moved w v v := .inl rfl
theorem Moved.trans {w w1 : World} {a b c : Value} (h : Moved w a b) (h2 : Moved w1 b c) (hz : w.heap.size ≤ w1.heap.size) : Moved w a c := by
  rcases h2 with e | ⟨g, e, hg⟩
  · rcases h with e2 | ⟨g, e2, hg⟩
    · exact .inl (e.trans e2)
    · exact .inr ⟨g, e.trans e2, hg⟩
  · exact .inr ⟨g, e, Nat.le_trans hz hg⟩
theorem Moved.ne {w : World} {v v' : Value} {k : Nat} (h : Moved w v v') (hk : k < w.heap.size) (hne : v.ownBlock ≠ some k) : v'.ownBlock ≠ some k := by
  rcases h with e | ⟨g, e, hg⟩
  · rw [e]; exact hne
  · rw [e]; intro h; cases h; omega

theorem append_moved {P : Program} {w : World} (base : Nat) (t ty e : TypeId) (i : TypeInfo) (z : Value) (size bytes : Nat) (ht : P.underlying t = some (.slice e)) (hi : P.info? e = some i) (hz : i.zero = some z)
    (hsize : i.size = size) (hby : i.bytes = bytes) (hzs : z.cells.size = size) (hsz : 0 < size) (v : Value) (n : Nat) (xs : List Value) (hown : w.ownsRow base e size v n xs)
    (a : Addr) (m c : Nat) (news : List Value) (hl : news.length = m * size) (hnews : ∀ j u, news[j]? = some u → w.cell? (a.add j) = some u) (h1 : ∀ u ∈ news, u.oneCell' = true)
    (h63 : n + m ≤ maxLen) (hbytes : (n + m) * bytes ≤ 140737488355328) (v' : Value) (w' : World) (hr : (Builtin.append_ #[t, t] ty #[v, .slice (some a) m c]).run P w = .ok v' w') : Moved w v v' := by
  have hsmall : n + m ≤ 9223372036854775807 := by simp only [maxLen] at h63; omega
  subst hsize
  subst hby
  rcases hown.2 with ⟨rfl, rfl⟩ | ⟨g, cap, cur, rfl, hbg, hg, hnc, hcm, hcs, htake⟩
  · obtain ⟨v2, w2, hr2, ho2, _, hnil⟩ := run_append_own (P := P) w w.heap.size t ty e i z i.size i.bytes ht hi hz rfl rfl hzs hsz _ 0 xs ⟨hown.1, .inl ⟨rfl, rfl⟩⟩ a m c news hl hnews h1 h63 hbytes (Nat.le_refl _)
    rw [hr] at hr2
    cases hr2
    cases hb : v'.ownBlock with
    | none => exact .inl hb
    | some g => exact .inr ⟨g, hb, (ho2.lt g hb).1⟩
  · by_cases hroom : n + m ≤ cap
    · have hfit : n * i.size + news.length ≤ cur.size := by rw [hl, hcs, ← Nat.add_mul]; exact Nat.mul_le_mul_right _ hroom
      have hr2 := run_append_room (P := P) w t ty e i ht hi g n cap cur hg a m c news hl hnews h1 hroom hfit
      rw [hr] at hr2
      cases hr2
      exact .inl rfl
    · have holds : ∀ j u, xs[j]? = some u → w.cell? ((⟨g, 0, none⟩ : Addr).add j) = some u := hown.cells (g := g) rfl
      have hr2 := run_append_grow (P := P) w t ty e i z ht hi hz ⟨g, 0, none⟩ n cap xs hown.1 holds a m c news hl hnews (by omega) (by omega) (growslice_fits (by omega) hbytes)
      rw [hr] at hr2
      cases hr2
      exact .inr ⟨_, rfl, Nat.le_refl _⟩

/-- append to a row of the call's own, of what another slice holds. -/
theorem wpList_app {P : Program} {w : World} {ops : Array Oper} {rest : List Oper} {o : Oper} {a : Act} {Q : Exit → Act → World → Prop} (hgd : o.guard = none) (s x : Operand) (t : TypeId)
    (ho : o.op = .call { callee := .builtin .append, args := #[s, x], argTypes := #[t, t] })
    (base : Nat) (e : TypeId) (i : TypeInfo) (z : Value) (bytes : Nat) (ht : P.underlying t = some (.slice e)) (hi : P.info? e = some i) (hz : i.zero = some z) (hs1 : i.size = 1) (hb1 : i.bytes = bytes) (hzs : z.cells.size = 1)
    (v : Value) (n : Nat) (xs : List Value) (hs : a.eval s = v) (hown : w.ownsRow base e 1 v n xs) (ad : Addr) (m c : Nat) (news : List Value) (hx : a.eval x = .slice (some ad) m c) (hl : news.length = m)
    (hnews : ∀ j u, news[j]? = some u → w.cell? (ad.add j) = some u) (h1 : ∀ u ∈ news, u.oneCell' = true)
    (h63 : n + m ≤ maxLen) (hbytes : (n + m) * bytes ≤ 140737488355328) (hbase : base ≤ w.heap.size)
    (h : ∀ v' w', w'.ownsRow base e 1 v' (n + m) (xs ++ news) → w.grownBy w' v.ownBlock → Moved w v v' → wpList P ops Q rest (a.put o.dst v') w') : wpList P ops Q (o :: rest) a w :=
  wpList_plain hgd fun _ hK => by
    have hl1 : news.length = m * 1 := by rw [hl, Nat.mul_one]
    obtain ⟨v', w', hr, h2, h3, _⟩ := run_append_own (P := P) w base t o.type e i z 1 bytes ht hi hz hs1 hb1 hzs (by decide) v n xs hown ad m c news hl1 hnews h1 h63 hbytes hbase
    have hm := append_moved base t o.type e i z 1 bytes ht hi hz hs1 hb1 hzs (by decide) v n xs hown ad m c news hl1 hnews h1 h63 hbytes v' w' hr
    unfold Oper.wp execOp
    simp only [ho, resolve, invoke, builtin, Sem.run_bind, Sem.run_pure, Result.andThen_ok, List.map_toArray, List.map_cons, List.map_nil, hs, hx, hr]
    exact hK _ _ (h v' w' h2 h3 hm)
/-- The same, of bytes that a slice holds. -/
theorem wpList_app_holds {P : Program} {w : World} {ops : Array Oper} {rest : List Oper} {o : Oper} {a : Act} {Q : Exit → Act → World → Prop} (hgd : o.guard = none) (s x : Operand) (t : TypeId)
    (ho : o.op = .call { callee := .builtin .append, args := #[s, x], argTypes := #[t, t] })
    (base : Nat) (e : TypeId) (i : TypeInfo) (ht : P.underlying t = some (.slice e)) (hi : P.info? e = some i) (hz : i.zero = some (.int .u8 0)) (hs1 : i.size = 1) (hb1 : i.bytes = 1)
    (v : Value) (n : Nat) (xs : List Value) (hs : a.eval s = v) (hown : w.ownsRow base e 1 v n xs) (B : Nat) (A : Option Addr) (m c : Nat) (d : Nat → Nat) (hx : a.eval x = .slice A m c) (hr : Holds w B A m d) (hA : A = none → c = 0) (hmc : m ≤ c)
    (h63 : n + m ≤ maxLen) (hbytes : n + m ≤ 140737488355328) (hbase : base ≤ w.heap.size)
    (h : ∀ v' w', w'.ownsRow base e 1 v' (n + m) (xs ++ cells d m) → w.grownBy w' v.ownBlock → Moved w v v' → wpList P ops Q rest (a.put o.dst v') w') : wpList P ops Q (o :: rest) a w := by
  cases A with
  | none =>
    have hc := hA rfl
    subst hc
    obtain rfl : m = 0 := by omega
    refine wpList_append_own_none hgd s x t ho base e i 1 ht hi v n xs hs hown hx ?_
    exact h v w (by simpa [cells] using hown) (World.grownBy.refl w _) (Moved.refl w v)
  | some ad =>
    refine wpList_app hgd s x t ho base e i (.int .u8 0) 1 ht hi hz hs1 hb1 rfl v n xs hs hown ad m c (cells d m) hx (by rw [cells_len]) ?_ ?_ h63 (by omega) hbase h
    · intro j u hu
      have hj : j < m := by
        have := (List.getElem?_eq_some_iff.1 hu).1
        rwa [cells_len] at this
      obtain ⟨ad', e', _, hc⟩ := hr (by omega)
      cases e'
      rw [cells_get _ _ _ hj] at hu
      rw [hc j hj, hu]
    · intro u hu
      simp [cells] at hu
      obtain ⟨_, _, rfl⟩ := hu
      rfl

/-- All blocks stand but block g, and the block r. -/
structure KeptBut (w w' : World) (g : Nat) (r : Option Nat) : Prop where
  os : w'.os = w.os
  tape : w'.tape = w.tape
  output : w'.output = w.output
  size : w.heap.size ≤ w'.heap.size
  block : ∀ k, k < w.heap.size → k ≠ g → some k ≠ r → w'.heap[k]? = w.heap[k]?
theorem KeptBut.refl (w : World) (g : Nat) (r : Option Nat) : KeptBut w w g r := ⟨rfl, rfl, rfl, Nat.le_refl _, fun _ _ _ _ => rfl⟩
theorem KeptBut.grown {w w1 w2 : World} {g : Nat} {v v1 : Value} (h : KeptBut w w1 g v.ownBlock) (hm : Moved w v v1) (h2 : w1.grownBy w2 v1.ownBlock) : KeptBut w w2 g v.ownBlock :=
  ⟨h2.os.trans h.os, h2.tape.trans h.tape, h2.output.trans h.output, Nat.le_trans h.size h2.size, fun k hk h0 h1 =>
    (h2.block k (Nat.lt_of_lt_of_le hk h.size) (fun e => hm.ne hk (fun e' => h1 e'.symm) e.symm)).trans (h.block k hk h0 h1)⟩
theorem KeptBut.setCell {w w1 : World} {g : Nat} {r : Option Nat} (h : KeptBut w w1 g r) {p : Addr} (hp : p.block = g) (u : Value) : KeptBut w (w1.setCell p u) g r :=
  ⟨h.os, h.tape, h.output, by simp; exact h.size, fun k hk h0 h1 => (heap_setCell_other w1 p k u (by rw [hp]; exact h0)).trans (h.block k hk h0 h1)⟩
theorem KeptBut.drew {w w1 : World} {g : Nat} {r : Option Nat} (h : KeptBut w w1 g r) : KeptBut w w1.drew g r := ⟨h.os, h.tape, h.output, h.size, h.block⟩
theorem KeptBut.alloc {w w1 : World} {g : Nat} {r : Option Nat} (h : KeptBut w w1 g r) (o : Obj) : KeptBut w (w1.alloc o) g r :=
  ⟨h.os, h.tape, h.output, by simp; exact Nat.le_succ_of_le h.size, fun k hk h0 h1 => (old_block w1 o k (Nat.lt_of_lt_of_le hk h.size)).trans (h.block k hk h0 h1)⟩
theorem KeptBut.trans {w w1 w2 : World} {g : Nat} {v v1 : Value} (h : KeptBut w w1 g v.ownBlock) (hm : Moved w v v1) (h2 : KeptBut w1 w2 g v1.ownBlock) : KeptBut w w2 g v.ownBlock :=
  ⟨h2.os.trans h.os, h2.tape.trans h.tape, h2.output.trans h.output, Nat.le_trans h.size h2.size, fun k hk h0 h1 =>
    (h2.block k (Nat.lt_of_lt_of_le hk h.size) h0 (fun e => hm.ne hk (fun e' => h1 e'.symm) e.symm)).trans (h.block k hk h0 h1)⟩
theorem KeptBut.below {w w1 : World} {g B : Nat} {r : Option Nat} {W : World} (hb : Below B W w) (h : KeptBut w w1 g r) (hg : B ≤ g) (hr : ∀ k, r = some k → B ≤ k) (hB : B ≤ w.heap.size) : Below B W w1 :=
  ⟨h.os.trans hb.os, h.tape.trans hb.tape, h.output.trans hb.output, Nat.le_trans hb.size h.size, fun k hk =>
    (h.block k (Nat.lt_of_lt_of_le hk hB) (by omega) (fun e => by have := hr k e.symm; omega)).trans (hb.block k hk)⟩
theorem KeptBut.of_below {w w1 : World} (g : Nat) (r : Option Nat) (h : Below w.heap.size w w1) : KeptBut w w1 g r := ⟨h.os, h.tape, h.output, h.size, fun k hk _ _ => h.block k hk⟩
/-- One row behind another one. -/
def joinD (n : Nat) (d e : Nat → Nat) (i : Nat) : Nat := if i < n then d i else e (i - n)
theorem join_cells (n m : Nat) (d e : Nat → Nat) : cells d n ++ cells e m = cells (joinD n d e) (n + m) :=
  cells_append _ _ _ _ _ (fun i hi => by rw [joinD, if_pos hi]) fun i _ => by rw [joinD, if_neg (by omega)]; congr 1; omega
theorem join_lt (n : Nat) (d e : Nat → Nat) (hd : ∀ i, d i < 256) (he : ∀ i, e i < 256) (i : Nat) : joinD n d e i < 256 := by
  unfold joinD; split; exact hd _; exact he _
theorem join_at (n : Nat) (d e : Nat → Nat) (j : Nat) : joinD n d e (n + j) = e j := by rw [joinD, if_neg (by omega), Nat.add_sub_cancel_left]
theorem join_low (n : Nat) (d e : Nat → Nat) (j : Nat) (h : j < n) : joinD n d e j = d j := by rw [joinD, if_pos h]
theorem cells_congr (d e : Nat → Nat) (n : Nat) (h : ∀ i, i < n → d i = e i) : cells d n = cells e n := by
  unfold cells
  exact List.map_congr_left fun i hi => by rw [h i (by simpa using hi)]
end Go.Proofs.YtmcafiihicanfaaDoor

/- What a step may change: all blocks but those of a set stand. -/
namespace Go.Proofs.YtmcafiihicanfaaDoor
open Go.RowKit Go.BigFrame

structure Ch (w w' : World) (M : Nat → Prop) : Prop where
  os : w'.os = w.os
  tape : w'.tape = w.tape
  output : w'.output = w.output
  size : w.heap.size ≤ w'.heap.size
  block : ∀ k, k < w.heap.size → ¬ M k → w'.heap[k]? = w.heap[k]?
theorem Ch.refl (w : World) (M : Nat → Prop) : Ch w w M := ⟨rfl, rfl, rfl, Nat.le_refl _, fun _ _ _ => rfl⟩
theorem Ch.weak {w w' : World} {M M' : Nat → Prop} (h : Ch w w' M) (hm : ∀ k, k < w.heap.size → M k → M' k) : Ch w w' M' :=
  ⟨h.os, h.tape, h.output, h.size, fun k hk hn => h.block k hk fun c => hn (hm k hk c)⟩
theorem Ch.trans {w w1 w2 : World} {M M' : Nat → Prop} (h : Ch w w1 M) (h2 : Ch w1 w2 M') (hm : ∀ k, k < w.heap.size → M' k → M k) : Ch w w2 M :=
  ⟨h2.os.trans h.os, h2.tape.trans h.tape, h2.output.trans h.output, Nat.le_trans h.size h2.size, fun k hk hn => (h2.block k (Nat.lt_of_lt_of_le hk h.size) fun c => hn (hm k hk c)).trans (h.block k hk hn)⟩
theorem Ch.setCell {w w1 : World} {M : Nat → Prop} (h : Ch w w1 M) {p : Addr} (hp : M p.block) (u : Value) : Ch w (w1.setCell p u) M :=
  ⟨h.os, h.tape, h.output, by simpa using h.size, fun k hk hn => (Below.heap_setCell _ _ _ _ (fun e => hn (by rw [e]; exact hp))).trans (h.block k hk hn)⟩
theorem Ch.alloc {w w1 : World} {M : Nat → Prop} (h : Ch w w1 M) (o : Obj) : Ch w (w1.alloc o) M :=
  ⟨h.os, h.tape, h.output, Nat.le_trans h.size (by simp), fun k hk hn => (Below.heap_alloc _ _ _ (Nat.lt_of_lt_of_le hk h.size)).trans (h.block k hk hn)⟩
theorem Ch.drewN {w w1 : World} {M : Nat → Prop} (h : Ch w w1 M) (q : Nat) : Ch w (w1.drewN q) M := by
  induction q with
  | zero => exact h
  | succ q ih => exact ⟨ih.os, ih.tape, ih.output, ih.size, ih.block⟩
theorem Ch.drew {w w1 : World} {M : Nat → Prop} (h : Ch w w1 M) : Ch w w1.drew M := ⟨h.os, h.tape, h.output, h.size, h.block⟩
theorem Ch.grown {w w1 w2 : World} {M : Nat → Prop} {row : Option Nat} (h : Ch w w1 M) (h2 : w1.grownBy w2 row) (hr : ∀ k, k < w.heap.size → row = some k → M k) : Ch w w2 M :=
  ⟨h2.os.trans h.os, h2.tape.trans h.tape, h2.output.trans h.output, Nat.le_trans h.size h2.size, fun k hk hn => (h2.block k (Nat.lt_of_lt_of_le hk h.size) fun c => hn (hr k hk c.symm)).trans (h.block k hk hn)⟩
theorem Ch.of_below {w w' : World} {B : Nat} (h : Below B w w') (M : Nat → Prop) (hm : ∀ k, k < w.heap.size → B ≤ k → M k) : Ch w w' M :=
  ⟨h.os, h.tape, h.output, h.size, fun k hk hn => h.block k (by
    by_cases c : B ≤ k
    · exact absurd (hm k hk c) hn
    · omega)⟩
theorem Ch.below {w w' : World} {M : Nat → Prop} (h : Ch w w' M) {B : Nat} (hB : B ≤ w.heap.size) (hm : ∀ k, M k → B ≤ k) : Below B w w' :=
  ⟨h.os, h.tape, h.output, h.size, fun k hk => h.block k (by omega) fun c => by have := hm k c; omega⟩
theorem Ch.same {w w' : World} {M : Nat → Prop} (h : Ch w w' M) (S : Nat → Prop) (hs : ∀ b, b < w.heap.size → S b → ¬ M b) : SameS w w' S :=
  ⟨h.size, fun b hb hS => h.block b hb (hs b hb hS)⟩
theorem Ch.cell {w w' : World} {M : Nat → Prop} (h : Ch w w' M) {p : Addr} {v : Value} (hc : w.cell? p = some v) (hm : ¬ M p.block) : w'.cell? p = some v :=
  (World.cell?_of_block (h.block p.block (World.block_lt_of_cell? w p hc) hm)).trans hc
theorem Ch.heap {w w' : World} {M : Nat → Prop} (h : Ch w w' M) {g : Nat} {o : Obj} (hc : w.heap[g]? = some o) (hm : ¬ M g) : w'.heap[g]? = some o :=
  (h.block g (block_lt hc) hm).trans hc
theorem Ch.own {w w' : World} {M : Nat → Prop} (h : Ch w w' M) {base size n : Nat} {e : TypeId} {v : Value} {xs : List Value} (ho : w.ownsRow base e size v n xs) (hm : ∀ b, v.ownBlock = some b → ¬ M b) : w'.ownsRow base e size v n xs := by
  obtain ⟨hl, hz | ⟨g, cap, cur, rfl, hg, hgg, h2⟩⟩ := ho
  · exact ⟨hl, .inl hz⟩
  · exact ⟨hl, .inr ⟨g, cap, cur, rfl, hg, h.heap hgg (hm g rfl), h2⟩⟩
/-- One store into a block that is known whole. -/
theorem blk_set {w : World} {g : Nat} {T : TypeId} {cs : Array Value} (h : w.heap[g]? = some (.cells cs T (0, 0))) (i : Nat) (v : Value) : (w.setCell ⟨g, i, none⟩ v).heap[g]? = some (.cells (cs.setIfInBounds i v) T (0, 0)) :=
  heap_setCell_same w g i cs T v h
theorem blk_cell {w : World} {g : Nat} {T : TypeId} {cs : Array Value} (h : w.heap[g]? = some (.cells cs T (0, 0))) (i : Nat) : w.cell? ⟨g, i, none⟩ = cs[i]? := cell_of_row _ _ _ _ _ _ h
theorem blk_free {w : World} {g : Nat} {T : TypeId} {cs : Array Value} (h : w.heap[g]? = some (.cells cs T (0, 0))) (i : Nat) : w.frozen? ⟨g, i, none⟩ = false := frozen_of_row _ _ _ _ _ h
theorem heap_drewN (w : World) (q : Nat) : (w.drewN q).heap = w.heap := by
  induction q with
  | zero => rfl
  | succ q ih => exact ih
/-- A row that is not nil: where it lies. -/
theorem own_at {w : World} {base n : Nat} {e : TypeId} {v : Value} {xs : List Value} (h : w.ownsRow base e 1 v n xs) (hn : 0 < n) : ∃ g cap, v = .slice (some ⟨g, 0, none⟩) n cap ∧ base ≤ g ∧ g < w.heap.size ∧ n ≤ cap ∧ cap ≤ maxLen := by
  rcases h.2 with ⟨_, e⟩ | ⟨g, cap, cur, rfl, hg, hgg, hnc, hcm, _, _⟩
  · omega
  · exact ⟨g, cap, rfl, hg, block_lt hgg, hnc, hcm⟩
/-- The row's first n cells are a row too. -/
theorem own_cut {w : World} {base n m cap : Nat} {e : TypeId} {p : Option Addr} {xs : List Value} (h : w.ownsRow base e 1 (.slice p n cap) n xs) (hp : p ≠ none) (hm : m ≤ n) : w.ownsRow base e 1 (.slice p m cap) m (xs.take m) := by
  have hl := h.1
  rcases h.2 with ⟨e', _⟩ | ⟨g, cap', cur, e', hg, hgg, hnc, hcm, hcs, htake⟩
  · simp only [Value.slice.injEq] at e'; exact absurd e'.1 hp
  · simp only [Value.slice.injEq, true_and] at e'
    obtain ⟨rfl, rfl⟩ := e'
    refine ⟨by rw [List.length_take]; omega, .inr ⟨g, cap, cur, rfl, hg, hgg, by omega, hcm, hcs, ?_⟩⟩
    rw [← htake, List.take_take]
    congr 1
    omega
end Go.Proofs.YtmcafiihicanfaaDoor
