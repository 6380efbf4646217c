/- Rows that a slice reads as; texts in rows. (Drawn out of version's texts G, J, W: for stages that import none of version's.) -/
import Derived.Test.YtbniilajffjfcaaGreatDoorProg
import Derived.Test.YtbniilajffjfcaaGreatDoorBase
import Derived.LoopTactic
set_option linter.unusedVariables false
set_option linter.unusedSimpArgs false
namespace Go.Proofs.YtbniilajffjfcaaGreatDoor
open Go.RowKit Go.BigFrame

/-- A slice of one-cell values, that lies below block B. -/
def Reads (w : World) (B : Nat) (v : Value) (xs : List Value) : Prop :=
  ∃ A cap, v = .slice A xs.length cap ∧ xs.length ≤ cap ∧ cap ≤ maxLen ∧ (A = none → cap = 0) ∧ (0 < xs.length → ∃ ad, A = some ad ∧ ad.block < B ∧ ∀ j u, xs[j]? = some u → w.cell? (ad.add j) = some u)
theorem Reads.below {w w' : World} {B : Nat} {v : Value} {xs : List Value} (h : Reads w B v xs) (hb : Below B w w') : Reads w' B v xs := by
  obtain ⟨A, cap, e, h1, h2, h3, h4⟩ := h
  exact ⟨A, cap, e, h1, h2, h3, fun hn => by
    obtain ⟨ad, e2, hl, hc⟩ := h4 hn
    exact ⟨ad, e2, hl, fun j u hu => (hb.cell (by rw [add_block]; exact hl)).trans (hc j u hu)⟩⟩
theorem Reads.more {w : World} {B B' : Nat} {v : Value} {xs : List Value} (h : Reads w B v xs) (hb : B ≤ B') : Reads w B' v xs := by
  obtain ⟨A, cap, e, h1, h2, h3, h4⟩ := h
  exact ⟨A, cap, e, h1, h2, h3, fun hn => by
    obtain ⟨ad, e2, hl, hc⟩ := h4 hn
    exact ⟨ad, e2, by omega, hc⟩⟩
theorem Reads.own {w : World} {base n : Nat} {e : TypeId} {v : Value} {xs : List Value} (h : w.ownsRow base e 1 v n xs) : Reads w w.heap.size v xs := by
  obtain ⟨hl, ⟨rfl, rfl⟩ | ⟨g, cap, cur, rfl, hg, hgg, h1, h2, h3, h4⟩⟩ := h
  · have : xs = [] := List.eq_nil_of_length_eq_zero (by omega)
    subst this
    exact ⟨none, 0, rfl, Nat.le_refl _, Nat.zero_le _, fun _ => rfl, fun h => absurd h (by simp)⟩
  · rw [Nat.mul_one] at hl h4
    refine ⟨_, cap, by rw [hl], by omega, h2, (fun h => by cases h), fun hn => ⟨_, rfl, block_lt hgg, fun j u hu => ?_⟩⟩
    have hj : j < n := by have := (List.getElem?_eq_some_iff.1 hu).1; omega
    have hx : cur[j]? = some u := by
      rw [← h4, List.getElem?_take, if_pos hj] at hu
      simpa using hu
    have e : (⟨g, 0, none⟩ : Addr).add j = ⟨g, j, none⟩ := by unfold Addr.add; by_cases h0 : j = 0 <;> simp [h0]
    rw [e, cell_of_row _ _ _ _ _ _ hgg, hx]
theorem Reads.nil (w : World) (B : Nat) : Reads w B (.slice none 0 0) [] := ⟨none, 0, rfl, Nat.le_refl _, Nat.zero_le _, fun _ => rfl, fun h => absurd h (by simp)⟩
def ints (xs : List Int) : List Value := xs.map (Value.int .i64)
def byts (xs : List Int) : List Value := xs.map (Value.int .u8)
theorem ints_get (xs : List Int) (k : Nat) (h : k < xs.length) : (ints xs)[k]? = some (.int .i64 (xs.getD k 0)) := by simp [ints, h]
theorem byts_get (xs : List Int) (k : Nat) (h : k < xs.length) : (byts xs)[k]? = some (.int .u8 (xs.getD k 0)) := by simp [byts, h]
theorem ints_len (xs : List Int) : (ints xs).length = xs.length := by simp [ints]
theorem byts_len (xs : List Int) : (byts xs).length = xs.length := by simp [byts]
theorem cell_drew {w wr : World} {n : Nat} (h : wr = w.drewN n) (p : Addr) : wr.cell? p = w.cell? p := by
  subst h
  induction n with
  | zero => rfl
  | succ n ih => exact ih
def strs (ss : List ByteArray) : List Value := ss.map Value.string
theorem strs_len (ss : List ByteArray) : (strs ss).length = ss.length := by simp [strs]
theorem strs_get (ss : List ByteArray) (k : Nat) (h : k < ss.length) : (strs ss)[k]? = some (.string (ss.getD k ⟨#[]⟩)) := by simp [strs, h]
theorem list_ne {α : Type} (xs ys : List α) (d : α) (k : Nat) (h : xs.getD k d ≠ ys.getD k d) : xs ≠ ys := fun e => h (by rw [e])
theorem list_eq {α : Type} (xs ys : List α) (d : α) (hl : xs.length = ys.length) (h : ∀ j, j < xs.length → xs.getD j d = ys.getD j d) : xs = ys := by
  apply List.ext_getElem hl
  intro j h1 h2
  have := h j h1
  simpa [List.getD, h1, h2] using this
theorem str_ne_iff (x y : ByteArray) : (x.toList == y.toList) = decide (x = y) := by
  rw [Lib.toList_data, Lib.toList_data, Bool.eq_iff_iff]
  simp only [beq_iff_eq, decide_eq_true_eq]
  exact ⟨str_ext, fun e => by rw [e]⟩
/-- A new row of texts. -/
theorem reads_new (w : World) (cs : Array Value) (T : TypeId) (xs : List Value) (h : cs.toList = xs) (hn : xs.length ≤ 1000) : Reads (w.alloc (.cells cs T)) (w.alloc (.cells cs T)).heap.size (.slice (some ⟨w.heap.size, 0, none⟩) xs.length xs.length) xs :=
  ⟨_, _, rfl, Nat.le_refl _, by unfold maxLen; omega, (fun h => by cases h), fun _ => ⟨_, rfl, by simp, fun j u hu => row_cells (heap_alloc_new w (.cells cs T)) j u (by rw [← hu, ← h]; simp)⟩⟩
set_option maxRecDepth 100000 in
set_option maxHeartbeats 800000 in
theorem sameInts_any (a b : Value) (xs ys : List Int) (B : Nat) (w : World) (ha : Reads w B a (ints xs)) (hb : Reads w B b (ints ys)) :
    Calls Tryz.prog 28 #[a, b] w fun e w' => e = .returned (.bool (decide (xs = ys))) ∧ ∃ nq, w' = w.drewN nq := by
  obtain ⟨A, ca, rfl, hla, hma, hza, hra⟩ := ha
  obtain ⟨A', cb, rfl, hlb, hmb, hzb, hrb⟩ := hb
  simp only [ints_len] at *
  have HRA := Lib.hid hra
  have HRB := Lib.hid hrb
  unfold maxLen at *
  clear hra hrb hza hzb
  by_cases hl : xs.length = ys.length
  · have HL := Lib.hid hl
    have hbn : ((xs.length : Int) != (ys.length : Int)) = false := by rw [hl]; simp
    have hl1 : xs.length ≤ ys.length := by omega
    clear hl
    go_enter Tryz.func28, Tryz.ntmps28
    go_wp2
    go_loopw [5] (fun i wr => ∃ (k nq : Nat), k ≤ xs.length ∧ i = .int .i64 k ∧ Hid (wr = w.drewN nq) ∧ Hid (∀ j, j < k → xs.getD j 0 = ys.getD j 0)) (fun i _ => xs.length - (intOf i).toNat)
    case atStart => exact ⟨0, 0, by omega, rfl, Lib.hid rfl, Lib.hid fun j h => absurd h (Nat.not_lt_zero j)⟩
    case round =>
      obtain ⟨k, nq, hk, rfl, HW, HS⟩ := hrel
      by_cases hlt : k < xs.length
      · obtain ⟨ad, rfl, hbl, hc⟩ := HRA.out (by omega)
        obtain ⟨ad', rfl, hbl', hc'⟩ := HRB.out (by omega)
        have hcx := (cell_drew HW.out _).trans (hc k _ (ints_get xs k (by omega)))
        have hcy := (cell_drew HW.out _).trans (hc' k _ (ints_get ys k (by omega)))
        clear hc hc' hbl hbl'
        have hi1 : (k : Int) < (xs.length : Int) := by omega
        have hi2 : (k : Int) < (ys.length : Int) := by omega
        have hi0 : (0 : Int) ≤ (k : Int) := by omega
        obtain ⟨x, hx⟩ : ∃ x, x = xs.getD k 0 := ⟨_, rfl⟩
        obtain ⟨y, hy⟩ : ∃ y, y = ys.getD k 0 := ⟨_, rfl⟩
        rw [← hx] at hcx
        rw [← hy] at hcy
        by_cases hxy : x = y
        · have HS' : Hid (∀ j, j < k + 1 → xs.getD j 0 = ys.getD j 0) := Lib.hid fun j hj => by
            rcases Nat.lt_or_ge j k with h | h
            · exact HS.out j h
            · obtain rfl : j = k := by omega
              rw [← hx, ← hy]; exact hxy
          have hbe : (x != y) = false := by rw [hxy]; simp
          clear hx hy hxy
          go_wp2
          go_quiet (fail)
          go_wp2
          go_roundw
          case rel => exact ⟨k + 1, _, by omega, by go_num, Lib.hid (by rw [HW.out]; exact World.drewN_drewN _ _ _), HS'⟩
          case measure => simp [intOf]; omega
        · have HF := Lib.hid (show decide (xs = ys) = false by
            rw [decide_eq_false_iff_not]; exact list_ne xs ys _ k (by rw [← hx, ← hy]; exact hxy))
          have hbe : (x != y) = true := by rw [bne_iff_ne]; exact hxy
          clear hx hy hxy
          go_wp2
          go_quiet (fail)
          go_wp2
          go_ret
          exact ⟨ret_bool HF.out.symm, _, by rw [HW.out]; exact World.drewN_drewN _ _ _⟩
      · have HF := Lib.hid (show decide (xs = ys) = true by
          rw [decide_eq_true_eq]; exact list_eq xs ys _ HL.out fun j hj => HS.out j (by omega))
        go_wp2
        go_ret
        exact ⟨ret_bool HF.out.symm, _, HW.out⟩
  · have hbn : ((xs.length : Int) != (ys.length : Int)) = true := by rw [bne_iff_ne]; omega
    have HF := Lib.hid (show decide (xs = ys) = false by rw [decide_eq_false_iff_not]; exact fun e => hl (by rw [e]))
    go_enter Tryz.func28, Tryz.ntmps28
    go_wp2
    go_ret
    exact ⟨ret_bool HF.out.symm, 0, rfl⟩
end Go.Proofs.YtbniilajffjfcaaGreatDoor

/- Rows of values, and rows of rows, in blocks of a set. (Drawn out of ranges' text A, for stages without it.) -/
namespace Go.Proofs.YtbniilajffjfcaaGreatDoor
open Go.RowKit Go.BigFrame

/-- A slice of n values whose cells are xs, in a block of S. -/
def RdS (w : World) (S : Nat → Prop) (v : Value) (n : Nat) (xs : List Value) : Prop :=
  ∃ A cap, v = .slice A n cap ∧ n ≤ cap ∧ cap ≤ maxLen ∧ (A = none → cap = 0) ∧ (0 < n → ∃ ad, A = some ad ∧ ad.block < w.heap.size ∧ S ad.block ∧ ∀ j u, xs[j]? = some u → w.cell? (ad.add j) = some u)
/-- The blocks of S are as they were. -/
def SameS (w w' : World) (S : Nat → Prop) : Prop := w.heap.size ≤ w'.heap.size ∧ ∀ b, b < w.heap.size → S b → w'.heap[b]? = w.heap[b]?
def AllB : Nat → Prop := fun _ => True
theorem SameS.refl (w : World) (S : Nat → Prop) : SameS w w S := ⟨Nat.le_refl _, fun _ _ _ => rfl⟩
theorem SameS.trans {w w1 w2 : World} {S : Nat → Prop} (h : SameS w w1 S) (h2 : SameS w1 w2 S) : SameS w w2 S :=
  ⟨Nat.le_trans h.1 h2.1, fun b hb hs => (h2.2 b (Nat.lt_of_lt_of_le hb h.1) hs).trans (h.2 b hb hs)⟩
theorem SameS.weak {w w' : World} {S S' : Nat → Prop} (h : SameS w w' S) (hw : ∀ b, b < w.heap.size → S' b → S b) : SameS w w' S' := ⟨h.1, fun b hb hs => h.2 b hb (hw b hb hs)⟩
theorem SameS.below {w w' : World} (h : Below w.heap.size w w') (S : Nat → Prop) : SameS w w' S := ⟨h.size, fun b hb _ => h.block b hb⟩
theorem SameS.grown {w w' : World} {row : Option Nat} (h : w.grownBy w' row) : SameS w w' (fun b => row ≠ some b) := ⟨h.size, fun b hb hs => h.block b hb fun e => hs e.symm⟩
theorem RdS.keep {w w' : World} {S : Nat → Prop} {v : Value} {n : Nat} {xs : List Value} (h : RdS w S v n xs) (hs : SameS w w' S) : RdS w' S v n xs := by
  obtain ⟨A, cap, e, h1, h2, h3, h4⟩ := h
  refine ⟨A, cap, e, h1, h2, h3, fun hn => ?_⟩
  obtain ⟨ad, e2, hl, hS, hc⟩ := h4 hn
  refine ⟨ad, e2, Nat.lt_of_lt_of_le hl hs.1, hS, fun j u hu => ?_⟩
  have hb := hs.2 ad.block hl hS
  have hcj := hc j u hu
  unfold World.cell? at hcj ⊢
  rw [add_block] at hcj ⊢
  rw [hb]; exact hcj
theorem RdS.weak {w : World} {S S' : Nat → Prop} {v : Value} {n : Nat} {xs : List Value} (h : RdS w S v n xs) (hw : ∀ b, b < w.heap.size → S b → S' b) : RdS w S' v n xs := by
  obtain ⟨A, cap, e, h1, h2, h3, h4⟩ := h
  exact ⟨A, cap, e, h1, h2, h3, fun hn => by
    obtain ⟨ad, e2, hl, hS, hc⟩ := h4 hn
    exact ⟨ad, e2, hl, hw _ hl hS, hc⟩⟩
theorem RdS.all {w : World} {S : Nat → Prop} {v : Value} {n : Nat} {xs : List Value} (h : RdS w S v n xs) : RdS w AllB v n xs := h.weak fun _ _ _ => trivial
theorem RdS.below {w w' : World} {S : Nat → Prop} {v : Value} {n : Nat} {xs : List Value} (h : RdS w S v n xs) (hb : Below w.heap.size w w') : RdS w' S v n xs := h.keep (SameS.below hb S)
theorem RdS.nil (w : World) (S : Nat → Prop) : RdS w S (.slice none 0 0) 0 [] := ⟨none, 0, rfl, Nat.le_refl _, Nat.zero_le _, fun _ => rfl, fun h => absurd h (by simp)⟩
theorem RdS.own {w : World} {base n sz : Nat} {e : TypeId} {v : Value} {xs : List Value} (h : w.ownsRow base e sz v n xs) : RdS w (fun b => base ≤ b) v n xs := by
  obtain ⟨hl, ⟨rfl, rfl⟩ | ⟨g, cap, cur, rfl, hg, hgg, h1, h2, h3, h4⟩⟩ := h
  · exact ⟨none, 0, rfl, Nat.le_refl _, Nat.zero_le _, fun _ => rfl, fun h => absurd h (by simp)⟩
  · refine ⟨_, cap, rfl, by omega, h2, (fun h => by cases h), fun hn => ⟨_, rfl, block_lt hgg, hg, fun j u hu => ?_⟩⟩
    have hj : j < n * sz := by have := (List.getElem?_eq_some_iff.1 hu).1; omega
    have hx : cur[j]? = some u := by
      rw [← h4, List.getElem?_take, if_pos hj] at hu
      simpa using hu
    have e : (⟨g, 0, none⟩ : Addr).add j = ⟨g, j, none⟩ := by unfold Addr.add; by_cases h0 : j = 0 <;> simp [h0]
    rw [e, cell_of_row _ _ _ _ _ _ hgg, hx]
theorem RdS.reads {w : World} {S : Nat → Prop} {v : Value} {xs : List Value} (h : RdS w S v xs.length xs) : Reads w w.heap.size v xs := by
  obtain ⟨A, cap, e, h1, h2, h3, h4⟩ := h
  exact ⟨A, cap, e, h1, h2, h3, fun hn => by
    obtain ⟨ad, e2, hl, hS, hc⟩ := h4 hn
    exact ⟨ad, e2, hl, hc⟩⟩
theorem RdS.of_reads {w : World} {v : Value} {xs : List Value} {n : Nat} (h : Reads w w.heap.size v xs) (hn : xs.length = n) : RdS w AllB v n xs := by
  obtain ⟨A, cap, e, h1, h2, h3, h4⟩ := h
  subst hn
  exact ⟨A, cap, e, h1, h2, h3, fun hn => by
    obtain ⟨ad, e2, hl, hc⟩ := h4 hn
    exact ⟨ad, e2, hl, trivial, hc⟩⟩
theorem RdS.form {w : World} {S : Nat → Prop} {v : Value} {n : Nat} {xs : List Value} (h : RdS w S v n xs) : ∃ A cap, v = .slice A n cap ∧ n ≤ cap ∧ cap ≤ maxLen := by
  obtain ⟨A, cap, e, h1, h2, _⟩ := h; exact ⟨A, cap, e, h1, h2⟩
/-- A law of what a value in memory reads as: it stays where its blocks stay. -/
structure Keeps {α : Type} (R : World → (Nat → Prop) → Value → α → Prop) : Prop where
  keep : ∀ {w w' : World} {S : Nat → Prop} {v : Value} {x : α}, R w S v x → SameS w w' S → R w' S v x
  weak : ∀ {w : World} {S S' : Nat → Prop} {v : Value} {x : α}, R w S v x → (∀ b, b < w.heap.size → S b → S' b) → R w S' v x
def ItemsS {α : Type} (R : World → (Nat → Prop) → Value → α → Prop) (w : World) (S : Nat → Prop) (vs : List Value) (r : List α) : Prop :=
  vs.length = r.length ∧ ∀ (k : Nat) (u : Value) (x : α), vs[k]? = some u → r[k]? = some x → R w S u x
theorem ItemsS.nil {α : Type} (R : World → (Nat → Prop) → Value → α → Prop) (w : World) (S : Nat → Prop) : ItemsS R w S [] [] := ⟨rfl, fun k u x h => by simp at h⟩
theorem ItemsS.snoc {α : Type} {R : World → (Nat → Prop) → Value → α → Prop} {w : World} {S : Nat → Prop} {vs : List Value} {r : List α} {u : Value} {x : α} (h : ItemsS R w S vs r) (hx : R w S u x) : ItemsS R w S (vs ++ [u]) (r ++ [x]) := by
  refine ⟨by simp [h.1], fun k a b ha hb => ?_⟩
  rcases Nat.lt_or_ge k vs.length with hk | hk
  · rw [List.getElem?_append_left hk] at ha
    rw [List.getElem?_append_left (by rw [← h.1]; exact hk)] at hb
    exact h.2 k a b ha hb
  · have hkl : k < vs.length + 1 := by have := (List.getElem?_eq_some_iff.1 ha).1; simpa using this
    obtain rfl : k = vs.length := by omega
    have e1 : a = u := by simpa using ha.symm
    rw [h.1] at hb
    have e2 : b = x := by simpa using hb.symm
    subst e1; subst e2; exact hx
theorem ItemsS.keep {α : Type} {R : World → (Nat → Prop) → Value → α → Prop} (K : Keeps R) {w w' : World} {S : Nat → Prop} {vs : List Value} {r : List α} (h : ItemsS R w S vs r) (hs : SameS w w' S) : ItemsS R w' S vs r :=
  ⟨h.1, fun k u x hu hx => K.keep (h.2 k u x hu hx) hs⟩
theorem ItemsS.weak {α : Type} {R : World → (Nat → Prop) → Value → α → Prop} (K : Keeps R) {w : World} {S S' : Nat → Prop} {vs : List Value} {r : List α} (h : ItemsS R w S vs r) (hw : ∀ b, b < w.heap.size → S b → S' b) : ItemsS R w S' vs r :=
  ⟨h.1, fun k u x hu hx => K.weak (h.2 k u x hu hx) hw⟩
def OutS {α : Type} (R : World → (Nat → Prop) → Value → α → Prop) (w : World) (S : Nat → Prop) (v : Value) (r : List α) : Prop :=
  ∃ vs : List Value, RdS w S v r.length vs ∧ ItemsS R w S vs r
theorem OutS.keep {α : Type} {R : World → (Nat → Prop) → Value → α → Prop} (K : Keeps R) {w w' : World} {S : Nat → Prop} {v : Value} {r : List α} (h : OutS R w S v r) (hs : SameS w w' S) : OutS R w' S v r := by
  obtain ⟨vs, h1, h2⟩ := h; exact ⟨vs, h1.keep hs, h2.keep K hs⟩
theorem OutS.below {α : Type} {R : World → (Nat → Prop) → Value → α → Prop} (K : Keeps R) {w w' : World} {S : Nat → Prop} {v : Value} {r : List α} (h : OutS R w S v r) (hb : Below w.heap.size w w') : OutS R w' S v r := h.keep K (SameS.below hb S)
theorem OutS.all {α : Type} {R : World → (Nat → Prop) → Value → α → Prop} (K : Keeps R) {w : World} {S : Nat → Prop} {v : Value} {r : List α} (h : OutS R w S v r) : OutS R w AllB v r := by
  obtain ⟨vs, h1, h2⟩ := h; exact ⟨vs, h1.all, h2.weak K fun _ _ _ => trivial⟩
theorem OutS.form {α : Type} {R : World → (Nat → Prop) → Value → α → Prop} {w : World} {S : Nat → Prop} {v : Value} {r : List α} (h : OutS R w S v r) : ∃ A cap, v = .slice A r.length cap ∧ r.length ≤ cap ∧ cap ≤ maxLen := by
  obtain ⟨vs, h1, _⟩ := h; exact h1.form
/-- The k-th of a row of rows: its cell, and what it reads as. -/
theorem OutS.get {α : Type} [Inhabited α] {R : World → (Nat → Prop) → Value → α → Prop} {w : World} {S : Nat → Prop} {A : Option Addr} {n cap : Nat} {r : List α} (h : OutS R w S (.slice A n cap) r) (k : Nat) (hk : k < r.length) :
    ∃ ad u, A = some ad ∧ w.cell? (ad.add k) = some u ∧ R w S u (r.getD k default) := by
  obtain ⟨vs, ⟨A', cap', e, h1, h2, h3, h4⟩, hi⟩ := h
  cases e
  obtain ⟨ad, rfl, _, _, hc⟩ := h4 (by omega)
  have hkv : k < vs.length := by rw [hi.1]; exact hk
  exact ⟨ad, vs[k], rfl, hc k _ (List.getElem?_eq_getElem hkv), hi.2 k _ _ (List.getElem?_eq_getElem hkv) (by simp [hk])⟩
theorem add_add (ad : Addr) (k j : Nat) : (ad.add k).add j = ad.add (k + j) := by
  unfold Addr.add
  by_cases h1 : k = 0 <;> by_cases h2 : j = 0 <;> simp_all [Nat.add_assoc]
theorem cell_two {w : World} {g : Nat} {T : TypeId} {x y : Value} (h : w.heap[g]? = some (.cells #[x, y] T (0, 0))) : w.cell? ⟨g, 0, none⟩ = some x ∧ w.cell? ⟨g, 1, none⟩ = some y ∧ w.frozen? ⟨g, 0, none⟩ = false ∧ w.frozen? ⟨g, 1, none⟩ = false :=
  ⟨by rw [cell_of_row _ _ _ _ _ _ h]; rfl, by rw [cell_of_row _ _ _ _ _ _ h]; rfl, frozen_of_row _ _ _ _ _ h, frozen_of_row _ _ _ _ _ h⟩
theorem row_at (w0 w : World) (o : Obj) (hb : Below w0.heap.size w0 w) : ∃ w1, w1 = w.alloc o ∧ w1.heap[w.heap.size]? = some o ∧ Below w.heap.size w w1 ∧ w1.heap.size = w.heap.size + 1 ∧ Below w0.heap.size w0 w1 :=
  ⟨_, rfl, heap_alloc_new w o, (Below.refl _ _).alloc (Nat.le_refl _) o, by simp, hb.alloc hb.size o⟩
theorem cell_lit {w : World} {g k : Nat} {v : Value} (h : w.cell? ((⟨g, 0, none⟩ : Addr).add k) = some v) : w.cell? ⟨g, k, none⟩ = some v := by
  have e : (⟨g, 0, none⟩ : Addr).add k = ⟨g, k, none⟩ := by unfold Addr.add; by_cases h0 : k = 0 <;> simp [h0]
  rwa [e] at h
end Go.Proofs.YtbniilajffjfcaaGreatDoor
