/- Windows of letters in a row of bytes, place by place and by a running count; what is met the first time. -/
import Derived.Lib.SmallJoins
set_option linter.unusedVariables false
set_option linter.unusedSimpArgs false
namespace Go.Proofs.Ytadlimfpcfdgcaa.Scn

/-- A running count of bytes that are letters, one behind the other, at a row's end. -/
def runOf (p : UInt8 → Bool) (l : List UInt8) : Nat := (l.reverse.takeWhile p).length
theorem runOf_nil (p : UInt8 → Bool) : runOf p [] = 0 := rfl
theorem runOf_yes (p : UInt8 → Bool) (l : List UInt8) (c : UInt8) (h : p c = true) : runOf p (l ++ [c]) = runOf p l + 1 := by
  unfold runOf
  rw [List.reverse_append, List.reverse_cons, List.reverse_nil, List.nil_append, List.singleton_append, List.takeWhile_cons, if_pos h, List.length_cons]
theorem runOf_no (p : UInt8 → Bool) (l : List UInt8) (c : UInt8) (h : p c = false) : runOf p (l ++ [c]) = 0 := by
  unfold runOf
  rw [List.reverse_append, List.reverse_cons, List.reverse_nil, List.nil_append, List.singleton_append, List.takeWhile_cons, if_neg (by simp [h])]
  rfl
theorem runOf_le (p : UInt8 → Bool) (l : List UInt8) : runOf p l ≤ l.length := by
  unfold runOf
  have := (List.takeWhile_sublist (l := l.reverse) p).length_le
  rwa [List.length_reverse] at this
theorem takeWhile_all (p : UInt8 → Bool) : ∀ (k : Nat) (l : List UInt8), k ≤ (l.takeWhile p).length ↔ (k ≤ l.length ∧ (l.take k).all p = true)
  | 0, l => by simp
  | k + 1, [] => by simp
  | k + 1, c :: l => by
    by_cases h : p c = true
    · rw [List.takeWhile_cons, if_pos h, List.length_cons, List.length_cons, List.take_succ_cons, List.all_cons, h, Bool.true_and]
      rw [Nat.add_le_add_iff_right, Nat.add_le_add_iff_right]
      exact takeWhile_all p k l
    · rw [List.takeWhile_cons, if_neg h, List.take_succ_cons, List.all_cons]
      simp [h]
theorem runOf_window (p : UInt8 → Bool) (k : Nat) (l : List UInt8) : k ≤ runOf p l ↔ (k ≤ l.length ∧ (l.drop (l.length - k)).all p = true) := by
  unfold runOf
  rw [takeWhile_all, List.length_reverse, List.take_reverse, List.all_reverse]

/-- The windows of k bytes that are letters, place by place. -/
def wins (p : UInt8 → Bool) (k : Nat) (l : List UInt8) : List (List UInt8) := ((List.range (l.length + 1 - k)).map (fun i => (l.drop i).take k)).filter (fun w => w.all p)
theorem wins_short (p : UInt8 → Bool) (k : Nat) (l : List UInt8) (h : l.length < k) : wins p k l = [] := by
  unfold wins
  rw [show l.length + 1 - k = 0 by omega]; rfl
theorem wins_snoc (p : UInt8 → Bool) (k : Nat) (hk : 1 ≤ k) (l : List UInt8) (c : UInt8) :
    wins p k (l ++ [c]) = wins p k l ++ (if k ≤ runOf p (l ++ [c]) then [(l ++ [c]).drop ((l ++ [c]).length - k)] else []) := by
  by_cases hl : l.length + 1 < k
  · rw [wins_short _ _ _ (by simp; omega), wins_short _ _ _ (by omega), if_neg (fun h => by have := runOf_le p (l ++ [c]); simp at this; omega)]
    rfl
  · unfold wins
    rw [List.length_append, List.length_singleton, show l.length + 1 + 1 - k = (l.length + 1 - k) + 1 by omega, List.range_succ, List.map_append, List.filter_append]
    have e1 : (List.range (l.length + 1 - k)).map (fun i => ((l ++ [c]).drop i).take k) = (List.range (l.length + 1 - k)).map (fun i => (l.drop i).take k) := by
      refine List.map_congr_left fun i hi => ?_
      have hi' := List.mem_range.1 hi
      rw [List.drop_append_of_le_length (by omega), List.take_append_of_le_length (by rw [List.length_drop]; omega)]
    rw [e1]
    congr 1
    have e2 : ((l ++ [c]).drop (l.length + 1 - k)).take k = (l ++ [c]).drop (l.length + 1 - k) := List.take_of_length_le (by rw [List.length_drop, List.length_append, List.length_singleton]; omega)
    rw [List.map_cons, List.map_nil, e2, List.filter_cons, List.filter_nil]
    have hw := runOf_window p k (l ++ [c])
    rw [List.length_append, List.length_singleton] at hw
    by_cases ha : ((l ++ [c]).drop (l.length + 1 - k)).all p = true
    · rw [if_pos ha, if_pos (hw.2 ⟨by omega, ha⟩)]
    · rw [if_neg ha, if_neg (fun h => ha (hw.1 h).2)]
theorem wins_len (p : UInt8 → Bool) (k : Nat) (l : List UInt8) : ∀ w ∈ wins p k l, w.length = k ∧ w.all p = true := by
  intro w hw
  obtain ⟨h1, h2⟩ := List.mem_filter.1 hw
  obtain ⟨i, hi, rfl⟩ := List.mem_map.1 h1
  have := List.mem_range.1 hi
  exact ⟨by rw [List.length_take, List.length_drop]; omega, h2⟩

theorem mem_wins (p : UInt8 → Bool) (k : Nat) (l w : List UInt8) : w ∈ wins p k l ↔ (w.length = k ∧ w.all p = true ∧ ∃ u v, l = u ++ w ++ v) := by
  constructor
  · intro hw
    obtain ⟨h1, h2⟩ := wins_len p k l w hw
    obtain ⟨h3, _⟩ := List.mem_filter.1 hw
    obtain ⟨i, hi, rfl⟩ := List.mem_map.1 h3
    exact ⟨h1, h2, l.take i, (l.drop i).drop k, by rw [List.append_assoc, List.take_append_drop, List.take_append_drop]⟩
  · rintro ⟨h1, h2, u, v, rfl⟩
    refine List.mem_filter.2 ⟨List.mem_map.2 ⟨u.length, List.mem_range.2 (by simp; omega), ?_⟩, h2⟩
    rw [List.append_assoc, List.drop_left, ← h1, List.take_left]
theorem wins_left (p : UInt8 → Bool) (k : Nat) (a b w : List UInt8) (h : w ∈ wins p k a) : w ∈ wins p k (a ++ b) := by
  obtain ⟨h1, h2, u, v, rfl⟩ := (mem_wins p k a w).1 h
  exact (mem_wins p k _ w).2 ⟨h1, h2, u, v ++ b, by simp⟩
theorem wins_right (p : UInt8 → Bool) (k : Nat) (a b w : List UInt8) (h : w ∈ wins p k b) : w ∈ wins p k (a ++ b) := by
  obtain ⟨h1, h2, u, v, rfl⟩ := (mem_wins p k b w).1 h
  exact (mem_wins p k _ w).2 ⟨h1, h2, a ++ u, v, by simp⟩
/-- A window of two rows lies in the first, in the second, or in what lies within k - 1 bytes of the seam. -/
theorem wins_seam (p : UInt8 → Bool) (k : Nat) (hk : 1 ≤ k) (a b w : List UInt8) (h : w ∈ wins p k (a ++ b)) :
    w ∈ wins p k a ∨ w ∈ wins p k b ∨ w ∈ wins p k (a.drop (a.length - (k - 1)) ++ b.take (k - 1)) := by
  obtain ⟨h1, h2, u, v, e⟩ := (mem_wins p k _ w).1 h
  have e1 : w = ((a ++ b).drop u.length).take k := by rw [e, List.append_assoc, List.drop_left, ← h1, List.take_left]
  have hlen : u.length + k ≤ a.length + b.length := by
    have := congrArg List.length e
    simp only [List.length_append] at this
    omega
  by_cases ha : u.length + k ≤ a.length
  · refine .inl ((mem_wins p k a w).2 ⟨h1, h2, a.take u.length, (a.drop u.length).drop k, ?_⟩)
    rw [e1, List.drop_append_of_le_length (by omega), List.take_append_of_le_length (by rw [List.length_drop]; omega), List.append_assoc, List.take_append_drop, List.take_append_drop]
  · by_cases hb : a.length ≤ u.length
    · refine .inr (.inl ((mem_wins p k b w).2 ⟨h1, h2, b.take (u.length - a.length), (b.drop (u.length - a.length)).drop k, ?_⟩))
      rw [e1, List.drop_append, List.drop_of_length_le hb, List.nil_append, List.append_assoc, List.take_append_drop, List.take_append_drop]
    · refine .inr (.inr ?_)
      have e2 : w = a.drop u.length ++ b.take (u.length + k - a.length) := by
        rw [e1, List.drop_append_of_le_length (by omega), List.take_append, List.take_of_length_le (by rw [List.length_drop]; omega), List.length_drop]
        congr 2; omega
      refine (mem_wins p k _ w).2 ⟨h1, h2, (a.drop (a.length - (k - 1))).take (u.length - (a.length - (k - 1))), (b.take (k - 1)).drop (u.length + k - a.length), ?_⟩
      have e3 : a.drop u.length = (a.drop (a.length - (k - 1))).drop (u.length - (a.length - (k - 1))) := by
        rw [List.drop_drop]; congr 1; omega
      have e4 : b.take (u.length + k - a.length) = (b.take (k - 1)).take (u.length + k - a.length) := by
        rw [List.take_take, Nat.min_eq_left (by omega)]
      rw [e2, e3, e4, List.append_assoc, List.append_assoc, List.take_append_drop, ← List.append_assoc, List.take_append_drop]

/-- What is met the first time, in order. -/
def firsts {α : Type} [DecidableEq α] (l : List α) : List α := l.foldl (fun acc x => if x ∈ acc then acc else acc ++ [x]) []
theorem firsts_snoc {α : Type} [DecidableEq α] (l : List α) (x : α) : firsts (l ++ [x]) = if x ∈ firsts l then firsts l else firsts l ++ [x] := by
  unfold firsts; rw [List.foldl_append]; rfl
theorem mem_firsts {α : Type} [DecidableEq α] (l : List α) (x : α) : x ∈ firsts l ↔ x ∈ l := by
  suffices h : ∀ (m acc : List α), x ∈ m.foldl (fun acc x => if x ∈ acc then acc else acc ++ [x]) acc ↔ x ∈ acc ∨ x ∈ m by unfold firsts; simpa using h l []
  intro m
  induction m with
  | nil => intro acc; simp
  | cons y m ih =>
    intro acc
    rw [List.foldl_cons, ih]
    by_cases hy : y ∈ acc
    · rw [if_pos hy]
      constructor
      · rintro (h | h)
        · exact .inl h
        · exact .inr (List.mem_cons_of_mem _ h)
      · rintro (h | h)
        · exact .inl h
        · rcases List.mem_cons.1 h with rfl | h
          · exact .inl hy
          · exact .inr h
    · rw [if_neg hy, List.mem_append, List.mem_singleton, List.mem_cons, or_assoc]
/-- The windows that begin ahead of place i. -/
def winsTo (p : UInt8 → Bool) (k : Nat) (l : List UInt8) (i : Nat) : List (List UInt8) := ((List.range i).map (fun i => (l.drop i).take k)).filter (fun w => w.all p)
theorem winsTo_all (p : UInt8 → Bool) (k : Nat) (l : List UInt8) (i : Nat) (h : i = l.length + 1 - k) : winsTo p k l i = wins p k l := by subst h; rfl
theorem winsTo_yes (p : UInt8 → Bool) (k : Nat) (l : List UInt8) (i : Nat) (h : ((l.drop i).take k).all p = true) : winsTo p k l (i + 1) = winsTo p k l i ++ [(l.drop i).take k] := by
  unfold winsTo
  rw [List.range_succ, List.map_append, List.filter_append, List.map_cons, List.map_nil, List.filter_cons, if_pos h, List.filter_nil]
theorem winsTo_no (p : UInt8 → Bool) (k : Nat) (l : List UInt8) (i : Nat) (h : ((l.drop i).take k).all p = false) : winsTo p k l (i + 1) = winsTo p k l i := by
  unfold winsTo
  rw [List.range_succ, List.map_append, List.filter_append, List.map_cons, List.map_nil, List.filter_cons, if_neg (by simp [h]), List.filter_nil, List.append_nil]
end Go.Proofs.Ytadlimfpcfdgcaa.Scn
