/- Windows of letters in a row of bytes, place by place and by a running count; what is met the first time. -/
import Derived.Lib.SmallJoins
import Derived.Test.YtadlimfpcfdgcaaProg
import Derived.LoopTactic
import Derived.WalkKit
import Derived.WalkSpells
import Derived.WalkLawsBesides
import Derived.Lib.Hide
import Derived.IntWalk
import Derived.Test.YtadlimfpcfdgcaaKmA
import Derived.RangeFuncNested
import Derived.RangeFuncBound
import Derived.RangeFuncCalls
import Derived.RangeFuncLeaves
import Derived.Shelf.Abstract
import Derived.Shelf.RegionOpen
import Derived.OwnWalkIn
import Derived.TacticsInMore
import Derived.LoopNIn
import Derived.LoopIn
import Derived.RangeFuncBox
import Derived.RangeFuncWrites
import Derived.Maps.Own
import Derived.Maps.OwnIn
import Derived.Maps.OwnOps
import Derived.Maps.OwnSet
import Derived.Maps.Views
import Derived.Maps.AppendAt
set_option linter.unusedVariables false
set_option linter.unusedSimpArgs false
namespace Go.Proofs.Ytadlimfpcfdgcaa.Scn

/-- A running count of bytes that are letters, one behind the other, at a row's end. -/
def runOf (p : UInt8 → Bool) (l : List UInt8) : Nat := (l.reverse.takeWhile p).length
theorem runOf_nil (p : UInt8 → Bool) : runOf p [] = 0 := rfl
theorem runOf_yes (p : UInt8 → Bool) (l : List UInt8) (c : UInt8) (h : p c = true) : runOf p (l ++ [c]) = runOf p l + 1 := by
  unfold runOf
  rw [List.reverse_append, List.reverse_cons, List.reverse_nil, List.nil_append, List.singleton_append, List.takeWhile_cons, if_pos h, List.length_cons]
theorem runOf_no (p : UInt8 → Bool) (l : List UInt8) (c : UInt8) (h : p c = false) : runOf p (l ++ [c]) = 0 := by
  unfold runOf
  rw [List.reverse_append, List.reverse_cons, List.reverse_nil, List.nil_append, List.singleton_append, List.takeWhile_cons, if_neg (by simp [h])]
  rfl
theorem runOf_le (p : UInt8 → Bool) (l : List UInt8) : runOf p l ≤ l.length := by
  unfold runOf
  have := (List.takeWhile_sublist (l := l.reverse) p).length_le
  rwa [List.length_reverse] at this
theorem takeWhile_all (p : UInt8 → Bool) : ∀ (k : Nat) (l : List UInt8), k ≤ (l.takeWhile p).length ↔ (k ≤ l.length ∧ (l.take k).all p = true)
  | 0, l => by simp
  | k + 1, [] => by simp
  | k + 1, c :: l => by
    by_cases h : p c = true
    · rw [List.takeWhile_cons, if_pos h, List.length_cons, List.length_cons, List.take_succ_cons, List.all_cons, h, Bool.true_and]
      rw [Nat.add_le_add_iff_right, Nat.add_le_add_iff_right]
      exact takeWhile_all p k l
    · rw [List.takeWhile_cons, if_neg h, List.take_succ_cons, List.all_cons]
      simp [h]
theorem runOf_window (p : UInt8 → Bool) (k : Nat) (l : List UInt8) : k ≤ runOf p l ↔ (k ≤ l.length ∧ (l.drop (l.length - k)).all p = true) := by
  unfold runOf
  rw [takeWhile_all, List.length_reverse, List.take_reverse, List.all_reverse]

/-- The windows of k bytes that are letters, place by place. -/
def wins (p : UInt8 → Bool) (k : Nat) (l : List UInt8) : List (List UInt8) := ((List.range (l.length + 1 - k)).map (fun i => (l.drop i).take k)).filter (fun w => w.all p)
theorem wins_short (p : UInt8 → Bool) (k : Nat) (l : List UInt8) (h : l.length < k) : wins p k l = [] := by
  unfold wins
  rw [show l.length + 1 - k = 0 by omega]; rfl
theorem wins_snoc (p : UInt8 → Bool) (k : Nat) (hk : 1 ≤ k) (l : List UInt8) (c : UInt8) :
    wins p k (l ++ [c]) = wins p k l ++ (if k ≤ runOf p (l ++ [c]) then [(l ++ [c]).drop ((l ++ [c]).length - k)] else []) := by
  by_cases hl : l.length + 1 < k
  · rw [wins_short _ _ _ (by simp; omega), wins_short _ _ _ (by omega), if_neg (fun h => by have := runOf_le p (l ++ [c]); simp at this; omega)]
    rfl
  · unfold wins
    rw [List.length_append, List.length_singleton, show l.length + 1 + 1 - k = (l.length + 1 - k) + 1 by omega, List.range_succ, List.map_append, List.filter_append]
    have e1 : (List.range (l.length + 1 - k)).map (fun i => ((l ++ [c]).drop i).take k) = (List.range (l.length + 1 - k)).map (fun i => (l.drop i).take k) := by
      refine List.map_congr_left fun i hi => ?_
      have hi' := List.mem_range.1 hi
      rw [List.drop_append_of_le_length (by omega), List.take_append_of_le_length (by rw [List.length_drop]; omega)]
    rw [e1]
    congr 1
    have e2 : ((l ++ [c]).drop (l.length + 1 - k)).take k = (l ++ [c]).drop (l.length + 1 - k) := List.take_of_length_le (by rw [List.length_drop, List.length_append, List.length_singleton]; omega)
    rw [List.map_cons, List.map_nil, e2, List.filter_cons, List.filter_nil]
    have hw := runOf_window p k (l ++ [c])
    rw [List.length_append, List.length_singleton] at hw
    by_cases ha : ((l ++ [c]).drop (l.length + 1 - k)).all p = true
    · rw [if_pos ha, if_pos (hw.2 ⟨by omega, ha⟩)]
    · rw [if_neg ha, if_neg (fun h => ha (hw.1 h).2)]
theorem wins_len (p : UInt8 → Bool) (k : Nat) (l : List UInt8) : ∀ w ∈ wins p k l, w.length = k ∧ w.all p = true := by
  intro w hw
  obtain ⟨h1, h2⟩ := List.mem_filter.1 hw
  obtain ⟨i, hi, rfl⟩ := List.mem_map.1 h1
  have := List.mem_range.1 hi
  exact ⟨by rw [List.length_take, List.length_drop]; omega, h2⟩

theorem mem_wins (p : UInt8 → Bool) (k : Nat) (l w : List UInt8) : w ∈ wins p k l ↔ (w.length = k ∧ w.all p = true ∧ ∃ u v, l = u ++ w ++ v) := by
  constructor
  · intro hw
    obtain ⟨h1, h2⟩ := wins_len p k l w hw
    obtain ⟨h3, _⟩ := List.mem_filter.1 hw
    obtain ⟨i, hi, rfl⟩ := List.mem_map.1 h3
    exact ⟨h1, h2, l.take i, (l.drop i).drop k, by rw [List.append_assoc, List.take_append_drop, List.take_append_drop]⟩
  · rintro ⟨h1, h2, u, v, rfl⟩
    refine List.mem_filter.2 ⟨List.mem_map.2 ⟨u.length, List.mem_range.2 (by simp; omega), ?_⟩, h2⟩
    rw [List.append_assoc, List.drop_left, ← h1, List.take_left]
theorem wins_left (p : UInt8 → Bool) (k : Nat) (a b w : List UInt8) (h : w ∈ wins p k a) : w ∈ wins p k (a ++ b) := by
  obtain ⟨h1, h2, u, v, rfl⟩ := (mem_wins p k a w).1 h
  exact (mem_wins p k _ w).2 ⟨h1, h2, u, v ++ b, by simp⟩
theorem wins_right (p : UInt8 → Bool) (k : Nat) (a b w : List UInt8) (h : w ∈ wins p k b) : w ∈ wins p k (a ++ b) := by
  obtain ⟨h1, h2, u, v, rfl⟩ := (mem_wins p k b w).1 h
  exact (mem_wins p k _ w).2 ⟨h1, h2, a ++ u, v, by simp⟩
/-- A window of two rows lies in the first, in the second, or in what lies within k - 1 bytes of the seam. -/
theorem wins_seam (p : UInt8 → Bool) (k : Nat) (hk : 1 ≤ k) (a b w : List UInt8) (h : w ∈ wins p k (a ++ b)) :
    w ∈ wins p k a ∨ w ∈ wins p k b ∨ w ∈ wins p k (a.drop (a.length - (k - 1)) ++ b.take (k - 1)) := by
  obtain ⟨h1, h2, u, v, e⟩ := (mem_wins p k _ w).1 h
  have e1 : w = ((a ++ b).drop u.length).take k := by rw [e, List.append_assoc, List.drop_left, ← h1, List.take_left]
  have hlen : u.length + k ≤ a.length + b.length := by
    have := congrArg List.length e
    simp only [List.length_append] at this
    omega
  by_cases ha : u.length + k ≤ a.length
  · refine .inl ((mem_wins p k a w).2 ⟨h1, h2, a.take u.length, (a.drop u.length).drop k, ?_⟩)
    rw [e1, List.drop_append_of_le_length (by omega), List.take_append_of_le_length (by rw [List.length_drop]; omega), List.append_assoc, List.take_append_drop, List.take_append_drop]
  · by_cases hb : a.length ≤ u.length
    · refine .inr (.inl ((mem_wins p k b w).2 ⟨h1, h2, b.take (u.length - a.length), (b.drop (u.length - a.length)).drop k, ?_⟩))
      rw [e1, List.drop_append, List.drop_of_length_le hb, List.nil_append, List.append_assoc, List.take_append_drop, List.take_append_drop]
    · refine .inr (.inr ?_)
      have e2 : w = a.drop u.length ++ b.take (u.length + k - a.length) := by
        rw [e1, List.drop_append_of_le_length (by omega), List.take_append, List.take_of_length_le (by rw [List.length_drop]; omega), List.length_drop]
        congr 2; omega
      refine (mem_wins p k _ w).2 ⟨h1, h2, (a.drop (a.length - (k - 1))).take (u.length - (a.length - (k - 1))), (b.take (k - 1)).drop (u.length + k - a.length), ?_⟩
      have e3 : a.drop u.length = (a.drop (a.length - (k - 1))).drop (u.length - (a.length - (k - 1))) := by
        rw [List.drop_drop]; congr 1; omega
      have e4 : b.take (u.length + k - a.length) = (b.take (k - 1)).take (u.length + k - a.length) := by
        rw [List.take_take, Nat.min_eq_left (by omega)]
      rw [e2, e3, e4, List.append_assoc, List.append_assoc, List.take_append_drop, ← List.append_assoc, List.take_append_drop]

/-- What is met the first time, in order. -/
def firsts {α : Type} [DecidableEq α] (l : List α) : List α := l.foldl (fun acc x => if x ∈ acc then acc else acc ++ [x]) []
theorem firsts_snoc {α : Type} [DecidableEq α] (l : List α) (x : α) : firsts (l ++ [x]) = if x ∈ firsts l then firsts l else firsts l ++ [x] := by
  unfold firsts; rw [List.foldl_append]; rfl
theorem mem_firsts {α : Type} [DecidableEq α] (l : List α) (x : α) : x ∈ firsts l ↔ x ∈ l := by
  suffices h : ∀ (m acc : List α), x ∈ m.foldl (fun acc x => if x ∈ acc then acc else acc ++ [x]) acc ↔ x ∈ acc ∨ x ∈ m by unfold firsts; simpa using h l []
  intro m
  induction m with
  | nil => intro acc; simp
  | cons y m ih =>
    intro acc
    rw [List.foldl_cons, ih]
    by_cases hy : y ∈ acc
    · rw [if_pos hy]
      constructor
      · rintro (h | h)
        · exact .inl h
        · exact .inr (List.mem_cons_of_mem _ h)
      · rintro (h | h)
        · exact .inl h
        · rcases List.mem_cons.1 h with rfl | h
          · exact .inl hy
          · exact .inr h
    · rw [if_neg hy, List.mem_append, List.mem_singleton, List.mem_cons, or_assoc]
/-- The windows that begin ahead of place i. -/
def winsTo (p : UInt8 → Bool) (k : Nat) (l : List UInt8) (i : Nat) : List (List UInt8) := ((List.range i).map (fun i => (l.drop i).take k)).filter (fun w => w.all p)
theorem winsTo_all (p : UInt8 → Bool) (k : Nat) (l : List UInt8) (i : Nat) (h : i = l.length + 1 - k) : winsTo p k l i = wins p k l := by subst h; rfl
theorem winsTo_yes (p : UInt8 → Bool) (k : Nat) (l : List UInt8) (i : Nat) (h : ((l.drop i).take k).all p = true) : winsTo p k l (i + 1) = winsTo p k l i ++ [(l.drop i).take k] := by
  unfold winsTo
  rw [List.range_succ, List.map_append, List.filter_append, List.map_cons, List.map_nil, List.filter_cons, if_pos h, List.filter_nil]
theorem winsTo_no (p : UInt8 → Bool) (k : Nat) (l : List UInt8) (i : Nat) (h : ((l.drop i).take k).all p = false) : winsTo p k l (i + 1) = winsTo p k l i := by
  unfold winsTo
  rw [List.range_succ, List.map_append, List.filter_append, List.map_cons, List.map_nil, List.filter_cons, if_neg (by simp [h]), List.filter_nil, List.append_nil]
end Go.Proofs.Ytadlimfpcfdgcaa.Scn

/- scan: is a byte one of the letters? -/
namespace Go.Proofs.Ytadlimfpcfdgcaa
open Go.RowKit Go.BigFrame

def letB (c : UInt8) : Bool := decide ((48 ≤ c.toNat ∧ c.toNat ≤ 57) ∨ (97 ≤ c.toNat ∧ c.toNat ≤ 122 ∧ c.toNat ≠ 101 ∧ c.toNat ≠ 111 ∧ c.toNat ≠ 116 ∧ c.toNat ≠ 117))
theorem letter_any (c : UInt8) (w : World) : Calls Try.prog 32 #[.int .u8 (c.toNat : Int)] w fun e w' => e = .returned (.bool (letB c)) ∧ w = w' := by
  obtain ⟨n, hn, h256⟩ : ∃ n : Nat, n = c.toNat ∧ n < 256 := ⟨_, rfl, c.toNat_lt⟩
  obtain ⟨b, hb⟩ : ∃ b, b = letB c := ⟨_, rfl⟩
  have HB : Hid (b = true ↔ ((48 ≤ n ∧ n ≤ 57) ∨ (97 ≤ n ∧ n ≤ 122 ∧ n ≠ 101 ∧ n ≠ 111 ∧ n ≠ 116 ∧ n ≠ 117))) := Lib.hid (by rw [hb, hn]; unfold letB; exact decide_eq_true_iff)
  rw [← hn, ← hb]
  clear hn hb
  go_enter Try.func32, Try.ntmps32
  go_wp2
  all_goals
    go_ret
    refine ⟨?_, rfl⟩
    have hbb := HB.out
    cases b <;> simp at hbb ⊢ <;> omega
end Go.Proofs.Ytadlimfpcfdgcaa

/- scan's laws and reference: is a text in a row? -/
namespace Go.Proofs.Ytadlimfpcfdgcaa
open Go.RowKit Go.BigFrame

def isIn (s : ByteArray) (xs : List ByteArray) : Bool := xs.any fun x => decide (x = s)
theorem isIn_iff (s : ByteArray) (xs : List ByteArray) : isIn s xs = true ↔ s ∈ xs := by
  unfold isIn
  rw [List.any_eq_true]
  constructor
  · rintro ⟨x, hx, h⟩; rw [decide_eq_true_eq] at h; exact h ▸ hx
  · intro h; exact ⟨s, h, decide_eq_true rfl⟩
set_option maxRecDepth 100000 in
set_option maxHeartbeats 800000 in
theorem has_any (a : Value) (xs : List ByteArray) (s : ByteArray) (B : Nat) (w : World) (ha : Reads w B a (strs xs)) :
    Calls Try.prog 13 #[a, .string s] w fun e w' => e = .returned (.bool (isIn s xs)) ∧ ∃ nq, w' = w.drewN nq := by
  obtain ⟨A, ca, rfl, hla, hma, hza, hra⟩ := ha
  simp only [strs_len] at *
  have HRA := Lib.hid hra
  unfold maxLen at *
  clear hra hza
  go_enter Try.func13, Try.ntmps13
  go_wp2
  go_loopw [5] (fun i wr => ∃ (k nq : Nat), k ≤ xs.length ∧ i = .int .i64 k ∧ Hid (wr = w.drewN nq) ∧ Hid (s ∉ xs.take k)) (fun i _ => xs.length - (intOf i).toNat)
  case atStart => exact ⟨0, 0, by omega, rfl, Lib.hid rfl, Lib.hid (by simp)⟩
  case round =>
    obtain ⟨k, nq, hk, rfl, HW, HS⟩ := hrel
    by_cases hlt : k < xs.length
    · obtain ⟨ad, rfl, hbl, hc⟩ := HRA.out (by omega)
      have hcx := (cell_drew HW.out _).trans (hc k _ (strs_get xs k (by omega)))
      clear hc hbl
      have hi1 : (k : Int) < (xs.length : Int) := by omega
      have hi0 : (0 : Int) ≤ (k : Int) := by omega
      have HTK := Lib.hid (show xs.take (k + 1) = xs.take k ++ [xs.getD k ⟨#[]⟩] by rw [List.take_succ_eq_append_getElem hlt]; simp [List.getD, hlt])
      have HMEM := Lib.hid (show xs.getD k ⟨#[]⟩ ∈ xs by simp [List.getD, hlt])
      obtain ⟨x, hx⟩ : ∃ x, x = xs.getD k ⟨#[]⟩ := ⟨_, rfl⟩
      rw [← hx] at hcx HTK HMEM
      clear hx
      by_cases hxy : x = s
      · have HF := Lib.hid (show isIn s xs = true by rw [isIn_iff, ← hxy]; exact HMEM.out)
        have hbe : (x.toList == s.toList) = true := by rw [str_ne_iff]; simpa using hxy
        clear hxy
        go_wp2
        go_ret
        exact ⟨ret_bool HF.out.symm, _, HW.out⟩
      · have HS' : Hid (s ∉ xs.take (k + 1)) := Lib.hid (by
          rw [HTK.out, List.mem_append, List.mem_singleton]
          rintro (h | h)
          · exact HS.out h
          · exact hxy h.symm)
        have hbe : (x.toList == s.toList) = false := by rw [str_ne_iff]; simpa using hxy
        clear hxy
        go_wp2
        go_roundw
        case rel => exact ⟨k + 1, _, by omega, by go_num, HW, HS'⟩
        case measure => simp [intOf]; omega
    · have HF := Lib.hid (show isIn s xs = false by
        have h := HS.out
        rw [show k = xs.length by omega, List.take_length, ← isIn_iff] at h
        simpa using h)
      go_wp2
      go_ret
      exact ⟨ret_bool HF.out.symm, _, HW.out⟩
set_option maxRecDepth 100000 in
set_option maxHeartbeats 800000 in
theorem refHas_any (a : Value) (xs : List ByteArray) (s : ByteArray) (B : Nat) (w : World) (ha : Reads w B a (strs xs)) :
    Calls Try.prog 20 #[a, .string s] w fun e w' => e = .returned (.bool (isIn s xs)) ∧ ∃ nq, w' = w.drewN nq := by
  obtain ⟨A, ca, rfl, hla, hma, hza, hra⟩ := ha
  simp only [strs_len] at *
  have HRA := Lib.hid hra
  unfold maxLen at *
  clear hra hza
  go_enter Try.func20, Try.ntmps20
  go_wp2
  go_loopw [5] (fun i wr => ∃ (k nq : Nat), k ≤ xs.length ∧ i = .int .i64 k ∧ Hid (wr = w.drewN nq) ∧ Hid (s ∉ xs.take k)) (fun i _ => xs.length - (intOf i).toNat)
  case atStart => exact ⟨0, 0, by omega, rfl, Lib.hid rfl, Lib.hid (by simp)⟩
  case round =>
    obtain ⟨k, nq, hk, rfl, HW, HS⟩ := hrel
    by_cases hlt : k < xs.length
    · obtain ⟨ad, rfl, hbl, hc⟩ := HRA.out (by omega)
      have hcx := (cell_drew HW.out _).trans (hc k _ (strs_get xs k (by omega)))
      clear hc hbl
      have hi1 : (k : Int) < (xs.length : Int) := by omega
      have hi0 : (0 : Int) ≤ (k : Int) := by omega
      have HTK := Lib.hid (show xs.take (k + 1) = xs.take k ++ [xs.getD k ⟨#[]⟩] by rw [List.take_succ_eq_append_getElem hlt]; simp [List.getD, hlt])
      have HMEM := Lib.hid (show xs.getD k ⟨#[]⟩ ∈ xs by simp [List.getD, hlt])
      obtain ⟨x, hx⟩ : ∃ x, x = xs.getD k ⟨#[]⟩ := ⟨_, rfl⟩
      rw [← hx] at hcx HTK HMEM
      clear hx
      by_cases hxy : x = s
      · have HF := Lib.hid (show isIn s xs = true by rw [isIn_iff, ← hxy]; exact HMEM.out)
        have hbe : (x.toList == s.toList) = true := by rw [str_ne_iff]; simpa using hxy
        clear hxy
        go_wp2
        go_ret
        exact ⟨ret_bool HF.out.symm, _, HW.out⟩
      · have HS' : Hid (s ∉ xs.take (k + 1)) := Lib.hid (by
          rw [HTK.out, List.mem_append, List.mem_singleton]
          rintro (h | h)
          · exact HS.out h
          · exact hxy h.symm)
        have hbe : (x.toList == s.toList) = false := by rw [str_ne_iff]; simpa using hxy
        clear hxy
        go_wp2
        go_roundw
        case rel => exact ⟨k + 1, _, by omega, by go_num, HW, HS'⟩
        case measure => simp [intOf]; omega
    · have HF := Lib.hid (show isIn s xs = false by
        have h := HS.out
        rw [show k = xs.length by omega, List.take_length, ← isIn_iff] at h
        simpa using h)
      go_wp2
      go_ret
      exact ⟨ret_bool HF.out.symm, _, HW.out⟩
end Go.Proofs.Ytadlimfpcfdgcaa

/- scan: the iterator over the windows of a text: its contract. -/
namespace Go.Proofs.Ytadlimfpcfdgcaa
open Go Go.RowKit Go.BigFrame
open Scn (runOf wins firsts)
attribute [local go_sem] Oper.semAt_some

/-- The windows of a text. -/
def winB (s : ByteArray) : List ByteArray := (wins letB 32 s.data.toList).map strOf
/-- A text of 32 bytes. -/
abbrev T32 := { x : ByteArray // x.size = 32 }
/-- What a round keeps, for the iterator: the text's box. -/
def KpB (bn : Nat) (W W' : World) : Prop := W'.heap[bn]? = W.heap[bn]?
theorem KpB.trans {bn : Nat} {X Y Z : World} (h : KpB bn X Y) (k : KpB bn Y Z) : KpB bn X Z := Eq.trans k h
theorem strOf_list (s : ByteArray) : strOf s.data.toList = s := by
  unfold strOf; simp
theorem sub_text (s : ByteArray) (a b : Nat) (h : b ≤ s.size) (hab : a ≤ b) : s.extract a b = strOf ((s.data.toList.take b).drop a) := by
  apply str_ext
  unfold strOf
  simp [ByteArray.data_extract]
  rw [List.drop_take]
theorem wins_prefix (s : ByteArray) (k : Nat) : wins letB 32 (s.data.toList.take k) <+: wins letB 32 s.data.toList := by
  have h : ∀ (b a : List UInt8), wins letB 32 a <+: wins letB 32 (a ++ b) := by
    intro b
    induction b with
    | nil => intro a; simp
    | cons c b ih =>
      intro a
      have h1 := ih (a ++ [c])
      rw [List.append_assoc, List.singleton_append] at h1
      refine List.IsPrefix.trans ?_ h1
      rw [Scn.wins_snoc letB 32 (by omega)]
      exact List.prefix_append _ _
  have := h (s.data.toList.drop k) (s.data.toList.take k)
  rwa [List.take_append_drop] at this
theorem windows_any (s : ByteArray) (w : World) : Calls Try.prog 18 #[.string s] w fun e w' => e = .returned (.func (.func 31) #[] #[.pointer (some ⟨w.heap.size, 0, none⟩)]) ∧ w' = w.alloc (.cells #[.string s] 9) := by
  go_enter Try.func18, Try.ntmps18
  go_wp2
  go_ret
  exact ⟨rfl, rfl⟩
theorem windows_stops (n : Nat) (hn : 1 ≤ n) (w : World) (bn : Nat) (s : ByteArray) (hs : s.size ≤ maxLen) (hb : w.heap[bn]? = some (.cells #[.string s] 9 (0, 0))) :
    SeqStopsK Fence.wide n Try.prog 31 #[.pointer (some ⟨bn, 0, none⟩)] (fun x : T32 => #[.string x.1]) (KpB bn)
      (fun xs => xs.map (·.1) = winB s) (fun pre => pre.map (·.1) <+: winB s) (winB s).length w := by
  intro l J Jx W hW hJ hJx hY h0
  have hro : Fence.wide.round = none := rfl
  have hbW : W.heap[bn]? = some (.cells #[.string s] 9 (0, 0)) := (hW.block bn (block_lt hb)).trans hb
  have HB := Lib.hid hbW
  have hc0 : W.cell? ⟨bn, 0, none⟩ = some (.string s) := by rw [cell_of_row _ _ _ _ _ _ hbW]; rfl
  have HY := Lib.hid hY
  have HSL := Lib.hid (show s.data.toList.length = s.size by rw [Array.length_toList]; rfl)
  have HJ := Lib.hid hJ
  unfold maxLen at hs
  clear hY hJ hbW
  refine callsIn_of_wp Try.func31 rfl trivial ?_ hro
  simp only [Try.ntmps31, List.size_toArray, List.length_cons, List.length_nil, Nat.reduceAdd, Nat.reduceSub, Array.replicate_succ, Array.replicate_zero, List.push_toArray, List.append_toArray, List.nil_append, List.cons_append]
  gi_wp2
  clear hc0
  gi_loopw [3, 7] (fun r i wr => ∃ (k : Nat) (pre : List T32), k ≤ s.size ∧ i = .int .i64 k ∧ r = .int .i64 (runOf letB (s.data.toList.take k) : Int) ∧ Hid (pre.map (·.1) = (wins letB 32 (s.data.toList.take k)).map strOf) ∧ Hid (wr.heap[bn]? = some (.cells #[.string s] 9 (0, 0))) ∧ Hid (J pre wr)) (fun _ i _ => s.size - (intOf i).toNat)
  case atStart => exact ⟨0, [], by omega, rfl, rfl, Lib.hid rfl, HB, Lib.hid h0⟩
  case round =>
    obtain ⟨k, pre, hk, rfl, rfl, HP, HBr, HJr⟩ := hrel
    have hc : wr.cell? ⟨bn, 0, none⟩ = some (.string s) := by rw [cell_of_row _ _ _ _ _ _ HBr.out]; rfl
    obtain ⟨r, hr⟩ : ∃ r, r = runOf letB (s.data.toList.take k) := ⟨_, rfl⟩
    have hrk : r ≤ k := by rw [hr]; have := Scn.runOf_le letB (s.data.toList.take k); rw [List.length_take] at this; omega
    have HR := Lib.hid hr
    rw [← hr]
    clear hr
    by_cases hlt : k < s.size
    · have hk1 : (k : Int) < (s.size : Int) := by omega
      have hk0 : (0 : Int) ≤ (k : Int) := by omega
      have HTK := Lib.hid (show s.data.toList.take (k + 1) = s.data.toList.take k ++ [s[k]] by
        rw [List.take_succ_eq_append_getElem (by simpa using hlt)]; rfl)
      have hw1 : IntKind.i64.wrap ((k : Int) + 1) = (k : Int) + 1 := IntWalk.i64_in _ (by omega)
      have hw2 : IntKind.i64.wrap ((r : Int) + 1) = (r : Int) + 1 := IntWalk.i64_in _ (by omega)
      have hw3 : IntKind.i64.wrap ((k : Int) + 1 - 32) = (k : Int) + 1 - 32 := IntWalk.i64_in _ (by omega)
      have HLET := Lib.hid (fun (w : World) => (callsIn_wide (n := n - 1)).2 (letter_any s[k] w))
      cases hlb : letB s[k] with
      | false =>
        rw [hlb] at HLET
        have HW := Lib.hid (show wins letB 32 (s.data.toList.take (k + 1)) = wins letB 32 (s.data.toList.take k) by
          rw [HTK.out, Scn.wins_snoc letB 32 (by omega), Scn.runOf_no letB _ _ hlb, if_neg (by omega), List.append_nil])
        have HRN := Lib.hid (show runOf letB (s.data.toList.take (k + 1)) = 0 by rw [HTK.out]; exact Scn.runOf_no letB _ _ hlb)
        gi_wp2_with (refine ⟨trivial, (HLET.out _).mono ?_⟩; rintro e W2 ⟨rfl, rfl⟩)
        go_roundw
        case rel => exact ⟨k + 1, pre, by omega, by go_num, by rw [HRN.out]; rfl, Lib.hid (by rw [HW.out]; exact HP.out), HBr, HJr⟩
        case measure => simp [intOf]; omega
      | true =>
        rw [hlb] at HLET
        have HRN := Lib.hid (show runOf letB (s.data.toList.take (k + 1)) = r + 1 by rw [HTK.out, Scn.runOf_yes letB _ _ hlb, HR.out])
        have HW0 := Lib.hid (Scn.wins_snoc letB 32 (by omega) (s.data.toList.take k) s[k])
        rw [← HTK.out, HRN.out] at HW0
        have hlk : (s.data.toList.take (k + 1)).length = k + 1 := by rw [List.length_take, HSL.out]; omega
        rw [hlk] at HW0
        by_cases hrun : 32 ≤ r + 1
        · have hrI : (32 : Int) ≤ (r : Int) + 1 := by omega
          have hx32 : (s.extract (k + 1 - 32) (k + 1)).size = 32 := by simp; omega
          obtain ⟨x, hx⟩ : ∃ x : T32, x.1 = s.extract (k + 1 - 32) (k + 1) := ⟨⟨_, hx32⟩, rfl⟩
          have HXV := Lib.hid (show x.1 = strOf ((s.data.toList.take (k + 1)).drop (k + 1 - 32)) by rw [hx]; exact sub_text s _ _ (by omega) (by omega))
          have HPX := Lib.hid (show (pre ++ [x]).map (·.1) = (wins letB 32 (s.data.toList.take (k + 1))).map strOf by
            rw [HW0.out, if_pos hrun, List.map_append, List.map_append, HP.out, List.map_cons, List.map_nil, HXV.out]; rfl)
          have HPF := Lib.hid (show (pre ++ [x]).map (·.1) <+: winB s by
            rw [HPX.out]
            exact (wins_prefix s (k + 1)).map _)
          have hlen : pre.length < (winB s).length := by have := HPF.out.length_le; simp at this; omega
          obtain ⟨fn, tmps, assign, body, hy, hR⟩ := HY.out pre x wr HJr.out hlen
          rw [hx, show k + 1 - 32 = k - 31 by omega] at hy
          gi_wp2_with (refine ⟨trivial, (HLET.out _).mono ?_⟩; rintro e W2 ⟨rfl, rfl⟩)
          refine hR.mono ?_
          rintro e W3 (⟨rfl, hJ3, hk3⟩ | ⟨rfl, hJx3⟩)
          · gi_wp2
            go_roundw
            case rel => exact ⟨k + 1, pre ++ [x], by omega, by go_num, by rw [HRN.out]; go_num, HPX, Lib.hid (Eq.trans hk3 HBr.out), Lib.hid hJ3⟩
            case measure => simp [intOf]; omega
          · gi_wp2
            refine bodyPost_ret (results_none rfl _ _ _) rfl ?_
            exact ⟨⟨_, rfl⟩, .inr ⟨pre ++ [x], HPF.out, hJx3⟩⟩
        · have hrI : ¬ (32 : Int) ≤ (r : Int) + 1 := by omega
          have HW := Lib.hid (show wins letB 32 (s.data.toList.take (k + 1)) = wins letB 32 (s.data.toList.take k) by
            rw [HW0.out, if_neg hrun, List.append_nil])
          gi_wp2_with (refine ⟨trivial, (HLET.out _).mono ?_⟩; rintro e W2 ⟨rfl, rfl⟩)
          refine ⟨fun _ h => (by cases h), ?_⟩
          gi_wp2
          go_roundw
          case rel => exact ⟨k + 1, pre, by omega, by go_num, by rw [HRN.out]; go_num, Lib.hid (by rw [HW.out]; exact HP.out), HBr, HJr⟩
          case measure => simp [intOf]; omega
    · have hk1 : ¬ (k : Int) < (s.size : Int) := by omega
      have HE := Lib.hid (show s.data.toList.take k = s.data.toList from List.take_of_length_le (by rw [HSL.out]; omega))
      gi_wp2
      go_end0
      exact ⟨⟨_, rfl⟩, .inl ⟨pre, by have := HP.out; rw [HE.out] at this; exact this, HJr.out⟩⟩
end Go.Proofs.Ytadlimfpcfdgcaa

/- scan: bytes in memory; the set of what was seen. -/
namespace Go.Proofs.Ytadlimfpcfdgcaa
open Go Go.RowKit Go.BigFrame Go.Maps
open Scn (runOf wins firsts)

def dOf (l : List UInt8) (i : Nat) : Nat := (l.getD i 0).toNat
theorem dOf_lt (l : List UInt8) (i : Nat) : dOf l i < 256 := (l.getD i 0).toNat_lt
theorem txt_dOf (l : List UInt8) : txt (dOf l) l.length = l := by
  apply List.ext_getElem
  · rw [txt_len]
  · intro i h1 h2
    simp [txt, dOf, h2]
/-- A slice that holds bytes. -/
def BytAt (W : World) (B : Nat) (v : Value) (l : List UInt8) : Prop :=
  ∃ A cap, v = .slice A l.length cap ∧ l.length ≤ cap ∧ cap ≤ maxLen ∧ (A = none → cap = 0) ∧ Holds W B A l.length (dOf l)
theorem BytAt.keep {W W' : World} {B : Nat} {v : Value} {l : List UInt8} (h : BytAt W B v l) (hb : Below B W W') : BytAt W' B v l := by
  obtain ⟨A, cap, h1, h2, h3, h4, h5⟩ := h
  exact ⟨A, cap, h1, h2, h3, h4, h5.below hb⟩
theorem BytAt.more {W : World} {B B' : Nat} {v : Value} {l : List UInt8} (h : BytAt W B v l) (hb : B ≤ B') : BytAt W B' v l := by
  obtain ⟨A, cap, h1, h2, h3, h4, h5⟩ := h
  exact ⟨A, cap, h1, h2, h3, h4, h5.more hb⟩
theorem BytAt.nil (W : World) (B : Nat) : BytAt W B (.slice none 0 0) [] := ⟨none, 0, rfl, Nat.le_refl _, Nat.zero_le _, fun _ => rfl, fun h => absurd h (Nat.lt_irrefl 0)⟩
theorem BytAt.form {W : World} {B : Nat} {v : Value} {l : List UInt8} (h : BytAt W B v l) : ∃ A cap, v = .slice A l.length cap ∧ l.length ≤ cap := by
  obtain ⟨A, cap, h1, h2, _⟩ := h
  exact ⟨A, cap, h1, h2⟩
theorem BytAt.conv {W : World} {B : Nat} {v : Value} {l : List UInt8} (h : BytAt W B v l) : (convert 22 9 v).run Try.prog W = .ok (.string (strOf l)) W := by
  obtain ⟨A, cap, rfl, h2, h3, h4, h5⟩ := h
  have := convert_holds (P := Try.prog) (src := 22) (dst := 9) (dOf_lt l) h5 h4 h2 Try.underlying22 Try.underlying5 Try.underlying9
  rw [txt_dOf] at this
  exact this
theorem bytes_conv (W : World) (l : List UInt8) (hn : l.length ≤ maxLen) : ∃ A cap w2, (convert 9 22 (.string (strOf l))).run Try.prog W = .ok (.slice A l.length cap) w2 ∧ Below W.heap.size W w2 ∧ BytAt w2 w2.heap.size (.slice A l.length cap) l := by
  obtain ⟨cap, w2, h1, h2, h3, h4, h5, _⟩ := bytes_of_txt (P := Try.prog) W 5 9 22 (dOf l) l.length (dOf_lt l) hn Try.underlying9 Try.underlying22 Try.underlying5
  rw [txt_dOf] at h3
  exact ⟨_, cap, w2, h3, h4, _, cap, rfl, h1, h2, (fun e => by cases e), h5⟩

/-- A text as a map's key. -/
def kS (s : ByteArray) : Lit := .string s.data.toList
theorem kS_inj {s t : ByteArray} (h : kS s = kS t) : s = t := by
  unfold kS at h
  injection h with h
  cases s; cases t; congr 1
  exact Array.ext' h
theorem kS_key (s : ByteArray) : WideAt.IsKeyLit (kS s) := by unfold kS; exact ⟨⟩
theorem keyStr : Keyed Try.prog 9 := string_keyed Try.underlying9
theorem zeroUnit (w : World) : (zeroValue 51).run Try.prog w = .ok (.agg #[]) w := by kernel_rfl
/-- Block mb is the set of texts l. -/
def SeenAt (w : World) (mb : Nat) (l : List ByteArray) : Prop :=
  ∃ D : DataW Unit, w.ownsMap Try.prog 9 unitElem mb l.length D ∧ ∀ s : ByteArray, has D (kS s) = isIn s l
theorem SeenAt.made (w : World) : SeenAt (w.alloc (.map #[] 0)) w.heap.size [] := ⟨_, World.ownsMap_made _ _ _ _, fun s => rfl⟩
theorem SeenAt.kept {w w' : World} {mb : Nat} {l : List ByteArray} {row : Option Nat} (h : SeenAt w mb l) (hg : w.grownBy w' row) (hne : some mb ≠ row) : SeenAt w' mb l := by
  obtain ⟨D, h1, h2⟩ := h; exact ⟨D, h1.kept hg hne, h2⟩
theorem SeenAt.lt {w : World} {mb : Nat} {l : List ByteArray} (h : SeenAt w mb l) : mb < w.heap.size := by
  obtain ⟨D, h1, _⟩ := h; exact h1.lt
theorem SeenAt.block {w w' : World} {mb : Nat} {l : List ByteArray} (h : SeenAt w mb l) (hb : w'.heap[mb]? = w.heap[mb]?) : SeenAt w' mb l := by
  obtain ⟨D, ⟨es, c, h1, h3⟩, h2⟩ := h; exact ⟨D, ⟨es, c, hb.trans h1, h3⟩, h2⟩
theorem isIn_snoc (t s : ByteArray) (l : List ByteArray) : isIn t (l ++ [s]) = (isIn t l || decide (s = t)) := by simp [isIn]
theorem SeenAt.put {w w' : World} {mb : Nat} {l : List ByteArray} {s : ByteArray} {D : DataW Unit} (ho : w.ownsMap Try.prog 9 unitElem mb l.length D)
    (hD : ∀ s : ByteArray, has D (kS s) = isIn s l) (h : w'.ownsMap Try.prog 9 unitElem mb (l.length + 1) (D.put (kS s) (.agg []))) : SeenAt w' mb (l ++ [s]) := by
  refine ⟨_, by rw [List.length_append]; exact h, fun t => ?_⟩
  rw [isIn_snoc]
  by_cases e : s = t
  · subst e
    rw [has_put_same ho.isMap (kS_key s)]
    simp
  · have hne : kS t ≠ kS s := fun h => e (kS_inj h).symm
    rw [has_put_other hne, hD t]
    simp [e]
theorem infoStr : (Try.prog.info? 9).map (fun i => (i.zero, i.size, i.bytes)) = some (some (.string ⟨#[]⟩), 1, 16) := by kernel_rfl
/-- What All answers. -/
def allF (s : ByteArray) : List ByteArray := firsts (winB s)
theorem firsts_len {α : Type} [DecidableEq α] (l : List α) : (firsts l).length ≤ l.length := by
  suffices h : ∀ (m acc : List α), (m.foldl (fun acc x => if x ∈ acc then acc else acc ++ [x]) acc).length ≤ acc.length + m.length by unfold Scn.firsts; simpa using h l []
  intro m
  induction m with
  | nil => intro acc; simp
  | cons y m ih =>
    intro acc
    rw [List.foldl_cons]
    refine Nat.le_trans (ih _) ?_
    by_cases hy : y ∈ acc
    · rw [if_pos hy]; simp
    · rw [if_neg hy]; simp; omega
theorem winB_len (s : ByteArray) : (winB s).length ≤ s.size + 1 := by
  unfold winB wins
  rw [List.length_map]
  refine Nat.le_trans (List.length_filter_le _ _) ?_
  simp
  have : s.data.size = s.size := rfl
  omega
end Go.Proofs.Ytadlimfpcfdgcaa
