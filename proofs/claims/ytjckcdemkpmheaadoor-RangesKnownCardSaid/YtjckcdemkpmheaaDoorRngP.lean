/- Ranges as plain lists: signs, bounds, rows; read, printed, read again. No program here. -/
import Derived.Test.YtjckcdemkpmheaaDoorVerR
import Derived.Lib.Strings
namespace Go.Proofs.YtjckcdemkpmheaaDoor.Rng
open Go
open Ver (BL parts prs digB tagB brk)

def sgnL : Nat → BL
  | 0 => [42] | 1 => [61] | 2 => [33, 61] | 3 => [60] | 4 => [60, 61] | 5 => [62] | 6 => [62, 61] | 7 => [126] | _ => []
def okL (l : BL) : Bool := (prs l).isSome
def mayL (b : Nat × BL) : Bool := if b.1 = 0 then b.2.isEmpty else decide (b.1 ≤ 7) && okL b.2
def firstOf : List Nat → BL → Nat × BL
  | [], _ => (8, [])
  | o :: r, l => if Lib.hasPrefix l (sgnL o) = true then (o, Lib.trimPrefix l (sgnL o)) else firstOf r l
def rawL (l : BL) : Nat × BL := if l = [42] then (0, []) else firstOf [2, 4, 6, 1, 3, 5, 7] l
def refOf : List Nat → BL → Option (Nat × BL)
  | [], _ => none
  | o :: r, l => if Lib.hasPrefix l (sgnL o) = true ∧ okL (l.drop (sgnL o).length) = true then some (o, l.drop (sgnL o).length) else refOf r l
def refL (l : BL) : Option (Nat × BL) := if l = [42] then some (0, []) else refOf [1, 2, 3, 4, 5, 6, 7] l
theorem okL_nil : okL [] = false := by decide
theorem okL_form (l : BL) (h : okL l = true) : ∃ d t, l = d :: t ∧ digB d = true := by
  unfold okL at h
  obtain ⟨v, hv⟩ := Option.isSome_iff_exists.1 h
  obtain ⟨ns, t⟩ := v
  obtain ⟨hp, ho⟩ := Ver.prs_some _ _ _ hv
  simp only [Ver.okV, Bool.and_eq_true, decide_eq_true_eq] at ho
  cases ns with
  | nil => simp at ho
  | cons n ns =>
    have hd := Ver.dec_all n
    have hl := (Ver.dec_len n (by have := List.all_eq_true.1 ho.1.2 n (by simp); simpa using this)).1
    have hh : ∃ u, l = Lib.decDigits n ++ u := by
      rw [← hp]
      unfold Ver.prt
      cases ns with
      | nil => exact ⟨_, by rw [List.map_cons, List.map_nil, Ver.inter_one]⟩
      | cons m ms => exact ⟨_, by rw [List.map_cons, List.map_cons, Ver.inter_cons2, List.append_assoc]⟩
    obtain ⟨u, rfl⟩ := hh
    cases hq : Lib.decDigits n with
    | nil => rw [hq] at hl; simp at hl
    | cons d t => rw [hq] at hd; exact ⟨d, t ++ u, rfl, by simp at hd; exact hd.1⟩
theorem okL_head (c : UInt8) (t : BL) (h : digB c = false) : okL (c :: t) = false := by
  cases ho : okL (c :: t)
  · rfl
  · obtain ⟨d, u, e, hd⟩ := okL_form _ ho
    injection e with e1 e2
    subst e1; rw [h] at hd; cases hd
theorem pre_one (c d : UInt8) (t : BL) : Lib.hasPrefix (c :: t) [d] = (d == c) := by simp [Lib.hasPrefix, List.isPrefixOf]
theorem pre_two (c d e : UInt8) (t : BL) : Lib.hasPrefix (c :: t) [d, e] = (d == c && Lib.hasPrefix t [e]) := by simp [Lib.hasPrefix, List.isPrefixOf]
theorem pre_nil (d : UInt8) (l : BL) : Lib.hasPrefix [] (d :: l) = false := rfl
theorem ref_raw (l : BL) : refL l = if mayL (rawL l) = true then some (rawL l) else none := by
  unfold refL rawL
  by_cases h : l = [42]
  · rw [if_pos h, if_pos h]; rfl
  · rw [if_neg h, if_neg h]
    cases l with
    | nil => rfl
    | cons c t =>
      have d61 : digB 61 = false := by decide
      have key : ∀ o, okL (61 :: o) = false := fun o => okL_head 61 o d61
      by_cases h33 : c = 33
      · subst h33
        cases t with
        | nil => rfl
        | cons d u =>
          by_cases hd : d = 61
          · subst hd
            simp [refOf, firstOf, sgnL, pre_one, pre_two, Lib.trimPrefix, mayL]
          · simp [refOf, firstOf, sgnL, pre_one, pre_two, Lib.trimPrefix, mayL, Ne.symm hd]
      · by_cases h60 : c = 60
        · subst h60
          cases t with
          | nil => decide
          | cons d u =>
            by_cases hd : d = 61
            · subst hd
              simp [refOf, firstOf, sgnL, pre_one, pre_two, Lib.trimPrefix, mayL, key]
            · simp [refOf, firstOf, sgnL, pre_one, pre_two, Lib.trimPrefix, mayL, Ne.symm hd]
        · by_cases h62 : c = 62
          · subst h62
            cases t with
            | nil => decide
            | cons d u =>
              by_cases hd : d = 61
              · subst hd
                simp [refOf, firstOf, sgnL, pre_one, pre_two, Lib.trimPrefix, mayL, key]
              · simp [refOf, firstOf, sgnL, pre_one, pre_two, Lib.trimPrefix, mayL, Ne.symm hd]
          · by_cases h61 : c = 61
            · subst h61
              simp [refOf, firstOf, sgnL, pre_one, pre_two, Lib.trimPrefix, mayL]
            · by_cases h126 : c = 126
              · subst h126
                simp [refOf, firstOf, sgnL, pre_one, pre_two, Lib.trimPrefix, mayL]
              · simp [refOf, firstOf, sgnL, pre_one, pre_two, Lib.trimPrefix, mayL, Ne.symm h33, Ne.symm h60, Ne.symm h61, Ne.symm h62, Ne.symm h126]
def prtB (b : Nat × BL) : BL := sgnL b.1 ++ b.2
theorem first_prt (l : BL) : ∀ ops, (firstOf ops l).1 ≤ 7 → prtB (firstOf ops l) = l
  | [], h => absurd h (by simp [firstOf])
  | o :: r, h => by
    unfold firstOf at h ⊢
    by_cases hp : Lib.hasPrefix l (sgnL o) = true
    · rw [if_pos hp]
      unfold prtB Lib.trimPrefix
      rw [if_pos hp]
      obtain ⟨t, rfl⟩ := List.isPrefixOf_iff_prefix.1 hp
      simp
    · rw [if_neg hp] at h ⊢
      exact first_prt l r h
theorem raw_prt (l : BL) (h : mayL (rawL l) = true) : prtB (rawL l) = l := by
  unfold rawL at h ⊢
  by_cases he : l = [42]
  · rw [if_pos he, he]; rfl
  · rw [if_neg he] at h ⊢
    refine first_prt l _ ?_
    unfold mayL at h
    split at h
    · omega
    · simp at h; exact h.1
theorem prt_raw (b : Nat × BL) (h : mayL b = true) : rawL (prtB b) = b := by
  obtain ⟨o, v⟩ := b
  unfold mayL at h
  dsimp only at h
  by_cases h0 : o = 0
  · subst h0
    rw [if_pos rfl] at h
    obtain rfl : v = [] := by simpa using h
    rfl
  · rw [if_neg h0] at h
    simp only [Bool.and_eq_true, decide_eq_true_eq] at h
    obtain ⟨d, t, rfl, hd⟩ := okL_form v h.2
    have e : ∀ c : UInt8, digB c = false → (c == d) = false := fun c hc => by
      rw [beq_eq_false_iff_ne]; intro hh; subst hh; rw [hc] at hd; cases hd
    have e33 := e 33 (by decide)
    have e60 := e 60 (by decide)
    have e61 := e 61 (by decide)
    have e62 := e 62 (by decide)
    have e126 := e 126 (by decide)
    have ho : o = 1 ∨ o = 2 ∨ o = 3 ∨ o = 4 ∨ o = 5 ∨ o = 6 ∨ o = 7 := by omega
    unfold rawL prtB
    rcases ho with rfl | rfl | rfl | rfl | rfl | rfl | rfl <;> rw [if_neg (by simp [sgnL])] <;> simp [firstOf, sgnL, pre_one, pre_two, Lib.trimPrefix, e33, e60, e61, e62, e126]
/-- Which bytes a version has. -/
def verB (c : UInt8) : Bool := digB c || tagB c || c == 45 || c == 46
theorem okL_bytes (l : BL) (h : okL l = true) : l.all verB = true := by
  unfold okL at h
  obtain ⟨v, hv⟩ := Option.isSome_iff_exists.1 h
  obtain ⟨ns, t⟩ := v
  obtain ⟨hp, ho⟩ := Ver.prs_some _ _ _ hv
  simp only [Ver.okV, Ver.okTag, Bool.and_eq_true, decide_eq_true_eq] at ho
  rw [← hp]
  unfold Ver.prt
  rw [List.all_append, Bool.and_eq_true]
  constructor
  · have hi : ∀ ms : List Nat, (List.intercalate [46] (ms.map Lib.decDigits)).all verB = true := fun ms => by
      have hq : ∀ n, (Lib.decDigits n).all verB = true := fun n => List.all_eq_true.2 fun c hc => by
        have := List.all_eq_true.1 (Ver.dec_all n) c hc
        unfold verB; rw [this]; rfl
      induction ms with
      | nil => rfl
      | cons n ms ih =>
        cases ms with
        | nil => rw [List.map_cons, List.map_nil, Ver.inter_one]; exact hq n
        | cons m ms => rw [List.map_cons, List.map_cons, Ver.inter_cons2, List.all_append, hq n, List.all_cons, show verB 46 = true by decide, ← List.map_cons, ih]; rfl
    exact hi ns
  · by_cases ht : t = []
    · rw [if_pos ht]; rfl
    · rw [if_neg ht, List.all_cons, show verB 45 = true by decide, Bool.true_and]
      refine List.all_eq_true.2 fun c hc => ?_
      have := List.all_eq_true.1 ho.2.2 c hc
      unfold verB; rw [this]; simp
theorem sgn_not (o : Nat) : 44 ∉ sgnL o ∧ 124 ∉ sgnL o := by
  unfold sgnL; split <;> decide
theorem prtB_not (b : Nat × BL) (h : mayL b = true) : 44 ∉ prtB b ∧ 124 ∉ prtB b := by
  have hv : b.2.all verB = true := by
    unfold mayL at h
    split at h
    · have : b.2 = [] := by simpa using h
      rw [this]; rfl
    · simp at h; exact okL_bytes _ h.2
  unfold prtB
  simp only [List.mem_append, not_or]
  refine ⟨⟨(sgn_not _).1, fun hm => ?_⟩, (sgn_not _).2, fun hm => ?_⟩
  · have := List.all_eq_true.1 hv _ hm; revert this; decide
  · have := List.all_eq_true.1 hv _ hm; revert this; decide
end Go.Proofs.YtjckcdemkpmheaaDoor.Rng
