/- The order of versions. No program here. -/
import Derived.Test.YtjckcdemkpmheaaDoorVerP
namespace Go.Proofs.YtjckcdemkpmheaaDoor.Ver
open Go

/-- A way of comparing that is an order: -1, 0, 1. -/
structure IsOrd {α : Type} (f : α → α → Int) : Prop where
  anti : ∀ a b, f b a = - f a b
  zero : ∀ a b, f a b = 0 ↔ a = b
  trans : ∀ a b c, f a b ≤ 0 → f b c ≤ 0 → f a c ≤ 0
  range : ∀ a b, -1 ≤ f a b ∧ f a b ≤ 1
theorem IsOrd.strict {α : Type} {f : α → α → Int} (h : IsOrd f) (a b c : α) (h1 : f a b < 0) (h2 : f b c ≤ 0) : f a c < 0 := by
  have h3 := h.trans a b c (by omega) h2
  rcases Int.lt_or_eq_of_le h3 with h4 | h4
  · exact h4
  · have e := (h.zero a c).1 h4
    subst e
    have := h.anti a b
    omega
def lexF {α β : Type} (f : α → α → Int) (g : β → β → Int) (a b : α × β) : Int := if f a.1 b.1 ≠ 0 then f a.1 b.1 else g a.2 b.2
theorem IsOrd.lex {α β : Type} {f : α → α → Int} {g : β → β → Int} (hf : IsOrd f) (hg : IsOrd g) : IsOrd (lexF f g) where
  anti a b := by
    unfold lexF
    have h1 := hf.anti a.1 b.1
    by_cases h : f a.1 b.1 = 0
    · rw [if_neg (by omega), if_neg (by omega)]; exact hg.anti _ _
    · rw [if_pos (by omega), if_pos (by omega)]; exact h1
  zero a b := by
    unfold lexF
    by_cases h : f a.1 b.1 = 0
    · rw [if_neg (by omega), hg.zero]
      have e := (hf.zero _ _).1 h
      exact ⟨fun h2 => Prod.ext e h2, fun h2 => by rw [h2]⟩
    · rw [if_pos h]
      exact ⟨fun h2 => absurd h2 h, fun h2 => by subst h2; exact (hf.zero _ _).2 rfl⟩
  trans a b c h1 h2 := by
    unfold lexF at *
    have t := hf.trans a.1 b.1 c.1
    by_cases ha : f a.1 b.1 = 0
    · have e := (hf.zero _ _).1 ha
      rw [if_neg (by omega)] at h1
      rw [e]
      by_cases hb : f b.1 c.1 = 0
      · rw [if_neg (by omega)] at h2 ⊢
        exact hg.trans _ _ _ h1 h2
      · rw [if_pos hb] at h2 ⊢
        exact h2
    · rw [if_pos ha] at h1
      by_cases hb : f b.1 c.1 = 0
      · have e := (hf.zero _ _).1 hb
        rw [← e, if_pos ha]; exact h1
      · rw [if_pos hb] at h2
        have := hf.strict a.1 b.1 c.1 (by omega) h2
        rw [if_pos (by omega)]; omega
  range a b := by
    unfold lexF
    split
    · exact hf.range _ _
    · exact hg.range _ _
def cmpI (x y : Int) : Int := if x < y then -1 else if y < x then 1 else 0
theorem cmpI_ord : IsOrd cmpI where
  anti a b := by unfold cmpI; split <;> split <;> (try split) <;> (try split) <;> omega
  zero a b := by unfold cmpI; split; · omega
                 split <;> omega
  trans a b c := by unfold cmpI; intro h1 h2; split at h1 <;> split at h2 <;> (try split at h1) <;> (try split at h2) <;> split <;> (try split) <;> omega
  range a b := by unfold cmpI; split; · omega
                  split <;> omega
def cmpL : List Int → List Int → Int
  | [], [] => 0
  | [], _ :: _ => -1
  | _ :: _, [] => 1
  | x :: a, y :: b => if cmpI x y ≠ 0 then cmpI x y else cmpL a b
theorem cmpL_anti : ∀ a b, cmpL b a = - cmpL a b
  | [], [] => rfl
  | [], _ :: _ => rfl
  | _ :: _, [] => rfl
  | x :: a, y :: b => by
    unfold cmpL
    have h := cmpI_ord.anti x y
    by_cases e : cmpI x y = 0
    · rw [if_neg (by omega), if_neg (by omega)]; exact cmpL_anti a b
    · rw [if_pos (by omega), if_pos (by omega)]; exact h
theorem cmpL_zero : ∀ a b, cmpL a b = 0 ↔ a = b
  | [], [] => by simp [cmpL]
  | [], _ :: _ => by simp [cmpL]
  | _ :: _, [] => by simp [cmpL]
  | x :: a, y :: b => by
    unfold cmpL
    by_cases e : cmpI x y = 0
    · rw [if_neg (by omega), cmpL_zero a b]
      have := (cmpI_ord.zero x y).1 e
      simp [this]
    · rw [if_pos e]
      constructor
      · intro h; exact absurd h e
      · intro h; cases h; exact (cmpI_ord.zero _ _).2 rfl
theorem cmpL_trans : ∀ a b c, cmpL a b ≤ 0 → cmpL b c ≤ 0 → cmpL a c ≤ 0
  | [], b, [], _, _ => by simp [cmpL]
  | [], b, _ :: _, _, _ => by simp [cmpL]
  | x :: a, [], c, h, _ => by simp [cmpL] at h
  | x :: a, y :: b, [], _, h => by simp [cmpL] at h
  | x :: a, y :: b, z :: c, h1, h2 => by
    unfold cmpL at *
    by_cases ha : cmpI x y = 0
    · have e := (cmpI_ord.zero _ _).1 ha
      subst e
      rw [if_neg (by omega)] at h1
      by_cases hb : cmpI x z = 0
      · rw [if_neg (by omega)] at h2 ⊢
        exact cmpL_trans a b c h1 h2
      · rw [if_pos hb] at h2 ⊢
        exact h2
    · rw [if_pos ha] at h1
      by_cases hb : cmpI y z = 0
      · have e := (cmpI_ord.zero _ _).1 hb
        subst e
        rw [if_pos ha]; exact h1
      · rw [if_pos hb] at h2
        have := cmpI_ord.strict x y z (by omega) h2
        rw [if_pos (by omega)]; omega
theorem cmpL_range : ∀ a b, -1 ≤ cmpL a b ∧ cmpL a b ≤ 1
  | [], [] => by simp [cmpL]
  | [], _ :: _ => by simp [cmpL]
  | _ :: _, [] => by simp [cmpL]
  | x :: a, y :: b => by
    unfold cmpL
    split
    · exact cmpI_ord.range x y
    · exact cmpL_range a b
theorem cmpL_ord : IsOrd cmpL := ⟨cmpL_anti, cmpL_zero, cmpL_trans, cmpL_range⟩
def bytesI (l : BL) : List Int := l.map fun c => (c.toNat : Int)
theorem bytesI_inj (a b : BL) (h : bytesI a = bytesI b) : a = b := by
  unfold bytesI at h
  exact (List.map_inj_right (fun x y e => UInt8.toNat_inj.1 (by omega))).1 h
theorem bytesI_len (a : BL) : (bytesI a).length = a.length := by simp [bytesI]
def cmpT (a b : BL) : Int := if a = [] ∨ b = [] then cmpI b.length a.length else cmpL (bytesI a) (bytesI b)
theorem cmpT_ord : IsOrd cmpT where
  anti a b := by
    unfold cmpT
    by_cases h : a = [] ∨ b = []
    · rw [if_pos h, if_pos h.symm]; exact cmpI_ord.anti _ _
    · rw [if_neg h, if_neg (fun h' => h h'.symm)]; exact cmpL_anti _ _
  zero a b := by
    unfold cmpT
    split
    · rename_i h
      rw [cmpI_ord.zero]
      rcases h with rfl | rfl
      · constructor
        · intro h; exact (List.length_eq_zero_iff.1 (by simpa using h)).symm
        · intro h; rw [h]
      · constructor
        · intro h; exact List.length_eq_zero_iff.1 (by simp at h; omega)
        · intro h; rw [h]
    · rw [cmpL_zero]
      exact ⟨bytesI_inj _ _, fun h => by rw [h]⟩
  trans a b c := by
    unfold cmpT
    cases a with
    | nil =>
      intro h1 h2
      cases b with
      | nil => exact h2
      | cons y b => rw [if_pos (.inl rfl)] at h1; unfold cmpI at h1; simp only [List.length_nil, List.length_cons] at h1; split at h1 <;> (try split at h1) <;> omega
    | cons x a =>
      cases c with
      | nil => intro _ _; rw [if_pos (.inr rfl)]; unfold cmpI; simp only [List.length_nil, List.length_cons]; split <;> (try split) <;> omega
      | cons z c =>
        cases b with
        | nil => intro _ h; rw [if_pos (.inl rfl)] at h; unfold cmpI at h; simp only [List.length_nil, List.length_cons] at h; split at h <;> (try split at h) <;> omega
        | cons y b =>
          rw [if_neg (by simp), if_neg (by simp), if_neg (by simp)]
          exact cmpL_trans _ _ _
  range a b := by
    unfold cmpT
    split
    · exact cmpI_ord.range _ _
    · exact cmpL_range _ _
def cmpV : List Int × BL → List Int × BL → Int := lexF cmpL cmpT
theorem cmpV_ord : IsOrd cmpV := cmpL_ord.lex cmpT_ord
theorem cmpV_eq (a b : List Int) (s t : BL) : cmpV (a, s) (b, t) = if cmpL a b ≠ 0 then cmpL a b else cmpT s t := rfl
/-- What two rows are when the first k places are alike. -/
theorem cmpL_same : ∀ (k : Nat) (a b : List Int), k ≤ a.length → k ≤ b.length → (∀ j, j < k → a.getD j 0 = b.getD j 0) → cmpL a b = cmpL (a.drop k) (b.drop k)
  | 0, a, b, _, _, _ => by simp
  | k + 1, [], b, h, _, _ => by simp at h
  | k + 1, x :: a, [], _, h, _ => by simp at h
  | k + 1, x :: a, y :: b, h1, h2, h => by
    have h0 := h 0 (by omega)
    simp at h0
    subst h0
    rw [show cmpL (x :: a) (x :: b) = cmpL a b from by rw [cmpL, if_neg (by simp [cmpI])]]
    simp only [List.drop_succ_cons]
    exact cmpL_same k a b (by simpa using h1) (by simpa using h2) fun j hj => by simpa using h (j + 1) (by omega)
theorem cmpL_at (k : Nat) (a b : List Int) (h1 : k < a.length) (h2 : k < b.length) (h : ∀ j, j < k → a.getD j 0 = b.getD j 0) (hne : a.getD k 0 ≠ b.getD k 0) : cmpL a b = cmpI (a.getD k 0) (b.getD k 0) := by
  rw [cmpL_same k a b (by omega) (by omega) h, List.drop_eq_getElem_cons h1, List.drop_eq_getElem_cons h2]
  have e1 : a.getD k 0 = a[k] := by simp [List.getD, h1]
  have e2 : b.getD k 0 = b[k] := by simp [List.getD, h2]
  rw [e1, e2] at hne ⊢
  unfold cmpL
  exact if_pos (fun e => hne ((cmpI_ord.zero _ _).1 e))
theorem cmpL_end (k : Nat) (a b : List Int) (hk : k = min a.length b.length) (h : ∀ j, j < k → a.getD j 0 = b.getD j 0) : cmpL a b = cmpI a.length b.length := by
  rw [cmpL_same k a b (by omega) (by omega) h]
  rcases Nat.lt_trichotomy a.length b.length with hl | hl | hl
  · rw [List.drop_of_length_le (by omega), List.drop_eq_getElem_cons (show k < b.length by omega)]
    simp [cmpL, cmpI]; omega
  · rw [List.drop_of_length_le (by omega), List.drop_of_length_le (by omega)]
    simp [cmpL, cmpI, hl]
  · rw [List.drop_of_length_le (l := b) (by omega), List.drop_eq_getElem_cons (show k < a.length by omega)]
    simp [cmpL, cmpI]; omega
end Go.Proofs.YtjckcdemkpmheaaDoor.Ver
