/- Versions as plain lists of bytes: parsing, comparing. No program here. -/
import Derived.Lib.IndexMore
import Derived.Lib.ItoaNum
set_option linter.unusedVariables false
set_option linter.unusedSimpArgs false
namespace Go.Proofs.YtmcafiihicanfaaDoor.Ver
open Go

abbrev BL := List UInt8
def digB (c : UInt8) : Bool := decide (48 ≤ c.toNat ∧ c.toNat ≤ 57)
def tagB (c : UInt8) : Bool := decide ((97 ≤ c.toNat ∧ c.toNat ≤ 122) ∨ (48 ≤ c.toNat ∧ c.toNat ≤ 57))
def numV (l : BL) : Nat := l.foldl (fun n c => 10 * n + (c.toNat - 48)) 0
def okNum (l : BL) : Bool := decide (1 ≤ l.length ∧ l.length ≤ 9) && l.all digB && !(decide (l.head? = some 48) && decide (1 < l.length))
def okTag (l : BL) : Bool := decide (l.length ≤ 16) && l.all tagB
def brk (c : UInt8) : BL → BL × BL × Bool
  | [] => ([], [], false)
  | x :: r => if x = c then ([], r, true) else (x :: (brk c r).1, (brk c r).2.1, (brk c r).2.2)
def parts (c : UInt8) : BL → List BL
  | [] => [[]]
  | x :: r => if x = c then [] :: parts c r else match parts c r with
    | [] => [[x]]
    | p :: ps => (x :: p) :: ps
def prsH (l : BL) : Option (List Nat) := if (parts 46 l).length ≤ 8 ∧ (parts 46 l).all okNum = true then some ((parts 46 l).map numV) else none
def prs (l : BL) : Option (List Nat × BL) :=
  if (brk 45 l).2.2 = true then (if (brk 45 l).2.1 ≠ [] ∧ okTag (brk 45 l).2.1 = true then (prsH (brk 45 l).1).map fun ns => (ns, (brk 45 l).2.1) else none)
  else (prsH l).map fun ns => (ns, [])

theorem brk_no (c : UInt8) : ∀ l : BL, (brk c l).2.2 = false → (brk c l).1 = l ∧ (brk c l).2.1 = [] ∧ c ∉ l
  | [], _ => ⟨rfl, rfl, by simp⟩
  | x :: r, h => by
    unfold brk at h ⊢
    by_cases hx : x = c
    · rw [if_pos hx] at h; cases h
    · rw [if_neg hx] at h ⊢
      obtain ⟨h1, h2, h3⟩ := brk_no c r h
      exact ⟨by simp [h1], h2, by simp [h3, Ne.symm hx]⟩
theorem brk_yes (c : UInt8) : ∀ l : BL, (brk c l).2.2 = true → l = (brk c l).1 ++ c :: (brk c l).2.1 ∧ c ∉ (brk c l).1
  | [], h => by cases h
  | x :: r, h => by
    unfold brk at h ⊢
    by_cases hx : x = c
    · rw [if_pos hx]; subst hx; simp
    · rw [if_neg hx] at h ⊢
      obtain ⟨h1, h2⟩ := brk_yes c r h
      exact ⟨by simpa using h1, by simp [h2, Ne.symm hx]⟩
theorem brk_app (c : UInt8) (a r : BL) (h : c ∉ a) : brk c (a ++ c :: r) = (a, r, true) := by
  induction a with
  | nil => simp [brk]
  | cons x a ih =>
    have hx : x ≠ c := fun e => h (by simp [e])
    rw [List.cons_append, brk, if_neg hx, ih (fun e => h (by simp [e]))]
theorem brk_not (c : UInt8) (l : BL) (h : c ∉ l) : brk c l = (l, [], false) := by
  induction l with
  | nil => rfl
  | cons x a ih =>
    have hx : x ≠ c := fun e => h (by simp [e])
    rw [brk, if_neg hx, ih (fun e => h (by simp [e]))]
theorem index_one (c : UInt8) : ∀ l : BL, Lib.index l [c] = if (brk c l).2.2 = true then ((brk c l).1.length : Int) else -1
  | [] => rfl
  | x :: r => by
    have ih := index_one c r
    unfold Lib.index brk
    by_cases hx : x = c
    · subst hx; simp
    · rw [if_neg (by simp [Ne.symm hx]), if_neg hx, ih]
      cases hb : (brk c r).2.2
      · simp [hb]
      · simp only [if_pos, hb]
        rw [if_neg (by simp; try omega)]
        simp
theorem cut_one (c : UInt8) (l : BL) : Lib.cut l [c] = brk c l := by
  unfold Lib.cut
  rw [index_one]
  cases hb : (brk c l).2.2
  · obtain ⟨h1, h2, _⟩ := brk_no c l hb
    have e : brk c l = ((brk c l).1, (brk c l).2.1, (brk c l).2.2) := rfl
    rw [if_neg (by simp), e, h1, h2, hb]
  · obtain ⟨h1, _⟩ := brk_yes c l hb
    have e : brk c l = ((brk c l).1, (brk c l).2.1, (brk c l).2.2) := rfl
    rw [if_pos rfl, if_pos (by omega)]
    generalize (brk c l).1 = a at *
    generalize (brk c l).2.1 = r at *
    rw [e, hb, h1]
    simp
theorem parts_ne (c : UInt8) (l : BL) : parts c l ≠ [] := by
  cases l with
  | nil => simp [parts]
  | cons x r => unfold parts; split; simp; split <;> simp
theorem parts_not (c : UInt8) (l : BL) (h : c ∉ l) : parts c l = [l] := by
  induction l with
  | nil => rfl
  | cons x a ih =>
    have hx : x ≠ c := fun e => h (by simp [e])
    rw [parts, if_neg hx, ih (fun e => h (by simp [e]))]
theorem parts_app (c : UInt8) (a r : BL) (h : c ∉ a) : parts c (a ++ c :: r) = a :: parts c r := by
  induction a with
  | nil => simp [parts]
  | cons x a ih =>
    have hx : x ≠ c := fun e => h (by simp [e])
    rw [List.cons_append, parts, if_neg hx, ih (fun e => h (by simp [e]))]
theorem parts_brk_yes (c : UInt8) (l : BL) (h : (brk c l).2.2 = true) : parts c l = (brk c l).1 :: parts c (brk c l).2.1 := by
  obtain ⟨h1, h2⟩ := brk_yes c l h
  have := parts_app c (brk c l).1 (brk c l).2.1 h2
  rwa [← h1] at this
theorem parts_brk_no (c : UInt8) (l : BL) (h : (brk c l).2.2 = false) : parts c l = [l] := parts_not c l (brk_no c l h).2.2

/-- A number's digits. -/
theorem numV_snoc (l : BL) (c : UInt8) : numV (l ++ [c]) = 10 * numV l + (c.toNat - 48) := by simp [numV]
theorem foldl_lt : ∀ (l : BL) (n k : Nat), l.all digB = true → n < 10 ^ k → l.foldl (fun n c => 10 * n + (c.toNat - 48)) n < 10 ^ (k + l.length)
  | [], n, k, _, h => h
  | c :: l, n, k, ha, h => by
    rw [List.all_cons, Bool.and_eq_true] at ha
    have h2 : c.toNat ≤ 57 := by have := ha.1; simp [digB] at this; omega
    have := foldl_lt l (10 * n + (c.toNat - 48)) (k + 1) ha.2 (by rw [Nat.pow_succ]; omega)
    rw [List.foldl_cons, List.length_cons, show k + (l.length + 1) = k + 1 + l.length by omega]
    exact this
theorem numV_lt (l : BL) (h : l.all digB = true) : numV l < 10 ^ l.length := by
  have := foldl_lt l 0 0 h (by decide)
  simpa [numV] using this
theorem okNum_lt (l : BL) (h : okNum l = true) : numV l < 1000000000 := by
  simp [okNum] at h
  have h1 := numV_lt l (by simp; exact h.1.2)
  have : 10 ^ l.length ≤ 10 ^ 9 := Nat.pow_le_pow_right (by decide) h.1.1.2
  omega
theorem numV_le (l : BL) (h : l.all digB = true) (h9 : l.length ≤ 9) : numV l < 1000000000 := by
  have h1 := numV_lt l h
  have : 10 ^ l.length ≤ 10 ^ 9 := Nat.pow_le_pow_right (by decide) h9
  omega
end Go.Proofs.YtmcafiihicanfaaDoor.Ver
