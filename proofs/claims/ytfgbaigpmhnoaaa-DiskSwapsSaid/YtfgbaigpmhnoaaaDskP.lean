/- disk: names, files, the state (maths). -/
import Derived.Sort.KeysCollected
import Derived.Test.YtfgbaigpmhnoaaaBase
set_option linter.unusedVariables false
set_option linter.unusedSimpArgs false
namespace Go.Proofs.Ytfgbaigpmhnoaaa.Dsk

structure Fl where
  b : List Nat
  sure : Nat
  ever : Bool
/-- Which of two names is ahead. -/
def ltB (s t : ByteArray) : Bool := decide (s.data.toList < t.data.toList)
theorem ltB_irrefl (s : ByteArray) : ltB s s = false := by
  unfold ltB
  rw [decide_eq_false_iff_not]
  exact List.lt_irrefl _
theorem ltB_trans {s t u : ByteArray} (h1 : ltB s t = true) (h2 : ltB t u = true) : ltB s u = true := by
  unfold ltB at *
  rw [decide_eq_true_eq] at *
  exact List.lt_trans h1 h2
theorem ltB_asymm {s t : ByteArray} (h1 : ltB s t = true) : ltB t s = false := by
  cases h : ltB t s with
  | false => rfl
  | true => have := ltB_trans h1 h; rw [ltB_irrefl] at this; cases this
theorem ltB_ne {s t : ByteArray} (h : ltB s t = true) : s ≠ t := fun e => by subst e; rw [ltB_irrefl] at h; cases h
theorem ltB_total {s t : ByteArray} (h : s ≠ t) : ltB s t = true ∨ ltB t s = true := by
  unfold ltB
  rw [decide_eq_true_eq, decide_eq_true_eq]
  by_cases h1 : s.data.toList < t.data.toList
  · exact .inl h1
  · by_cases h2 : t.data.toList < s.data.toList
    · exact .inr h2
    · exact absurd (str_ext (List.le_antisymm (List.not_lt.1 h2) (List.not_lt.1 h1))) h
abbrev FS := List (ByteArray × Fl)
def get : FS → ByteArray → Option Fl
  | [], _ => none
  | (t, f) :: r, s => if t = s then some f else get r s
def put : FS → ByteArray → Fl → FS
  | [], s, f => [(s, f)]
  | (t, g) :: r, s, f => if t = s then (s, f) :: r else if ltB s t then (s, f) :: (t, g) :: r else (t, g) :: put r s f
def drop : FS → ByteArray → FS
  | [], _ => []
  | (t, g) :: r, s => if t = s then r else (t, g) :: drop r s
def used : FS → Nat
  | [] => 0
  | (_, f) :: r => f.b.length + used r
def lenO (o : Option Fl) : Nat := match o with | some f => f.b.length | none => 0
def Sorted (fs : FS) : Prop := fs.Pairwise fun p q => ltB p.1 q.1 = true
theorem get_put_same : ∀ (fs : FS) (s : ByteArray) (f : Fl), get (put fs s f) s = some f
  | [], s, f => by simp [put, get]
  | (t, g) :: r, s, f => by
    unfold put
    by_cases h : t = s
    · rw [if_pos h]; simp [get]
    · rw [if_neg h]
      split
      · simp [get]
      · simp [get, h, get_put_same r s f]
theorem get_put_other : ∀ (fs : FS) (s u : ByteArray) (f : Fl), u ≠ s → get (put fs s f) u = get fs u
  | [], s, u, f, h => by simp [put, get, Ne.symm h]
  | (t, g) :: r, s, u, f, h => by
    unfold put
    by_cases h1 : t = s
    · rw [if_pos h1]; subst h1; simp [get, Ne.symm h]
    · rw [if_neg h1]
      split
      · simp [get, Ne.symm h]
      · simp only [get]; rw [get_put_other r s u f h]
theorem get_drop_other : ∀ (fs : FS) (s u : ByteArray), u ≠ s → get (drop fs s) u = get fs u
  | [], s, u, h => rfl
  | (t, g) :: r, s, u, h => by
    unfold drop
    by_cases h1 : t = s
    · rw [if_pos h1]; subst h1; simp [get, Ne.symm h]
    · rw [if_neg h1]; simp only [get]; rw [get_drop_other r s u h]
theorem get_low : ∀ (fs : FS) (s : ByteArray), (∀ p ∈ fs, ltB s p.1 = true) → get fs s = none
  | [], _, _ => rfl
  | (t, g) :: r, s, h => by
    have h1 := h (t, g) (by simp)
    unfold get
    rw [if_neg (Ne.symm (ltB_ne h1))]
    exact get_low r s fun p hp => h p (by simp [hp])
theorem get_drop_same : ∀ (fs : FS) (s : ByteArray), Sorted fs → get (drop fs s) s = none
  | [], s, _ => rfl
  | (t, g) :: r, s, h => by
    obtain ⟨h1, h2⟩ := List.pairwise_cons.1 h
    unfold drop
    by_cases h3 : t = s
    · rw [if_pos h3]; subst h3; exact get_low r t h1
    · rw [if_neg h3]; simp only [get]; rw [if_neg h3]; exact get_drop_same r s h2
theorem mem_put : ∀ (fs : FS) (s : ByteArray) (f : Fl) (p : ByteArray × Fl), p ∈ put fs s f → p = (s, f) ∨ p ∈ fs
  | [], s, f, p, h => by simp [put] at h; exact .inl h
  | (t, g) :: r, s, f, p, h => by
    unfold put at h
    split at h
    · simp at h; rcases h with h | h
      · exact .inl h
      · exact .inr (by simp [h])
    · split at h
      · simp at h; rcases h with h | h | h
        · exact .inl h
        · exact .inr (by simp [h])
        · exact .inr (by simp [h])
      · simp at h; rcases h with h | h
        · exact .inr (by simp [h])
        · rcases mem_put r s f p h with h1 | h1
          · exact .inl h1
          · exact .inr (by simp [h1])
theorem mem_drop : ∀ (fs : FS) (s : ByteArray) (p : ByteArray × Fl), p ∈ drop fs s → p ∈ fs
  | [], s, p, h => by simp [drop] at h
  | (t, g) :: r, s, p, h => by
    unfold drop at h
    split at h
    · simp [h]
    · simp at h; rcases h with h | h
      · simp [h]
      · simp [mem_drop r s p h]
theorem Sorted.put : ∀ (fs : FS) (s : ByteArray) (f : Fl), Sorted fs → Sorted (put fs s f)
  | [], s, f, _ => by simp [Sorted, Dsk.put]
  | (t, g) :: r, s, f, h => by
    obtain ⟨h1, h2⟩ := List.pairwise_cons.1 h
    unfold Dsk.put
    by_cases h3 : t = s
    · rw [if_pos h3]; subst h3; exact List.pairwise_cons.2 ⟨h1, h2⟩
    · rw [if_neg h3]
      by_cases h4 : ltB s t = true
      · rw [if_pos h4]
        refine List.pairwise_cons.2 ⟨fun p hp => ?_, h⟩
        simp at hp; rcases hp with rfl | hp
        · exact h4
        · exact ltB_trans h4 (h1 p hp)
      · rw [if_neg h4]
        refine List.pairwise_cons.2 ⟨fun p hp => ?_, Sorted.put r s f h2⟩
        rcases mem_put r s f p hp with rfl | hp
        · rcases ltB_total h3 with h5 | h5
          · exact h5
          · exact absurd h5 h4
        · exact h1 p hp
theorem Sorted.drop : ∀ (fs : FS) (s : ByteArray), Sorted fs → Sorted (drop fs s)
  | [], s, _ => by simp [Sorted, Dsk.drop]
  | (t, g) :: r, s, h => by
    obtain ⟨h1, h2⟩ := List.pairwise_cons.1 h
    unfold Dsk.drop
    split
    · exact h2
    · exact List.pairwise_cons.2 ⟨fun p hp => h1 p (mem_drop r s p hp), Sorted.drop r s h2⟩
theorem used_put : ∀ (fs : FS) (s : ByteArray) (f : Fl), Sorted fs → used (put fs s f) + lenO (get fs s) = used fs + f.b.length
  | [], s, f, _ => by simp [Dsk.put, used, get, lenO]
  | (t, g) :: r, s, f, h => by
    obtain ⟨h1, h2⟩ := List.pairwise_cons.1 h
    unfold Dsk.put
    by_cases h3 : t = s
    · rw [if_pos h3]; simp only [used, get]; rw [if_pos h3]; simp only [lenO]; omega
    · rw [if_neg h3]
      by_cases h4 : ltB s t = true
      · rw [if_pos h4]
        have := get_low r s fun p hp => ltB_trans h4 (h1 p hp)
        simp only [used, get]; rw [if_neg h3, this]; simp only [lenO]; omega
      · rw [if_neg h4]
        have := used_put r s f h2
        simp only [used, get]; rw [if_neg h3]; omega
theorem used_drop : ∀ (fs : FS) (s : ByteArray), used (drop fs s) + lenO (get fs s) = used fs
  | [], s => rfl
  | (t, g) :: r, s => by
    unfold Dsk.drop
    by_cases h3 : t = s
    · rw [if_pos h3]; simp only [used, get]; rw [if_pos h3]; simp only [lenO]; omega
    · rw [if_neg h3]
      have := used_drop r s
      simp only [used, get]; rw [if_neg h3]; omega
theorem len_put : ∀ (fs : FS) (s : ByteArray) (f : Fl), (put fs s f).length ≤ fs.length + 1
  | [], s, f => by simp [Dsk.put]
  | (t, g) :: r, s, f => by
    unfold Dsk.put
    split
    · simp
    · split
      · simp
      · simp; exact len_put r s f
theorem len_put_in : ∀ (fs : FS) (s : ByteArray) (f g : Fl), Sorted fs → get fs s = some g → (put fs s f).length = fs.length
  | [], s, f, g, _, h => by simp [get] at h
  | (t, g') :: r, s, f, g, h0, h => by
    obtain ⟨h1, h2⟩ := List.pairwise_cons.1 h0
    unfold Dsk.put
    by_cases h3 : t = s
    · rw [if_pos h3]; simp
    · rw [if_neg h3]
      unfold get at h
      rw [if_neg h3] at h
      by_cases h4 : ltB s t = true
      · have := get_low r s fun p hp => ltB_trans h4 (h1 p hp)
        rw [this] at h; cases h
      · rw [if_neg h4]; simp; exact len_put_in r s f g h2 h
theorem len_drop : ∀ (fs : FS) (s : ByteArray), (drop fs s).length ≤ fs.length
  | [], s => by simp [Dsk.drop]
  | (t, g) :: r, s => by
    unfold Dsk.drop
    split
    · simp
    · simp; exact len_drop r s
theorem get_mem : ∀ {fs : FS} {s : ByteArray} {f : Fl}, get fs s = some f → (s, f) ∈ fs
  | [], s, f, h => by simp [get] at h
  | (t, g) :: r, s, f, h => by
    unfold get at h
    split at h
    · rename_i e; cases h; subst e; simp
    · simp [get_mem h]
theorem mem_get : ∀ {fs : FS} {s : ByteArray} {f : Fl}, Sorted fs → (s, f) ∈ fs → get fs s = some f
  | [], s, f, _, h => by simp at h
  | (t, g) :: r, s, f, h0, h => by
    obtain ⟨h1, h2⟩ := List.pairwise_cons.1 h0
    unfold get
    simp at h
    rcases h with ⟨rfl, rfl⟩ | h
    · rw [if_pos rfl]
    · rw [if_neg (ltB_ne (h1 _ h))]; exact mem_get h2 h
theorem len_le : ∀ {fs : FS} {s : ByteArray} {f : Fl}, get fs s = some f → f.b.length ≤ used fs
  | [], s, f, h => by simp [get] at h
  | (t, g) :: r, s, f, h => by
    unfold get at h
    unfold used
    split at h
    · cases h; omega
    · have := len_le h; omega
/-- The names, rising. -/
def names (fs : FS) : List (List UInt8) := fs.map fun p => p.1.data.toList
theorem names_lt {fs : FS} (h : Sorted fs) : (names fs).Pairwise fun a b => a < b := by
  unfold names
  rw [List.pairwise_map]
  exact h.imp fun {a b} hab => by unfold ltB at hab; simpa using hab
theorem names_nodup {fs : FS} (h : Sorted fs) : (names fs).Nodup := (names_lt h).imp fun {a b} hab e => by subst e; exact List.lt_irrefl _ hab
theorem names_sort {fs : FS} (h : Sorted fs) : (names fs).mergeSort leB = names fs := by
  refine List.mergeSort_of_pairwise ((names_lt h).imp fun {a b} hab => ?_)
  simp only [leB, decide_eq_true_eq]
  exact List.le_of_lt hab
theorem mem_names : ∀ (fs : FS) (x : List UInt8), x ∈ names fs ↔ (get fs ⟨x.toArray⟩).isSome = true
  | [], x => by simp [names, get]
  | (t, g) :: r, x => by
    have ih := mem_names r x
    unfold names at ih ⊢
    simp only [List.map_cons, List.mem_cons, get]
    by_cases h : t = ⟨x.toArray⟩
    · rw [if_pos h, h]; simp
    · rw [if_neg h, ih]
      constructor
      · rintro (h1 | h1)
        · exact absurd (str_ext (by simpa using h1.symm)) h
        · exact h1
      · exact .inr
/-- The state. -/
structure St where
  quota : Int
  fs : FS
  steps : Nat
  armed : Option Nat
  off : Bool
structure Ok (S : St) : Prop where
  q0 : 0 ≤ S.quota
  qm : S.quota ≤ 9223372036854775807
  sorted : Sorted S.fs
  few : S.fs.length ≤ S.steps
  low : S.steps ≤ 1000000000
  fit : (used S.fs : Int) ≤ S.quota
  sum : used S.fs ≤ 1000000000000
  file : ∀ s f, get S.fs s = some f → f.sure ≤ f.b.length ∧ (∀ x ∈ f.b, x < 256) ∧ f.b.length ≤ 8388608 ∧ 0 < s.size ∧ s.size ≤ 128
  arm : ∀ k, S.armed = some k → k < 9223372036854775808
end Go.Proofs.Ytfgbaigpmhnoaaa.Dsk
