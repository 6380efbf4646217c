/- Graphs of names: places, edges, the order, closures. No program here. -/
import Derived.Lib.Hide
set_option linter.unusedVariables false
set_option linter.unusedSimpArgs false
namespace Go.Proofs.YtbniilajffjfcaaGreatDoor.Drv

/-- The place of the first text that is s. -/
def posO : List ByteArray → ByteArray → Option Nat
  | [], _ => none
  | x :: l, s => if x = s then some 0 else (posO l s).map (· + 1)
theorem posO_snoc : ∀ (l : List ByteArray) (x s : ByteArray), posO (l ++ [x]) s = match posO l s with | some i => some i | none => if x = s then some l.length else none
  | [], x, s => by simp [posO]
  | y :: l, x, s => by
    simp only [List.cons_append, posO, List.length_cons]
    by_cases h : y = s
    · rw [if_pos h, if_pos h]
    · rw [if_neg h, if_neg h, posO_snoc l x s]
      cases posO l s with
      | some i => rfl
      | none => by_cases h2 : x = s <;> simp [h2]
theorem posO_none : ∀ (l : List ByteArray) (s : ByteArray), posO l s = none ↔ s ∉ l
  | [], s => by simp [posO]
  | y :: l, s => by
    rw [posO]
    by_cases h : y = s
    · rw [if_pos h]; simp [h]
    · rw [if_neg h, Option.map_eq_none_iff, posO_none l s]
      simp only [List.mem_cons, not_or]
      exact ⟨fun h2 => ⟨fun e => h e.symm, h2⟩, fun h2 => h2.2⟩
theorem posO_some : ∀ (l : List ByteArray) (s : ByteArray) (i : Nat), posO l s = some i → l[i]? = some s
  | [], s, i, h => by simp [posO] at h
  | y :: l, s, i, h => by
    rw [posO] at h
    by_cases e : y = s
    · rw [if_pos e] at h; cases h; simp [e]
    · rw [if_neg e, Option.map_eq_some_iff] at h
      obtain ⟨k, hk, rfl⟩ := h
      simpa using posO_some l s k hk
theorem posO_lt {l : List ByteArray} {s : ByteArray} {i : Nat} (h : posO l s = some i) : i < l.length := (List.getElem?_eq_some_iff.1 (posO_some l s i h)).1
/-- Of names each of which is there once: the place of each. -/
theorem posO_at : ∀ (l : List ByteArray) (i : Nat) (s : ByteArray), l.Nodup → l[i]? = some s → posO l s = some i
  | [], i, s, _, h => by simp at h
  | y :: l, 0, s, _, h => by simp at h; rw [posO, if_pos h]
  | y :: l, i + 1, s, hn, h => by
    rw [List.nodup_cons] at hn
    have h2 : l[i]? = some s := by simpa using h
    have hne : y ≠ s := fun e => hn.1 (by rw [e]; exact List.mem_of_getElem? h2)
    rw [posO, if_neg hne, posO_at l i s hn.2 h2]; rfl
/-- The first place of a text. -/
theorem posO_first {l : List ByteArray} {s : ByteArray} {k : Nat} (hk : l[k]? = some s) (h : ∀ j, j < k → l[j]? ≠ some s) : posO l s = some k := by
  induction l generalizing k with
  | nil => simp at hk
  | cons y l ih =>
    rw [posO]
    cases k with
    | zero => simp at hk; rw [if_pos hk]
    | succ k =>
      have hne : y ≠ s := fun e => h 0 (by omega) (by simp [e])
      rw [if_neg hne, ih (k := k) (by simpa using hk) (fun j hj => by have := h (j + 1) (by omega); simpa using this)]; rfl
/-- Is a name there twice? -/
def dupB (l : List ByteArray) : Bool := decide (¬ l.Nodup)
theorem nodup_snoc (l : List ByteArray) (x : ByteArray) : (l ++ [x]).Nodup ↔ l.Nodup ∧ x ∉ l := by
  rw [List.nodup_append]
  constructor
  · rintro ⟨h1, _, h3⟩; exact ⟨h1, fun hx => h3 x hx x (by simp) rfl⟩
  · rintro ⟨h1, h2⟩
    refine ⟨h1, by simp, fun a ha b hb e => ?_⟩
    rw [List.mem_singleton.1 hb] at e
    exact h2 (e ▸ ha)
theorem take_snoc {α : Type} (l : List α) (k : Nat) (x : α) (h : l[k]? = some x) : l.take (k + 1) = l.take k ++ [x] := by
  rw [List.take_add_one, h]; rfl
theorem dup_some {l : List ByteArray} {k : Nat} {s : ByteArray} (hk : l[k]? = some s) (h : s ∈ l.take k) : dupB l = true := by
  unfold dupB
  rw [decide_eq_true_eq]
  intro hn
  obtain ⟨j, hj, he⟩ := List.getElem_of_mem h
  have hj' : j < k := by simp at hj; omega
  have h1 : l[j]? = some s := by
    rw [← he, List.getElem_take]
    exact List.getElem?_eq_getElem _
  have e1 := posO_at l j s hn h1
  have e2 := posO_at l k s hn hk
  rw [e1] at e2
  cases e2
  omega
theorem nodup_take {l : List ByteArray} {k : Nat} (h : dupB l = false) : (l.take k).Nodup := by
  unfold dupB at h
  rw [decide_eq_false_iff_not, Classical.not_not] at h
  exact h.sublist (List.take_sublist k l)
/-- Places of the names that are needed. -/
def edges (names row : List ByteArray) : List Nat := row.filterMap (posO names)
theorem edges_snoc (names row : List ByteArray) (s : ByteArray) : edges names (row ++ [s]) = match posO names s with | some i => edges names row ++ [i] | none => edges names row := by
  unfold edges
  rw [List.filterMap_append]
  cases h : posO names s <;> simp [h]
theorem edges_lt {names row : List ByteArray} {i : Nat} (h : i ∈ edges names row) : i < names.length := by
  unfold edges at h
  obtain ⟨s, _, hs⟩ := List.mem_filterMap.1 h
  exact posO_lt hs
theorem edges_len (names row : List ByteArray) : (edges names row).length ≤ row.length := List.length_filterMap_le _ _
/-- What the i-th of names needs: none beyond the rows. -/
def edgeAt (names : List ByteArray) (needs : List (List ByteArray)) (i : Nat) : List Nat := edges names (needs.getD i [])
theorem edgeAt_lt {names : List ByteArray} {needs : List (List ByteArray)} {i e : Nat} (h : e ∈ edgeAt names needs i) : e < names.length := edges_lt h

/-! ## The order -/
def stepS (n : Nat) (E : Nat → List Nat) (out : List Nat) : Option Nat := (List.range n).find? fun i => decide (i ∉ out) && (E i).all fun e => decide (e ∈ out)
def sortS (n : Nat) (E : Nat → List Nat) : Nat → List Nat → Option (List Nat)
  | 0, out => if out.length < n then none else some out
  | f + 1, out => if out.length < n then (match stepS n E out with | none => none | some i => sortS n E f (out ++ [i])) else some out
theorem step_some {n : Nat} {E : Nat → List Nat} {out : List Nat} {i : Nat} (h : stepS n E out = some i) : i < n ∧ i ∉ out ∧ (∀ e ∈ E i, e ∈ out) := by
  have h1 := List.mem_of_find?_eq_some h
  have h2 := List.find?_some h
  rw [Bool.and_eq_true, decide_eq_true_eq, List.all_eq_true] at h2
  exact ⟨List.mem_range.1 h1, h2.1, fun e he => by simpa using h2.2 e he⟩
theorem find_range {p : Nat → Bool} : ∀ {n i : Nat}, i < n → p i = true → (∀ j, j < i → p j = false) → (List.range n).find? p = some i := by
  intro n
  induction n with
  | zero => intro i h; omega
  | succ n ih =>
    intro i hi hp hj
    rw [List.range_succ, List.find?_append]
    by_cases e : i = n
    · subst e
      have : (List.range i).find? p = none := by
        rw [List.find?_eq_none]
        intro x hx
        simp [hj x (List.mem_range.1 hx)]
      rw [this]; simp [hp]
    · rw [ih (by omega) hp hj]; rfl
theorem step_is {n : Nat} {E : Nat → List Nat} {out : List Nat} {i : Nat} (hi : i < n) (h1 : i ∉ out) (h2 : ∀ e ∈ E i, e ∈ out) (h3 : ∀ j, j < i → j ∉ out → ∃ e ∈ E j, e ∉ out) : stepS n E out = some i := by
  unfold stepS
  refine find_range hi ?_ fun j hj => ?_
  · rw [Bool.and_eq_true, decide_eq_true_eq, List.all_eq_true]
    exact ⟨h1, fun e he => by simpa using h2 e he⟩
  · rw [Bool.eq_false_iff]
    intro hp
    rw [Bool.and_eq_true, decide_eq_true_eq, List.all_eq_true] at hp
    obtain ⟨e, he, hne⟩ := h3 j hj hp.1
    exact hne (by simpa using hp.2 e he)
theorem step_none {n : Nat} {E : Nat → List Nat} {out : List Nat} (h3 : ∀ j, j < n → j ∉ out → ∃ e ∈ E j, e ∉ out) : stepS n E out = none := by
  unfold stepS
  rw [List.find?_eq_none]
  intro j hj hp
  rw [Bool.and_eq_true, decide_eq_true_eq, List.all_eq_true] at hp
  obtain ⟨e, he, hne⟩ := h3 j (List.mem_range.1 hj) hp.1
  exact hne (by simpa using hp.2 e he)
/-- What is in order so far: each once, a place, behind what it needs. -/
structure Ordered (n : Nat) (E : Nat → List Nat) (out : List Nat) : Prop where
  nodup : out.Nodup
  lt : ∀ i ∈ out, i < n
  closed : ∀ i ∈ out, ∀ e ∈ E i, e ∈ out
  behind : ∀ k i, out[k]? = some i → ∀ e ∈ E i, e ∈ out.take k
theorem Ordered.nil (n : Nat) (E : Nat → List Nat) : Ordered n E [] := ⟨List.nodup_nil, fun i h => by simp at h, fun i h => by simp at h, fun k i h => by simp at h⟩
theorem nodup_snocN (l : List Nat) (x : Nat) : (l ++ [x]).Nodup ↔ l.Nodup ∧ x ∉ l := by
  rw [List.nodup_append]
  constructor
  · rintro ⟨h1, _, h3⟩; exact ⟨h1, fun hx => h3 x hx x (by simp) rfl⟩
  · rintro ⟨h1, h2⟩
    refine ⟨h1, by simp, fun a ha b hb e => ?_⟩
    rw [List.mem_singleton.1 hb] at e
    exact h2 (e ▸ ha)
theorem Ordered.snoc {n : Nat} {E : Nat → List Nat} {out : List Nat} {i : Nat} (h : Ordered n E out) (hi : i < n) (h1 : i ∉ out) (h2 : ∀ e ∈ E i, e ∈ out) : Ordered n E (out ++ [i]) := by
  refine ⟨(nodup_snocN _ _).2 ⟨h.nodup, h1⟩, fun j hj => ?_, fun j hj e he => ?_, fun k j hk e he => ?_⟩
  · rcases List.mem_append.1 hj with h3 | h3
    · exact h.lt j h3
    · rw [List.mem_singleton.1 h3]; exact hi
  · rcases List.mem_append.1 hj with h3 | h3
    · exact List.mem_append_left _ (h.closed j h3 e he)
    · rw [List.mem_singleton.1 h3] at he; exact List.mem_append_left _ (h2 e he)
  · rcases Nat.lt_or_ge k out.length with hl | hl
    · rw [List.getElem?_append_left hl] at hk
      rw [List.take_append_of_le_length (by omega)]
      exact h.behind k j hk e he
    · have hkl : k < (out ++ [i]).length := (List.getElem?_eq_some_iff.1 hk).1
      have : k = out.length := by simp at hkl; omega
      subst this
      have e1 : j = i := by simpa using hk.symm
      subst e1
      rw [List.take_append_of_le_length (Nat.le_refl _), List.take_length]
      exact h2 e he
theorem len_parts (p : Nat → Bool) : ∀ l : List Nat, l.length = (l.filter p).length + (l.filter fun x => !p x).length
  | [] => rfl
  | x :: l => by
    have := len_parts p l
    rw [List.filter_cons, List.filter_cons]
    cases p x <;> simp <;> omega
theorem nodup_le {n : Nat} : ∀ {l : List Nat}, l.Nodup → (∀ i ∈ l, i < n) → l.length ≤ n := by
  induction n with
  | zero =>
    intro l _ h
    cases l with
    | nil => exact Nat.le_refl _
    | cons x l => exact absurd (h x (by simp)) (by omega)
  | succ n ih =>
    intro l hl h
    have h1 : (l.filter (fun x => decide (x ≠ n))).length ≤ n := ih (hl.sublist List.filter_sublist) (fun i hi => by
      rw [List.mem_filter, decide_eq_true_eq] at hi
      have := h i hi.1
      omega)
    have h2 : (l.filter (fun x => !decide (x ≠ n))).length ≤ 1 := by
      have hn : (l.filter (fun x => !decide (x ≠ n))).Nodup := hl.sublist List.filter_sublist
      have hm : ∀ x ∈ l.filter (fun x => !decide (x ≠ n)), x = n := fun x hx => by
        rw [List.mem_filter] at hx; simpa using hx.2
      match l.filter (fun x => !decide (x ≠ n)), hn, hm with
      | [], _, _ => simp
      | [a], _, _ => simp
      | a :: b :: t, hn, hm =>
        have ha := hm a (by simp)
        have hb := hm b (by simp)
        rw [List.nodup_cons] at hn
        exact absurd (show a ∈ b :: t by rw [ha, hb]; simp) hn.1
    have h3 := len_parts (fun x => decide (x ≠ n)) l
    omega
theorem sort_ordered {n : Nat} {E : Nat → List Nat} : ∀ {f : Nat} {out l : List Nat}, Ordered n E out → sortS n E f out = some l → Ordered n E l ∧ l.length = n
  | 0, out, l, h, hs => by
    rw [sortS] at hs
    split at hs
    · cases hs
    · cases hs; exact ⟨h, Nat.le_antisymm (nodup_le h.nodup h.lt) (by omega)⟩
  | f + 1, out, l, h, hs => by
    rw [sortS] at hs
    split at hs
    · cases hu : stepS n E out with
      | none => rw [hu] at hs; cases hs
      | some i =>
        rw [hu] at hs
        obtain ⟨h1, h2, h3⟩ := step_some hu
        exact sort_ordered (h.snoc h1 h2 h3) hs
    · cases hs; exact ⟨h, Nat.le_antisymm (nodup_le h.nodup h.lt) (by omega)⟩
/-- Of all places each is there. -/
theorem all_in {n : Nat} {l : List Nat} (h : l.Nodup) (hl : ∀ i ∈ l, i < n) (hn : l.length = n) : ∀ i, i < n → i ∈ l := by
  intro i hi
  refine Classical.byContradiction fun hni => ?_
  have := nodup_le (n := n) (l := l ++ [i]) ((nodup_snocN _ _).2 ⟨h, hni⟩) (fun j hj => by
    rcases List.mem_append.1 hj with h3 | h3
    · exact hl j h3
    · rw [List.mem_singleton.1 h3]; exact hi)
  simp at this
  omega
end Go.Proofs.YtbniilajffjfcaaGreatDoor.Drv

/- Graphs: waits and what is ready; closures. No program here. -/
namespace Go.Proofs.YtbniilajffjfcaaGreatDoor.Drv

def cntO (E : Nat → List Nat) (j : Nat) (out : List Nat) : Nat := ((E j).filter fun e => decide (e ∉ out)).length
theorem cnt_snoc (E : Nat → List Nat) (j i : Nat) (out : List Nat) (hi : i ∉ out) : cntO E j out = cntO E j (out ++ [i]) + (E j).count i := by
  unfold cntO
  induction E j with
  | nil => rfl
  | cons e l ih =>
    rw [List.filter_cons, List.filter_cons, List.count_cons]
    by_cases h1 : e ∈ out
    · have hne : ¬ e = i := fun h => hi (h ▸ h1)
      simp [h1, hne] at ih ⊢
      exact ih
    · by_cases h2 : e = i
      · subst h2
        simp [h1] at ih ⊢
        omega
      · simp [h1, h2] at ih ⊢
        omega
theorem cnt_zero {E : Nat → List Nat} {j : Nat} {out : List Nat} : cntO E j out = 0 ↔ ∀ e ∈ E j, e ∈ out := by
  unfold cntO
  rw [List.length_eq_zero_iff, List.filter_eq_nil_iff]
  constructor
  · intro h e he
    have := h e he
    simpa using this
  · intro h e he
    simpa using h e he
/-- For how many each waits, and the places that wait for none. -/
structure Wt (n : Nat) (E : Nat → List Nat) (out rem : List Nat) (ws h : List Int) : Prop where
  len : ws.length = n
  cnt : ∀ j, j < n → ws.getD j 0 = ((cntO E j out + rem.count j : Nat) : Int)
  mem : ∀ x : Int, x ∈ h ↔ ∃ j : Nat, x = j ∧ j < n ∧ j ∉ out ∧ ws.getD j 0 = 0
  nodup : h.Nodup
theorem Wt.begin {n : Nat} {E : Nat → List Nat} {out us : List Nat} {ws h h' : List Int} {i : Nat} (H : Wt n E out [] ws h) (hi : i ∉ out) (hm : ∀ x : Int, x ∈ h' ↔ x ∈ h ∧ x ≠ i) (hn : h'.Nodup)
    (hu : ∀ j, j < n → us.count j = (E j).count i) : Wt n E (out ++ [i]) us ws h' := by
  refine ⟨H.len, fun j hj => ?_, fun x => ?_, hn⟩
  · rw [H.cnt j hj, cnt_snoc E j i out hi, hu j hj]; simp
  · rw [hm, H.mem]
    constructor
    · rintro ⟨⟨j, rfl, h1, h2, h3⟩, hne⟩
      refine ⟨j, rfl, h1, fun h4 => ?_, h3⟩
      rcases List.mem_append.1 h4 with h5 | h5
      · exact h2 h5
      · rw [List.mem_singleton.1 h5] at hne; exact hne rfl
    · rintro ⟨j, rfl, h1, h2, h3⟩
      exact ⟨⟨j, rfl, h1, fun h4 => h2 (List.mem_append_left _ h4), h3⟩, fun h4 => h2 (List.mem_append_right _ (by rw [List.mem_singleton]; omega))⟩
theorem getD_set (ws : List Int) (j k : Nat) (x : Int) (hj : j < ws.length) : (ws.set j x).getD k 0 = if k = j then x else ws.getD k 0 := by
  rw [List.getD_eq_getElem?_getD, List.getD_eq_getElem?_getD, List.getElem?_set]
  by_cases h : j = k
  · rw [if_pos h, if_pos h.symm, if_pos (by omega)]; rfl
  · rw [if_neg h, if_neg (fun e => h e.symm)]
theorem Wt.down {n : Nat} {E : Nat → List Nat} {out rem : List Nat} {ws h : List Int} {j : Nat} (H : Wt n E out (j :: rem) ws h) (hj : j < n) : ws.getD j 0 - 1 = ((cntO E j out + rem.count j : Nat) : Int) := by
  rw [H.cnt j hj, List.count_cons_self]; omega
theorem Wt.stay {n : Nat} {E : Nat → List Nat} {out rem : List Nat} {ws h : List Int} {j : Nat} (H : Wt n E out (j :: rem) ws h) (hj : j < n) (h0 : ws.getD j 0 - 1 ≠ 0) : Wt n E out rem (ws.set j (ws.getD j 0 - 1)) h := by
  have hl : j < ws.length := by rw [H.len]; exact hj
  refine ⟨by rw [List.length_set]; exact H.len, fun k hk => ?_, fun x => ?_, H.nodup⟩
  · rw [getD_set _ _ _ _ hl]
    by_cases e : k = j
    · rw [if_pos e, H.down hj, e]
    · rw [if_neg e, H.cnt k hk, List.count_cons_of_ne (fun e2 => e e2.symm)]
  · rw [H.mem]
    constructor
    · rintro ⟨k, rfl, h1, h2, h3⟩
      refine ⟨k, rfl, h1, h2, ?_⟩
      rw [getD_set _ _ _ _ hl]
      by_cases e : k = j
      · have := H.cnt j hj
        rw [List.count_cons_self] at this
        rw [e] at h3
        omega
      · rw [if_neg e]; exact h3
    · rintro ⟨k, rfl, h1, h2, h3⟩
      refine ⟨k, rfl, h1, h2, ?_⟩
      rw [getD_set _ _ _ _ hl] at h3
      by_cases e : k = j
      · rw [if_pos e] at h3; exact absurd h3 h0
      · rw [if_neg e] at h3; exact h3
theorem Wt.not_in {n : Nat} {E : Nat → List Nat} {out rem : List Nat} {ws h : List Int} {j : Nat} (H : Wt n E out (j :: rem) ws h) (hj : j < n) : (j : Int) ∉ h := by
  intro hm
  obtain ⟨k, hk, _, _, h3⟩ := (H.mem _).1 hm
  have : k = j := by omega
  subst this
  have := H.cnt k hj
  rw [List.count_cons_self] at this
  omega
theorem Wt.push {n : Nat} {E : Nat → List Nat} {out rem : List Nat} {ws h h' : List Int} {j : Nat} (H : Wt n E out (j :: rem) ws h) (hj : j < n) (hjo : j ∉ out) (h0 : ws.getD j 0 - 1 = 0) (hm : ∀ x : Int, x ∈ h' ↔ x ∈ h ∨ x = j) (hn : h'.Nodup) :
    Wt n E out rem (ws.set j (ws.getD j 0 - 1)) h' := by
  have hl : j < ws.length := by rw [H.len]; exact hj
  refine ⟨by rw [List.length_set]; exact H.len, fun k hk => ?_, fun x => ?_, hn⟩
  · rw [getD_set _ _ _ _ hl]
    by_cases e : k = j
    · rw [if_pos e, H.down hj, e]
    · rw [if_neg e, H.cnt k hk, List.count_cons_of_ne (fun e2 => e e2.symm)]
  · rw [hm, H.mem]
    constructor
    · rintro (⟨k, rfl, h1, h2, h3⟩ | rfl)
      · refine ⟨k, rfl, h1, h2, ?_⟩
        rw [getD_set _ _ _ _ hl]
        by_cases e : k = j
        · rw [if_pos e]; exact h0
        · rw [if_neg e]; exact h3
      · exact ⟨j, rfl, hj, hjo, by rw [getD_set _ _ _ _ hl, if_pos rfl]; exact h0⟩
    · rintro ⟨k, rfl, h1, h2, h3⟩
      by_cases e : k = j
      · exact .inr (by rw [e])
      · rw [getD_set _ _ _ _ hl, if_neg e] at h3
        exact .inl ⟨k, rfl, h1, h2, h3⟩
theorem Wt.step_none {n : Nat} {E : Nat → List Nat} {out : List Nat} {ws : List Int} (H : Wt n E out [] ws []) : stepS n E out = none := by
  refine Drv.step_none fun j hj hjo => ?_
  refine Classical.byContradiction fun hc => ?_
  have h0 : cntO E j out = 0 := cnt_zero.2 fun e he => Classical.byContradiction fun h2 => hc ⟨e, he, h2⟩
  have := (H.mem (j : Int)).2 ⟨j, rfl, hj, hjo, by rw [H.cnt j hj, h0]; rfl⟩
  simp at this
theorem Wt.step_some {n : Nat} {E : Nat → List Nat} {out : List Nat} {ws h : List Int} {x : Int} (H : Wt n E out [] ws h) (hx : x ∈ h) (hmin : ∀ y ∈ h, x ≤ y) : ∃ i : Nat, x = i ∧ i < n ∧ i ∉ out ∧ (∀ e ∈ E i, e ∈ out) ∧ stepS n E out = some i := by
  obtain ⟨i, rfl, hi, hio, h0⟩ := (H.mem x).1 hx
  have hz : cntO E i out = 0 := by
    have := H.cnt i hi
    rw [h0, List.count_nil, Nat.add_zero] at this
    omega
  have he := cnt_zero.1 hz
  refine ⟨i, rfl, hi, hio, he, step_is hi hio he fun j hj hjo => ?_⟩
  refine Classical.byContradiction fun hc => ?_
  have h1 : cntO E j out = 0 := cnt_zero.2 fun e he => Classical.byContradiction fun h2 => hc ⟨e, he, h2⟩
  have := hmin j ((H.mem (j : Int)).2 ⟨j, rfl, by omega, hjo, by rw [H.cnt j (by omega), h1]; rfl⟩)
  omega
/-- Who needs what is popped is not in order yet. -/
theorem user_out {n : Nat} {E : Nat → List Nat} {out us : List Nat} {i j : Nat} (ho : Ordered n E out) (hi : i ∉ out) (he : ∀ e ∈ E i, e ∈ out) (hu : us.count j = (E j).count i) (hj : j ∈ us) : j ∉ out ++ [i] := by
  have h1 : i ∈ E j := by
    have : 0 < us.count j := List.count_pos_iff.2 hj
    rw [hu] at this
    exact List.count_pos_iff.1 this
  intro h2
  rcases List.mem_append.1 h2 with h3 | h3
  · exact hi (ho.closed j h3 i h1)
  · rw [List.mem_singleton.1 h3] at h1
    exact hi (he i h1)

/-! ## Closures -/
def addNew (got row : List Nat) : List Nat := row.foldl (fun g x => if x ∈ g then g else g ++ [x]) got
theorem addNew_snoc (got row : List Nat) (x : Nat) : addNew got (row ++ [x]) = if x ∈ addNew got row then addNew got row else addNew got row ++ [x] := by
  unfold addNew
  rw [List.foldl_append]; rfl
theorem addNew_mem : ∀ (row got : List Nat) (x : Nat), x ∈ addNew got row ↔ x ∈ got ∨ x ∈ row
  | [], got, x => by simp [addNew]
  | y :: row, got, x => by
    have := addNew_mem row (if y ∈ got then got else got ++ [y]) x
    unfold addNew at this ⊢
    rw [List.foldl_cons, this]
    by_cases h : y ∈ got
    · rw [if_pos h, List.mem_cons]
      constructor
      · rintro (h1 | h1)
        · exact .inl h1
        · exact .inr (.inr h1)
      · rintro (h1 | rfl | h1)
        · exact .inl h1
        · exact .inl h
        · exact .inr h1
    · rw [if_neg h, List.mem_append, List.mem_singleton, List.mem_cons, or_assoc]
theorem addNew_nodup : ∀ (row got : List Nat), got.Nodup → (addNew got row).Nodup
  | [], got, h => h
  | y :: row, got, h => by
    unfold addNew
    rw [List.foldl_cons]
    refine addNew_nodup row _ ?_
    by_cases h2 : y ∈ got
    · rw [if_pos h2]; exact h
    · rw [if_neg h2]; exact (nodup_snocN _ _).2 ⟨h, h2⟩
theorem addNew_old : ∀ (row got : List Nat) (k : Nat), k < got.length → (addNew got row)[k]? = got[k]? ∧ got.length ≤ (addNew got row).length
  | [], got, k, h => ⟨rfl, Nat.le_refl _⟩
  | y :: row, got, k, h => by
    unfold addNew
    rw [List.foldl_cons]
    by_cases h2 : y ∈ got
    · rw [if_pos h2]; exact addNew_old row got k h
    · rw [if_neg h2]
      have := addNew_old row (got ++ [y]) k (by simp; omega)
      refine ⟨this.1.trans (List.getElem?_append_left h), ?_⟩
      have := this.2
      simp at this
      unfold addNew at this
      omega
def closeF (E : Nat → List Nat) : Nat → List Nat → Nat → List Nat
  | 0, got, _ => got
  | f + 1, got, i => if i < got.length then closeF E f (addNew got (E (got.getD i 0))) (i + 1) else got
/-- What is found so far, from roots on. -/
structure Found (n : Nat) (E : Nat → List Nat) (roots got : List Nat) (i : Nat) : Prop where
  nodup : got.Nodup
  lt : ∀ x ∈ got, x < n
  start : ∀ x ∈ roots, x ∈ got
  closed : ∀ k, k < i → k < got.length → ∀ e ∈ E (got.getD k 0), e ∈ got
  least : ∀ S : Nat → Prop, (∀ x ∈ roots, S x) → (∀ x, S x → ∀ e ∈ E x, S e) → ∀ x ∈ got, S x
theorem Found.first {n : Nat} {E : Nat → List Nat} {roots : List Nat} (hr : ∀ x ∈ roots, x < n) : Found n E roots (addNew [] roots) 0 := by
  have hm : ∀ x, x ∈ addNew [] roots ↔ x ∈ roots := fun x => by rw [addNew_mem]; simp
  exact ⟨addNew_nodup _ _ List.nodup_nil, fun x hx => hr x ((hm x).1 hx), fun x hx => (hm x).2 hx, fun k hk => by omega, fun S h1 _ x hx => h1 x ((hm x).1 hx)⟩
theorem Found.next {n : Nat} {E : Nat → List Nat} {roots got : List Nat} {i : Nat} (H : Found n E roots got i) (hi : i < got.length) (hE : ∀ j, ∀ e ∈ E j, e < n) : Found n E roots (addNew got (E (got.getD i 0))) (i + 1) := by
  have hg : got.getD i 0 ∈ got := by simp [List.getD, hi]
  refine ⟨addNew_nodup _ _ H.nodup, fun x hx => ?_, fun x hx => (addNew_mem _ _ _).2 (.inl (H.start x hx)), fun k hk hkl e he => ?_, fun S h1 h2 x hx => ?_⟩
  · rcases (addNew_mem _ _ _).1 hx with h | h
    · exact H.lt x h
    · exact hE _ x h
  · have hkl2 : k < got.length := by omega
    have e1 : (addNew got (E (got.getD i 0))).getD k 0 = got.getD k 0 := by
      rw [List.getD_eq_getElem?_getD, (addNew_old _ _ k hkl2).1, List.getD_eq_getElem?_getD]
    rw [e1] at he
    rw [addNew_mem]
    by_cases e2 : k = i
    · subst e2; exact .inr he
    · exact .inl (H.closed k (by omega) hkl2 e he)
  · rcases (addNew_mem _ _ _).1 hx with h | h
    · exact H.least S h1 h2 x h
    · exact h2 _ (H.least S h1 h2 _ hg) x h
theorem close_found {n : Nat} {E : Nat → List Nat} {roots : List Nat} (hE : ∀ j, ∀ e ∈ E j, e < n) : ∀ {f : Nat} {got : List Nat} {i : Nat}, Found n E roots got i → n ≤ f + i → Found n E roots (closeF E f got i) (closeF E f got i).length
  | 0, got, i, H, hf => by
    have := nodup_le H.nodup H.lt
    show Found n E roots got got.length
    exact ⟨H.nodup, H.lt, H.start, fun k hk hkl e he => H.closed k (by omega) hkl e he, H.least⟩
  | f + 1, got, i, H, hf => by
    rw [closeF]
    by_cases hi : i < got.length
    · rw [if_pos hi]
      exact close_found hE (H.next hi hE) (by omega)
    · rw [if_neg hi]
      exact ⟨H.nodup, H.lt, H.start, fun k hk hkl e he => H.closed k (by omega) hkl e he, H.least⟩
theorem close_step {E : Nat → List Nat} {n : Nat} {got : List Nat} {i : Nat} (hi : i < got.length) (hn : got.length ≤ n) : closeF E (n - i) got i = closeF E (n - (i + 1)) (addNew got (E (got.getD i 0))) (i + 1) := by
  obtain ⟨f, hf⟩ : ∃ f, n - i = f + 1 := ⟨n - i - 1, by omega⟩
  rw [hf, closeF, if_pos hi]
  congr 1
  omega
theorem close_end {E : Nat → List Nat} {f : Nat} {got : List Nat} {i : Nat} (hi : ¬ i < got.length) : closeF E f got i = got := by
  cases f with
  | zero => rfl
  | succ f => rw [closeF, if_neg hi]
/-- The closure of roots: its places, rising. -/
def closeL (n : Nat) (E : Nat → List Nat) (roots : List Nat) : List Nat := (List.range n).filter fun i => decide (i ∈ closeF E n (addNew [] roots) 0)
theorem close_mem {n : Nat} {E : Nat → List Nat} {roots : List Nat} (hr : ∀ x ∈ roots, x < n) (hE : ∀ j, ∀ e ∈ E j, e < n) (i : Nat) : i ∈ closeL n E roots ↔ i ∈ closeF E n (addNew [] roots) 0 := by
  unfold closeL
  rw [List.mem_filter, List.mem_range, decide_eq_true_eq]
  exact ⟨fun h => h.2, fun h => ⟨(close_found hE (Found.first hr) (by omega)).lt i h, h⟩⟩
theorem close_sorted (n : Nat) (E : Nat → List Nat) (roots : List Nat) : (closeL n E roots).Pairwise (· < ·) := List.Pairwise.filter _ List.pairwise_lt_range
theorem close_roots {n : Nat} {E : Nat → List Nat} {roots : List Nat} (hr : ∀ x ∈ roots, x < n) (hE : ∀ j, ∀ e ∈ E j, e < n) {x : Nat} (hx : x ∈ roots) : x ∈ closeL n E roots :=
  (close_mem hr hE x).2 ((close_found hE (Found.first hr) (by omega)).start x hx)
theorem close_closed {n : Nat} {E : Nat → List Nat} {roots : List Nat} (hr : ∀ x ∈ roots, x < n) (hE : ∀ j, ∀ e ∈ E j, e < n) {i e : Nat} (hi : i ∈ closeL n E roots) (he : e ∈ E i) : e ∈ closeL n E roots := by
  have H := close_found hE (Found.first hr) (f := n) (by omega)
  rw [close_mem hr hE] at hi ⊢
  obtain ⟨k, hk, hg⟩ := List.getElem_of_mem hi
  refine H.closed k hk hk e ?_
  rw [List.getD_eq_getElem?_getD, List.getElem?_eq_getElem hk, hg]
  exact he
theorem close_least {n : Nat} {E : Nat → List Nat} {roots : List Nat} (hr : ∀ x ∈ roots, x < n) (hE : ∀ j, ∀ e ∈ E j, e < n) (S : Nat → Prop) (h1 : ∀ x ∈ roots, S x) (h2 : ∀ x, S x → ∀ e ∈ E x, S e) : ∀ x ∈ closeL n E roots, S x := fun x hx =>
  (close_found hE (Found.first hr) (by omega)).least S h1 h2 x ((close_mem hr hE x).1 hx)
theorem rising_unique : ∀ (l m : List Nat), l.Pairwise (· < ·) → m.Pairwise (· < ·) → (∀ x, x ∈ l ↔ x ∈ m) → l = m
  | [], [], _, _, _ => rfl
  | [], y :: m, _, _, h => by have := (h y).2 (by simp); simp at this
  | x :: l, [], _, _, h => by have := (h x).1 (by simp); simp at this
  | x :: l, y :: m, hl, hm, h => by
    rw [List.pairwise_cons] at hl hm
    have e : x = y := by
      have h1 := (h x).1 (by simp)
      have h2 := (h y).2 (by simp)
      rcases List.mem_cons.1 h1 with e | h3
      · exact e
      · rcases List.mem_cons.1 h2 with e | h4
        · exact e.symm
        · have := hm.1 x h3
          have := hl.1 y h4
          omega
    subst e
    rw [rising_unique l m hl.2 hm.2 fun z => ?_]
    constructor
    · intro hz
      rcases List.mem_cons.1 ((h z).1 (List.mem_cons_of_mem _ hz)) with e | h3
      · have := hl.1 z hz; omega
      · exact h3
    · intro hz
      rcases List.mem_cons.1 ((h z).2 (List.mem_cons_of_mem _ hz)) with e | h3
      · have := hm.1 z hz; omega
      · exact h3
end Go.Proofs.YtbniilajffjfcaaGreatDoor.Drv
