/- Clauses and formulas as plain lists: what may be, normal forms, models; what units set. No program here. -/
import Derived.Lib.SmallJoins
import Derived.Lib.SlicesCompact
namespace Go.Proofs.Ytapaoccpbcjgeaa.Cnf

/-- Is x a literal of a variable from 1 to v? -/
def litB (v x : Int) : Bool := decide (x ≠ 0 ∧ -v ≤ x ∧ x ≤ v)
def countN (cs : List (List Int)) : Nat := (cs.map List.length).sum
def absI (x : Int) : Int := max x (-x)
theorem absI_neg (x : Int) : absI (-x) = absI x := by unfold absI; omega
theorem absI_eq (x y : Int) : absI x = absI y ↔ (x = y ∨ x = -y) := by unfold absI; omega
/-- How two literals are told apart in a normal form. -/
def cmpN (a b : Int) : Int := if absI a - absI b ≠ 0 then absI a - absI b else b - a
theorem cmpN_zero (a b : Int) : cmpN a b = 0 ↔ a = b := by
  unfold cmpN absI
  split <;> omega
theorem cmpN_neg (a b : Int) : cmpN a b < 0 ↔ 0 < cmpN b a := by
  unfold cmpN absI
  split <;> split <;> omega
theorem cmpN_trans (a b c : Int) (h1 : cmpN a b < 0) (h2 : cmpN b c < 0) : cmpN a c < 0 := by
  unfold cmpN absI at *
  split at h1 <;> split at h2 <;> split <;> omega
theorem cmpN_le_trans (a b c : Int) (h1 : cmpN a b ≤ 0) (h2 : cmpN b c ≤ 0) : cmpN a c ≤ 0 := by
  unfold cmpN absI at *
  split at h1 <;> split at h2 <;> split <;> omega
/-- A normal form: each literal once, in order. -/
def Norml (l : List Int) : Prop := l.Pairwise fun a b => cmpN a b < 0
theorem norml_unique : ∀ (l m : List Int), Norml l → Norml m → (∀ x, x ∈ l ↔ x ∈ m) → l = m
  | [], [], _, _, _ => rfl
  | [], y :: m, _, _, h => by have := (h y).2 (by simp); simp at this
  | x :: l, [], _, _, h => by have := (h x).1 (by simp); simp at this
  | x :: l, y :: m, hl, hm, h => by
    have hl' := List.pairwise_cons.1 hl
    have hm' := List.pairwise_cons.1 hm
    have exy : x = y := by
      have h1 := (h x).1 (by simp)
      have h2 := (h y).2 (by simp)
      rcases List.mem_cons.1 h1 with e | h1
      · exact e
      · rcases List.mem_cons.1 h2 with e | h2
        · exact e.symm
        · have a := hm'.1 x h1
          have b := hl'.1 y h2
          have := (cmpN_neg x y).1 b
          omega
    subst exy
    have hne : ∀ z, z ∈ l → z ≠ x := fun z hz e => by
      subst e
      have := hl'.1 z hz
      have e0 := (cmpN_zero z z).2 rfl
      omega
    have hne2 : ∀ z, z ∈ m → z ≠ x := fun z hz e => by
      subst e
      have := hm'.1 z hz
      have e0 := (cmpN_zero z z).2 rfl
      omega
    rw [norml_unique l m hl'.2 hm'.2 fun z => ⟨fun hz => by
      rcases List.mem_cons.1 ((h z).1 (List.mem_cons_of_mem _ hz)) with e | h3
      · exact absurd e (hne z hz)
      · exact h3, fun hz => by
      rcases List.mem_cons.1 ((h z).2 (List.mem_cons_of_mem _ hz)) with e | h3
      · exact absurd e (hne2 z hz)
      · exact h3⟩]
/-- Each of a row's equal neighbours but the first struck. -/
def compactL : List Int → List Int
  | [] => []
  | [x] => [x]
  | x :: y :: l => if x = y then compactL (y :: l) else x :: compactL (y :: l)
theorem compact_mem : ∀ (l : List Int) (x : Int), x ∈ compactL l ↔ x ∈ l
  | [], x => by simp [compactL]
  | [y], x => by simp [compactL]
  | a :: b :: l, x => by
    have ih := compact_mem (b :: l) x
    unfold compactL
    split
    · rename_i e; subst e; rw [ih]; simp
    · rw [List.mem_cons, ih]; simp
theorem compact_norml : ∀ l : List Int, (l.Pairwise fun a b => cmpN a b ≤ 0) → Norml (compactL l)
  | [], _ => List.Pairwise.nil
  | [x], _ => List.pairwise_singleton _ _
  | a :: b :: l, h => by
    have h' := List.pairwise_cons.1 h
    have ih := compact_norml (b :: l) h'.2
    unfold compactL
    split
    · exact ih
    · rename_i hne
      refine List.pairwise_cons.2 ⟨fun z hz => ?_, ih⟩
      have hz' := (compact_mem (b :: l) z).1 hz
      have h1 := h'.1 z hz'
      have h2 : cmpN a z ≠ 0 := fun e => by
        have e2 := (cmpN_zero a z).1 e
        subst e2
        have hb := h'.1 b (by simp)
        rcases List.mem_cons.1 hz' with e3 | hz3
        · exact hne e3
        · have hba := (List.pairwise_cons.1 h'.2).1 a hz3
          have h3 : cmpN a b = 0 := by
            rcases Int.lt_or_le (cmpN a b) 0 with h4 | h4
            · have := (cmpN_neg a b).1 h4; omega
            · omega
          exact hne ((cmpN_zero a b).1 h3)
      omega
/-- Two opposites in a row. -/
def bothB (c : List Int) : Bool := c.any fun x => c.contains (-x)
theorem bothB_iff (c : List Int) : bothB c = true ↔ ∃ x ∈ c, -x ∈ c := by
  unfold bothB
  rw [List.any_eq_true]
  constructor
  · rintro ⟨x, hx, h⟩; exact ⟨x, hx, by simpa using h⟩
  · rintro ⟨x, hx, h⟩; exact ⟨x, hx, by simpa using h⟩
/-- In a normal form opposites are neighbours. -/
def nextB : List Int → Bool
  | [] => false
  | [_] => false
  | x :: y :: l => decide (y = -x) || nextB (y :: l)
theorem next_both : ∀ l : List Int, Norml l → (∀ x ∈ l, x ≠ 0) → nextB l = bothB l := by
  intro l hl h0
  rw [Bool.eq_iff_iff, bothB_iff]
  constructor
  · intro h
    suffices ∀ m : List Int, nextB m = true → ∃ x ∈ m, -x ∈ m from this l h
    intro m
    induction m with
    | nil => intro h; cases h
    | cons x m ih =>
      cases m with
      | nil => intro h; cases h
      | cons y m =>
        intro h
        unfold nextB at h
        rw [Bool.or_eq_true, decide_eq_true_eq] at h
        rcases h with e | h
        · exact ⟨x, by simp, by rw [← e]; simp⟩
        · obtain ⟨z, hz, hz2⟩ := ih h
          exact ⟨z, List.mem_cons_of_mem _ hz, List.mem_cons_of_mem _ hz2⟩
  · induction l with
    | nil => rintro ⟨x, hx, _⟩; cases hx
    | cons a l ih =>
      have hl' := List.pairwise_cons.1 hl
      intro ⟨x, hx, hx2⟩
      cases l with
      | nil =>
        simp at hx hx2
        have := h0 a (by simp)
        omega
      | cons b l =>
        unfold nextB
        rw [Bool.or_eq_true, decide_eq_true_eq]
        have ih' := ih hl'.2 (fun z hz => h0 z (List.mem_cons_of_mem _ hz))
        by_cases hax : x ∈ b :: l ∧ -x ∈ b :: l
        · exact .inr (ih' ⟨x, hax.1, hax.2⟩)
        · -- one of both is the first
          have hbx : ∃ z, z ∈ b :: l ∧ z = -a := by
            rcases List.mem_cons.1 hx with e | h1
            · subst e
              rcases List.mem_cons.1 hx2 with e2 | h2
              · have := h0 x (by simp); omega
              · exact ⟨_, h2, rfl⟩
            · rcases List.mem_cons.1 hx2 with e2 | h2
              · exact ⟨x, h1, by omega⟩
              · exact absurd ⟨h1, h2⟩ hax
          obtain ⟨z, hz, rfl⟩ := hbx
          rcases List.mem_cons.1 hz with e | hz2
          · exact .inl e.symm
          · -- then b lies between a and -a
            exfalso
            have h1 := hl'.1 b (by simp)
            have h2 := (List.pairwise_cons.1 hl'.2).1 _ hz2
            have ha0 := h0 a (by simp)
            unfold cmpN absI at h1 h2
            split at h1 <;> split at h2 <;> omega
/-- The one normal form of a clause. -/
structure IsNorm (c l : List Int) : Prop where
  norml : Norml l
  mem : ∀ x, x ∈ l ↔ x ∈ c
theorem IsNorm.unique {c l m : List Int} (h : IsNorm c l) (h2 : IsNorm c m) : l = m := norml_unique l m h.norml h2.norml fun x => (h.mem x).trans (h2.mem x).symm
theorem IsNorm.of_sorted {c s : List Int} (hp : s.Perm c) (hs : s.Pairwise fun a b => cmpN a b ≤ 0) : IsNorm c (compactL s) :=
  ⟨compact_norml s hs, fun x => (compact_mem s x).trans hp.mem_iff⟩
end Go.Proofs.Ytapaoccpbcjgeaa.Cnf

/- What units set: by definition, and by the clauses that have come to one literal. No program here. -/
namespace Go.Proofs.Ytapaoccpbcjgeaa.Cnf

def firstsI (l : List Int) : List Int := l.foldl (fun acc x => if x ∈ acc then acc else acc ++ [x]) []
theorem firstsI_snoc (l : List Int) (x : Int) : firstsI (l ++ [x]) = if x ∈ firstsI l then firstsI l else firstsI l ++ [x] := by
  unfold firstsI; rw [List.foldl_append]; rfl
theorem firstsI_fold : ∀ (m acc : List Int) (x : Int), (x ∈ m.foldl (fun acc x => if x ∈ acc then acc else acc ++ [x]) acc ↔ x ∈ acc ∨ x ∈ m) ∧ (acc.Nodup → (m.foldl (fun acc x => if x ∈ acc then acc else acc ++ [x]) acc).Nodup)
  | [], acc, x => by simp
  | y :: m, acc, x => by
    have ih := firstsI_fold m (if y ∈ acc then acc else acc ++ [y]) x
    rw [List.foldl_cons]
    refine ⟨ih.1.trans ?_, fun hn => ih.2 ?_⟩
    · by_cases hy : y ∈ acc
      · rw [if_pos hy, List.mem_cons]
        constructor
        · rintro (h | h)
          · exact .inl h
          · exact .inr (.inr h)
        · rintro (h | rfl | h)
          · exact .inl h
          · exact .inl hy
          · exact .inr h
      · rw [if_neg hy, List.mem_append, List.mem_singleton, List.mem_cons, or_assoc]
    · by_cases hy : y ∈ acc
      · rw [if_pos hy]; exact hn
      · rw [if_neg hy]
        refine List.nodup_append.2 ⟨hn, by simp, fun a ha b hb => ?_⟩
        rw [List.mem_singleton] at hb
        subst hb
        intro e; subst e; exact hy ha
theorem mem_firstsI (l : List Int) (x : Int) : x ∈ firstsI l ↔ x ∈ l := by
  have := (firstsI_fold l [] x).1
  simpa [firstsI] using this
theorem firstsI_nodup (l : List Int) : (firstsI l).Nodup := (firstsI_fold l [] 0).2 List.nodup_nil
theorem nodup_len : ∀ (l m : List Int), l.Nodup → m.Nodup → (∀ x, x ∈ l ↔ x ∈ m) → l.length = m.length
  | [], [], _, _, _ => rfl
  | [], y :: m, _, _, h => by have := (h y).2 (by simp); simp at this
  | x :: l, m, hl, hm, h => by
    have hx := (h x).1 (by simp)
    have hl' := List.nodup_cons.1 hl
    have ih := nodup_len l (m.erase x) hl'.2 (hm.erase x) fun z => by
      rw [hm.mem_erase_iff]
      constructor
      · intro hz
        exact ⟨fun e => hl'.1 (e ▸ hz), (h z).1 (List.mem_cons_of_mem _ hz)⟩
      · rintro ⟨hne, hz⟩
        rcases List.mem_cons.1 ((h z).2 hz) with e | h2
        · exact absurd e hne
        · exact h2
    rw [List.length_cons, ih, List.length_erase_of_mem hx]
    have := List.length_pos_of_mem hx
    omega
def heldB (c set : List Int) : Bool := c.any fun x => decide (x ∈ set)
theorem heldB_iff (c set : List Int) : heldB c set = true ↔ ∃ x ∈ c, x ∈ set := by
  unfold heldB; rw [List.any_eq_true]
  constructor
  · rintro ⟨x, hx, h⟩; exact ⟨x, hx, of_decide_eq_true h⟩
  · rintro ⟨x, hx, h⟩; exact ⟨x, hx, decide_eq_true h⟩
/-- What of a clause is not opposed, each once. -/
def leftL (c set : List Int) : List Int := firstsI (c.filter fun x => decide (-x ∉ set))
theorem mem_left (c set : List Int) (x : Int) : x ∈ leftL c set ↔ x ∈ c ∧ -x ∉ set := by
  unfold leftL
  rw [mem_firstsI, List.mem_filter, decide_eq_true_eq]
theorem left_nodup (c set : List Int) : (leftL c set).Nodup := firstsI_nodup _
def pairB (set : List Int) : Bool := set.any fun x => decide (-x ∈ set)
theorem pairB_iff (set : List Int) : pairB set = true ↔ ∃ x ∈ set, -x ∈ set := by
  unfold pairB; rw [List.any_eq_true]
  constructor
  · rintro ⟨x, hx, h⟩; exact ⟨x, hx, of_decide_eq_true h⟩
  · rintro ⟨x, hx, h⟩; exact ⟨x, hx, decide_eq_true h⟩
/-- Is there a clash? By the document. -/
def clashB (cs : List (List Int)) (set : List Int) : Bool := pairB set || cs.any fun c => !heldB c set && decide ((leftL c set).length = 0)
/-- Is there a clash? By counts. -/
def zeroB (cs : List (List Int)) (set : List Int) : Bool := pairB set || cs.any fun c => decide ((leftL c set).length = 0)
theorem clash_zero (cs : List (List Int)) (set : List Int) : clashB cs set = zeroB cs set := by
  unfold clashB zeroB
  cases hp : pairB set
  · rw [Bool.false_or, Bool.false_or, Bool.eq_iff_iff, List.any_eq_true, List.any_eq_true]
    constructor
    · rintro ⟨c, hc, h⟩
      rw [Bool.and_eq_true] at h
      exact ⟨c, hc, h.2⟩
    · rintro ⟨c, hc, h⟩
      refine ⟨c, hc, ?_⟩
      rw [Bool.and_eq_true]
      refine ⟨?_, h⟩
      cases hh : heldB c set
      · rfl
      · obtain ⟨x, hx, hxs⟩ := (heldB_iff c set).1 hh
        have h0 : leftL c set = [] := List.eq_nil_of_length_eq_zero (of_decide_eq_true h)
        have : x ∉ leftL c set := by rw [h0]; simp
        rw [mem_left] at this
        have hxn : -x ∈ set := Classical.byContradiction fun hn => this ⟨hx, hn⟩
        have := (pairB_iff set).2 ⟨x, hxs, hxn⟩
        rw [hp] at this; cases this
  · rfl
def unitOf (c set : List Int) : Option Int := if heldB c set = true then none else match leftL c set with | [x] => some x | _ => none
def firstU (cs : List (List Int)) (set : List Int) : Option Int := cs.findSome? fun c => unitOf c set
def goOn : Nat → List (List Int) → List Int → List Int × Bool
  | 0, cs, set => (set, clashB cs set)
  | f + 1, cs, set => if clashB cs set = true then (set, true) else match firstU cs set with
    | none => (set, false)
    | some x => goOn f cs (set ++ [x])
theorem unitOf_some (c set : List Int) (x : Int) : unitOf c set = some x ↔ heldB c set = false ∧ leftL c set = [x] := by
  unfold unitOf
  cases heldB c set
  · simp only [Bool.false_eq_true, if_false, true_and]
    split
    · rename_i y e; rw [e]; simp
    · rename_i h
      constructor
      · intro h2; cases h2
      · intro h2; exact absurd h2 (h x)
  · simp
/-- The number of clauses that hold by nothing that is set. -/
def openN (cs : List (List Int)) (set : List Int) : Nat := (cs.filter fun c => !heldB c set).length
theorem held_mono (c set : List Int) (x : Int) (h : heldB c set = true) : heldB c (set ++ [x]) = true := by
  obtain ⟨y, hy, hys⟩ := (heldB_iff c set).1 h
  exact (heldB_iff _ _).2 ⟨y, hy, by simp [hys]⟩
theorem open_le : ∀ (cs : List (List Int)) (set : List Int) (x : Int), openN cs (set ++ [x]) ≤ openN cs set
  | [], _, _ => Nat.le_refl _
  | c :: cs, set, x => by
    have ih := open_le cs set x
    unfold openN at ih ⊢
    rw [List.filter_cons, List.filter_cons]
    cases h : heldB c set
    · cases h2 : heldB c (set ++ [x]) <;> simp <;> omega
    · rw [held_mono c set x h]; simpa using ih
theorem open_lt : ∀ (cs : List (List Int)) (set : List Int) (x : Int), firstU cs set = some x → openN cs (set ++ [x]) < openN cs set
  | [], _, _, h => by simp [firstU] at h
  | c :: cs, set, x, h => by
    unfold firstU at h
    rw [List.findSome?_cons] at h
    cases hu : unitOf c set with
    | some y =>
      rw [hu] at h
      injection h with h; subst h
      obtain ⟨h1, h2⟩ := (unitOf_some c set y).1 hu
      have hy : y ∈ c := ((mem_left c set y).1 (by rw [h2]; simp)).1
      have h3 : heldB c (set ++ [y]) = true := (heldB_iff _ _).2 ⟨y, hy, by simp⟩
      have := open_le cs set y
      unfold openN at this ⊢
      rw [List.filter_cons, List.filter_cons, h1, h3]
      simp; omega
    | none =>
      rw [hu] at h
      have ih := open_lt cs set x h
      unfold openN at ih ⊢
      rw [List.filter_cons, List.filter_cons]
      cases h1 : heldB c set
      · cases h2 : heldB c (set ++ [x]) <;> simp <;> omega
      · rw [held_mono c set x h1]; simpa using ih
/-- Enough is enough. -/
theorem goOn_more : ∀ (f : Nat) (cs : List (List Int)) (set : List Int), openN cs set < f → goOn (f + 1) cs set = goOn f cs set
  | 0, _, _, h => by omega
  | f + 1, cs, set, h => by
    rw [goOn, goOn]
    by_cases hc : clashB cs set = true
    · rw [if_pos hc, if_pos hc]
    · rw [if_neg hc, if_neg hc]
      cases hu : firstU cs set with
      | none => rfl
      | some x => exact goOn_more f cs (set ++ [x]) (by have := open_lt cs set x hu; omega)
/-- What units set from set on. -/
def unitsF (cs : List (List Int)) (set : List Int) : List Int × Bool := goOn (cs.length + 1) cs set
theorem open_len (cs : List (List Int)) (set : List Int) : openN cs set ≤ cs.length := List.length_filter_le _ _
theorem goOn_enough : ∀ (k f : Nat) (cs : List (List Int)) (set : List Int), openN cs set < f → goOn (f + k) cs set = goOn f cs set
  | 0, _, _, _, _ => rfl
  | k + 1, f, cs, set, h => by rw [← Nat.add_assoc, goOn_more (f + k) cs set (by omega), goOn_enough k f cs set h]
theorem units_clash (cs : List (List Int)) (set : List Int) (h : clashB cs set = true) : unitsF cs set = (set, true) := by
  unfold unitsF; rw [goOn, if_pos h]
theorem units_none (cs : List (List Int)) (set : List Int) (h : clashB cs set = false) (hu : firstU cs set = none) : unitsF cs set = (set, false) := by
  unfold unitsF; rw [goOn, h, if_neg (by simp), hu]
theorem units_some (cs : List (List Int)) (set : List Int) (x : Int) (h : clashB cs set = false) (hu : firstU cs set = some x) : unitsF cs set = unitsF cs (set ++ [x]) := by
  unfold unitsF
  have h1 := open_lt cs set x hu
  have h2 := open_len cs set
  rw [goOn, h, if_neg (by simp), hu]
  exact (goOn_more cs.length cs (set ++ [x]) (by omega)).symm

/-- The clauses that have come to one literal, and the clash, as the walk keeps them. -/
structure Kept (cs : List (List Int)) (set : List Int) (ready : List Nat) (clash : Bool) : Prop where
  clash_eq : clash = zeroB cs set
  ones : ∀ i c, cs[i]? = some c → (leftL c set).length = 1 → heldB c set = true ∨ i ∈ ready
  few : ∀ i ∈ ready, ∃ c, cs[i]? = some c ∧ (leftL c set).length ≤ 1
theorem findSome_at {α β : Type} (f : α → Option β) : ∀ (l : List α) (i : Nat) (a : α) (b : β), l[i]? = some a → f a = some b → (∀ j c, j < i → l[j]? = some c → f c = none) → l.findSome? f = some b
  | [], i, a, b, h, _, _ => by simp at h
  | x :: l, 0, a, b, h, hf, _ => by
    obtain rfl : x = a := by simpa using h
    rw [List.findSome?_cons, hf]
  | x :: l, i + 1, a, b, h, hf, hn => by
    rw [List.findSome?_cons, hn 0 x (by omega) rfl]
    exact findSome_at f l i a b (by simpa using h) hf fun j c hj hc => hn (j + 1) c (by omega) (by simpa using hc)
theorem Kept.first {cs : List (List Int)} {set : List Int} {ready : List Nat} {i : Nat} {c : List Int} (h : Kept cs set ready false) (hi : i ∈ ready) (hmin : ∀ j ∈ ready, i ≤ j) (hc : cs[i]? = some c) (hh : heldB c set = false) :
    ∃ x, leftL c set = [x] ∧ firstU cs set = some x := by
  obtain ⟨c', hc', hl⟩ := h.few i hi
  obtain rfl : c = c' := Option.some.inj (hc.symm.trans hc')
  have hz : (leftL c set).length ≠ 0 := fun e => by
    have h1 := h.clash_eq
    unfold zeroB at h1
    have : (cs.any fun c => decide ((leftL c set).length = 0)) = true := List.any_eq_true.2 ⟨c, List.mem_of_getElem? hc, decide_eq_true e⟩
    rw [this, Bool.or_true] at h1
    cases h1
  obtain ⟨x, hx⟩ := List.length_eq_one_iff.1 (show (leftL c set).length = 1 by omega)
  refine ⟨x, hx, findSome_at _ cs i c x hc ((unitOf_some c set x).2 ⟨hh, hx⟩) fun j d hj hd => ?_⟩
  cases hu : unitOf d set with
  | none => rfl
  | some y =>
    obtain ⟨h1, h2⟩ := (unitOf_some d set y).1 hu
    rcases h.ones j d hd (by rw [h2]; rfl) with h3 | h3
    · rw [h1] at h3; cases h3
    · have := hmin j h3; omega
theorem Kept.none {cs : List (List Int)} {set : List Int} (h : Kept cs set [] false) : firstU cs set = none := by
  unfold firstU
  rw [List.findSome?_eq_none_iff]
  intro c hc
  cases hu : unitOf c set with
  | none => rfl
  | some y =>
    obtain ⟨h1, h2⟩ := (unitOf_some c set y).1 hu
    obtain ⟨i, hi, e⟩ := List.getElem_of_mem hc
    rcases h.ones i c (by rw [List.getElem?_eq_getElem hi, e]) (by rw [h2]; rfl) with h3 | h3
    · rw [h1] at h3; cases h3
    · simp at h3
theorem Kept.drop {cs : List (List Int)} {set : List Int} {ready rest : List Nat} {b : Bool} {i : Nat} {c : List Int} (h : Kept cs set ready b) (hc : cs[i]? = some c) (hh : heldB c set = true) (hr : ∀ j, j ∈ rest → j ∈ ready) (hr2 : ∀ j ∈ ready, j = i ∨ j ∈ rest) : Kept cs set rest b :=
  ⟨h.clash_eq, fun j d hd h1 => by
    rcases h.ones j d hd h1 with h2 | h2
    · exact .inl h2
    · rcases hr2 j h2 with rfl | h3
      · obtain rfl : c = d := Option.some.inj (hc.symm.trans hd)
        exact .inl hh
      · exact .inr h3, fun j hj => h.few j (hr j hj)⟩
/-- A literal more strikes its opposite from the clauses that have it. -/
theorem left_snoc (c set : List Int) (x : Int) (hx : x ∉ set) : (leftL c (set ++ [x])).length = (leftL c set).length - (if -x ∈ c then 1 else 0) := by
  have h1 : ∀ y, y ∈ leftL c (set ++ [x]) ↔ y ∈ (leftL c set).erase (-x) := fun y => by
    rw [(left_nodup c set).mem_erase_iff, mem_left, mem_left]
    constructor
    · rintro ⟨hy, hn⟩
      simp at hn
      exact ⟨fun e => hn.2 (by omega), hy, hn.1⟩
    · rintro ⟨hne, hy, hn⟩
      refine ⟨hy, ?_⟩
      simp
      exact ⟨hn, fun e => hne (by omega)⟩
  rw [nodup_len _ _ (left_nodup c _) ((left_nodup c set).erase _) h1]
  by_cases hc : -x ∈ c
  · rw [if_pos hc, List.length_erase_of_mem ((mem_left c set (-x)).2 ⟨hc, by rw [Int.neg_neg]; exact hx⟩)]
  · rw [if_neg hc, List.erase_of_not_mem (fun h => hc ((mem_left c set (-x)).1 h).1)]; rfl
theorem Kept.add {cs : List (List Int)} {set : List Int} {ready ready' : List Nat} {b b' : Bool} (x : Int) (hx : x ∉ set) (h0 : x ≠ 0) (h : Kept cs set ready b)
    (hr : ∀ j, j ∈ ready' ↔ j ∈ ready ∨ ∃ c, cs[j]? = some c ∧ -x ∈ c ∧ (leftL c (set ++ [x])).length = 1)
    (hb : b' = (b || decide (-x ∈ set) || cs.any fun c => decide (-x ∈ c) && decide ((leftL c (set ++ [x])).length = 0))) : Kept cs (set ++ [x]) ready' b' := by
  refine ⟨?_, fun j d hd h1 => ?_, fun j hj => ?_⟩
  · rw [hb, h.clash_eq]
    unfold zeroB
    have hp : pairB (set ++ [x]) = (pairB set || decide (-x ∈ set)) := by
      rw [Bool.eq_iff_iff, Bool.or_eq_true, pairB_iff, pairB_iff, decide_eq_true_eq]
      constructor
      · rintro ⟨y, hy, hn⟩
        simp at hy hn
        rcases hy with hy | rfl
        · rcases hn with hn | hn
          · exact .inl ⟨y, hy, hn⟩
          · exact .inr (by rw [← hn, Int.neg_neg]; exact hy)
        · rcases hn with hn | hn
          · exact .inr hn
          · omega
      · rintro (⟨y, hy, hn⟩ | hn)
        · exact ⟨y, by simp [hy], by simp [hn]⟩
        · exact ⟨x, by simp, by simp [hn]⟩
    have hz : (cs.any fun c => decide ((leftL c (set ++ [x])).length = 0)) = ((cs.any fun c => decide ((leftL c set).length = 0)) || cs.any fun c => decide (-x ∈ c) && decide ((leftL c (set ++ [x])).length = 0)) := by
      rw [Bool.eq_iff_iff, Bool.or_eq_true, List.any_eq_true, List.any_eq_true, List.any_eq_true]
      constructor
      · rintro ⟨c, hc, h1⟩
        by_cases hn : -x ∈ c
        · exact .inr ⟨c, hc, by rw [h1, decide_eq_true hn]; rfl⟩
        · have := left_snoc c set x hx
          rw [if_neg hn] at this
          exact .inl ⟨c, hc, by rw [decide_eq_true_eq] at h1 ⊢; omega⟩
      · rintro (⟨c, hc, h1⟩ | ⟨c, hc, h1⟩)
        · have := left_snoc c set x hx
          exact ⟨c, hc, by rw [decide_eq_true_eq] at h1 ⊢; omega⟩
        · rw [Bool.and_eq_true] at h1
          exact ⟨c, hc, h1.2⟩
    rw [hp, hz]
    cases pairB set <;> cases decide (-x ∈ set) <;> cases (cs.any fun c => decide ((leftL c set).length = 0)) <;> simp
  · have hs := left_snoc d set x hx
    by_cases hn : -x ∈ d
    · exact .inr ((hr j).2 (.inr ⟨d, hd, hn, h1⟩))
    · rw [if_neg hn] at hs
      rcases h.ones j d hd (by omega) with h2 | h2
      · exact .inl (held_mono d set x h2)
      · exact .inr ((hr j).2 (.inl h2))
  · rcases (hr j).1 hj with h2 | ⟨c, hc, _, h1⟩
    · obtain ⟨c, hc, hl⟩ := h.few j h2
      have := left_snoc c set x hx
      exact ⟨c, hc, by omega⟩
    · exact ⟨c, hc, by omega⟩
end Go.Proofs.Ytapaoccpbcjgeaa.Cnf

/- Models of formulas; what units set holds in all of them. No program here. -/
namespace Go.Proofs.Ytapaoccpbcjgeaa.Cnf

def trueB (m : List Bool) (x : Int) : Bool := m.getD ((absI x).toNat - 1) false == decide (0 < x)
theorem true_neg (m : List Bool) (x : Int) (h : x ≠ 0) : trueB m (-x) = !trueB m x := by
  unfold trueB
  rw [absI_neg]
  by_cases h1 : 0 < x
  · rw [decide_eq_true h1, decide_eq_false (by omega)]
    cases m.getD ((absI x).toNat - 1) false <;> rfl
  · rw [decide_eq_false h1, decide_eq_true (by omega)]
    cases m.getD ((absI x).toNat - 1) false <;> rfl
def holdB (m : List Bool) (cs : List (List Int)) : Bool := cs.all fun c => c.any (trueB m)
theorem holdB_iff (m : List Bool) (cs : List (List Int)) : holdB m cs = true ↔ ∀ c ∈ cs, ∃ x ∈ c, trueB m x = true := by
  unfold holdB
  rw [List.all_eq_true]
  constructor
  · intro h c hc; exact List.any_eq_true.1 (h c hc)
  · intro h c hc; exact List.any_eq_true.2 (h c hc)
theorem sound_clash (m : List Bool) (cs : List (List Int)) (set : List Int) (hm : holdB m cs = true) (hs : ∀ x ∈ set, trueB m x = true) (h0 : ∀ c ∈ cs, ∀ x ∈ c, x ≠ 0) (h1 : ∀ x ∈ set, x ≠ 0) : clashB cs set = false := by
  rw [clash_zero]
  unfold zeroB
  rw [Bool.or_eq_false_iff]
  constructor
  · rw [Bool.eq_false_iff]
    intro h
    obtain ⟨x, hx, hn⟩ := (pairB_iff set).1 h
    have := hs _ hn
    rw [true_neg m x (h1 x hx), hs x hx] at this
    cases this
  · rw [List.any_eq_false]
    intro c hc h
    obtain ⟨x, hx, ht⟩ := (holdB_iff m cs).1 hm c hc
    have e : leftL c set = [] := List.eq_nil_of_length_eq_zero (of_decide_eq_true h)
    have hn : x ∉ leftL c set := by rw [e]; simp
    rw [mem_left] at hn
    have hxs : -x ∈ set := Classical.byContradiction fun h2 => hn ⟨hx, h2⟩
    have := hs _ hxs
    rw [true_neg m x (h0 c hc x hx), ht] at this
    cases this
theorem first_in (cs : List (List Int)) (set : List Int) (x : Int) (h : firstU cs set = some x) : ∃ c ∈ cs, leftL c set = [x] := by
  unfold firstU at h
  obtain ⟨c, hc, hu⟩ := List.exists_of_findSome?_eq_some h
  exact ⟨c, hc, ((unitOf_some c set x).1 hu).2⟩
theorem sound_on (m : List Bool) (cs : List (List Int)) (hm : holdB m cs = true) (h0 : ∀ c ∈ cs, ∀ x ∈ c, x ≠ 0) : ∀ (f : Nat) (set : List Int), (∀ x ∈ set, trueB m x = true) → (∀ x ∈ set, x ≠ 0) → (∀ x ∈ (goOn f cs set).1, trueB m x = true) ∧ (goOn f cs set).2 = false
  | 0, set, hs, h1 => ⟨hs, sound_clash m cs set hm hs h0 h1⟩
  | f + 1, set, hs, h1 => by
    have hc := sound_clash m cs set hm hs h0 h1
    rw [goOn, hc, if_neg (by simp)]
    cases hu : firstU cs set with
    | none => exact ⟨hs, rfl⟩
    | some x =>
      obtain ⟨c, hcm, hl⟩ := first_in cs set x hu
      obtain ⟨y, hy, ht⟩ := (holdB_iff m cs).1 hm c hcm
      have hyx : y = x := by
        have : y ∈ leftL c set := (mem_left c set y).2 ⟨hy, fun hn => by
          have := hs _ hn
          rw [true_neg m y (h0 c hcm y hy), ht] at this
          cases this⟩
        rw [hl] at this
        simpa using this
      subst hyx
      refine sound_on m cs hm h0 f (set ++ [y]) (fun z hz => ?_) fun z hz => ?_
      · rcases List.mem_append.1 hz with h2 | h2
        · exact hs z h2
        · rw [List.mem_singleton.1 h2]; exact ht
      · rcases List.mem_append.1 hz with h2 | h2
        · exact h1 z h2
        · rw [List.mem_singleton.1 h2]; exact h0 c hcm y hy
theorem units_sound (m : List Bool) (cs : List (List Int)) (lits : List Int) (hm : holdB m cs = true) (h0 : ∀ c ∈ cs, ∀ x ∈ c, x ≠ 0) (hs : ∀ x ∈ lits, trueB m x = true) (h1 : ∀ x ∈ lits, x ≠ 0) :
    (∀ x ∈ (unitsF cs (firstsI lits)).1, trueB m x = true) ∧ (unitsF cs (firstsI lits)).2 = false :=
  sound_on m cs hm h0 _ _ (fun x hx => hs x ((mem_firstsI lits x).1 hx)) fun x hx => h1 x ((mem_firstsI lits x).1 hx)
theorem both_holds (m : List Bool) (c : List Int) (h0 : ∀ x ∈ c, x ≠ 0) (h : bothB c = true) : c.any (trueB m) = true := by
  obtain ⟨x, hx, hn⟩ := (bothB_iff c).1 h
  rw [List.any_eq_true]
  cases ht : trueB m x
  · exact ⟨-x, hn, by rw [true_neg m x (h0 x hx), ht]; rfl⟩
  · exact ⟨x, hx, ht⟩
theorem norm_holds (m : List Bool) (c l : List Int) (h : IsNorm c l) : l.any (trueB m) = c.any (trueB m) := by
  rw [Bool.eq_iff_iff, List.any_eq_true, List.any_eq_true]
  constructor
  · rintro ⟨x, hx, ht⟩; exact ⟨x, (h.mem x).1 hx, ht⟩
  · rintro ⟨x, hx, ht⟩; exact ⟨x, (h.mem x).2 hx, ht⟩
end Go.Proofs.Ytapaoccpbcjgeaa.Cnf

/- A heap in a row of numbers: put behind and brought up; taken off and brought down. No program here. -/
namespace Go.Proofs.Ytapaoccpbcjgeaa.Cnf

def at_ (h : List Int) (k : Nat) : Int := h.getD k 0
def sw (h : List Int) (i j : Nat) : List Int := (h.set i (at_ h j)).set j (at_ h i)
theorem sw_len (h : List Int) (i j : Nat) : (sw h i j).length = h.length := by simp [sw]
theorem sw_at (h : List Int) (i j k : Nat) (hi : i < h.length) (hj : j < h.length) : at_ (sw h i j) k = if k = j then at_ h i else if k = i then at_ h j else at_ h k := by
  unfold sw at_
  by_cases h1 : k = j
  · subst h1; simp [List.getD, hj]
  · by_cases h2 : k = i
    · subst h2; simp [List.getD, hi, h1, Ne.symm h1]
    · simp [List.getD, h1, h2, Ne.symm h1, Ne.symm h2]
theorem mem_at (h : List Int) (x : Int) : x ∈ h ↔ ∃ k, k < h.length ∧ at_ h k = x := by
  rw [List.mem_iff_getElem]
  constructor
  · rintro ⟨k, hk, e⟩; exact ⟨k, hk, by unfold at_; simp [List.getD, hk, e]⟩
  · rintro ⟨k, hk, e⟩; exact ⟨k, hk, by unfold at_ at e; simpa [List.getD, hk] using e⟩
theorem sw_mem (h : List Int) (i j : Nat) (hi : i < h.length) (hj : j < h.length) (x : Int) : x ∈ sw h i j ↔ x ∈ h := by
  rw [mem_at, mem_at, sw_len]
  constructor
  · rintro ⟨k, hk, e⟩
    rw [sw_at h i j k hi hj] at e
    by_cases h1 : k = j
    · rw [if_pos h1] at e; exact ⟨i, hi, e⟩
    · rw [if_neg h1] at e
      by_cases h2 : k = i
      · rw [if_pos h2] at e; exact ⟨j, hj, e⟩
      · rw [if_neg h2] at e; exact ⟨k, hk, e⟩
  · rintro ⟨k, hk, e⟩
    by_cases h1 : k = i
    · exact ⟨j, hj, by rw [sw_at h i j j hi hj, if_pos rfl, ← h1]; exact e⟩
    · by_cases h2 : k = j
      · refine ⟨i, hi, ?_⟩
        rw [sw_at h i j i hi hj]
        by_cases h3 : i = j
        · rw [if_pos h3, h3, ← h2]; exact e
        · rw [if_neg h3, if_pos rfl, ← h2]; exact e
      · exact ⟨k, hk, by rw [sw_at h i j k hi hj, if_neg h2, if_neg h1]; exact e⟩
/-- The first n are a heap. -/
def Heaped (h : List Int) (n : Nat) : Prop := ∀ k, 0 < k → k < n → at_ h ((k - 1) / 2) ≤ at_ h k
theorem Heaped.root {h : List Int} {n : Nat} (H : Heaped h n) : ∀ k, k < n → at_ h 0 ≤ at_ h k := by
  intro k
  induction k using Nat.strongRecOn with
  | _ k ih =>
    intro hk
    rcases Nat.eq_zero_or_pos k with rfl | h0
    · exact Int.le_refl _
    · have h1 := ih ((k - 1) / 2) (by omega) (by omega)
      have h2 := H k h0 hk
      omega
/-- A heap but for the place j, which may be too small. -/
structure UpOk (h : List Int) (j : Nat) : Prop where
  others : ∀ k, 0 < k → k < h.length → k ≠ j → at_ h ((k - 1) / 2) ≤ at_ h k
  over : ∀ k, 0 < k → k < h.length → (k - 1) / 2 = j → 0 < j → at_ h ((j - 1) / 2) ≤ at_ h k
theorem UpOk.start {h : List Int} (x : Int) (H : Heaped h h.length) : UpOk (h ++ [x]) h.length := by
  have e : ∀ k, k < h.length → at_ (h ++ [x]) k = at_ h k := fun k hk => by unfold at_; simp [List.getD, List.getElem?_append_left hk]
  refine ⟨fun k h0 hk hne => ?_, fun k h0 hk hp _ => ?_⟩
  · simp at hk
    rw [e k (by omega), e ((k - 1) / 2) (by omega)]
    exact H k h0 (by omega)
  · simp at hk; omega
theorem UpOk.step {h : List Int} {j : Nat} (H : UpOk h j) (h0 : 0 < j) (hj : j < h.length) (hlt : at_ h j < at_ h ((j - 1) / 2)) : UpOk (sw h j ((j - 1) / 2)) ((j - 1) / 2) := by
  obtain ⟨p, hp⟩ : ∃ p, p = (j - 1) / 2 := ⟨_, rfl⟩
  rw [← hp] at hlt ⊢
  have hpl : p < h.length := by omega
  have hs : ∀ k, at_ (sw h j p) k = if k = p then at_ h j else if k = j then at_ h p else at_ h k := fun k => sw_at h j p k hj hpl
  refine ⟨fun k k0 hk hne => ?_, fun k k0 hk hkp p0 => ?_⟩
  · rw [sw_len] at hk
    rw [hs, hs k, if_neg hne]
    by_cases hkj : k = j
    · subst hkj
      rw [if_pos rfl, if_pos hp.symm]
      omega
    · rw [if_neg hkj]
      by_cases h1 : (k - 1) / 2 = p
      · rw [if_pos h1]
        have := H.others k k0 hk hkj
        rw [h1] at this
        omega
      · rw [if_neg h1]
        by_cases h2 : (k - 1) / 2 = j
        · rw [if_pos h2]
          have := H.over k k0 hk h2 h0
          rw [← hp] at this
          exact this
        · rw [if_neg h2]
          exact H.others k k0 hk hkj
  · rw [sw_len] at hk
    have hpj : p ≠ j := by omega
    have h1 := H.others p p0 hpl hpj
    have hk1 : k ≠ p := by omega
    rw [hs, hs k, if_neg (by omega), if_neg (by omega), if_neg hk1]
    by_cases hkj : k = j
    · rw [if_pos hkj]; exact h1
    · rw [if_neg hkj]
      have := H.others k k0 hk hkj
      rw [hkp] at this
      omega
theorem UpOk.done {h : List Int} {j : Nat} (H : UpOk h j) (hd : j = 0 ∨ at_ h ((j - 1) / 2) ≤ at_ h j) : Heaped h h.length := by
  intro k k0 hk
  by_cases hkj : k = j
  · subst hkj
    rcases hd with h1 | h1
    · omega
    · exact h1
  · exact H.others k k0 hk hkj
/-- The first n are a heap but for the place i, which may be too great. -/
structure DownOk (h : List Int) (i n : Nat) : Prop where
  others : ∀ k, 0 < k → k < n → (k - 1) / 2 ≠ i → at_ h ((k - 1) / 2) ≤ at_ h k
  over : ∀ k, 0 < k → k < n → (k - 1) / 2 = i → 0 < i → at_ h ((i - 1) / 2) ≤ at_ h k
theorem DownOk.start {h : List Int} {n : Nat} (H : Heaped h (n + 1)) (hl : h.length = n + 1) : DownOk (sw h 0 n) 0 n := by
  refine ⟨fun k k0 hk hne => ?_, fun k _ _ _ h0 => by omega⟩
  rw [sw_at h 0 n _ (by omega) (by omega), sw_at h 0 n k (by omega) (by omega), if_neg (by omega), if_neg (by omega), if_neg (by omega), if_neg (by omega)]
  exact H k k0 (by omega)
theorem DownOk.step {h : List Int} {i n j : Nat} (H : DownOk h i n) (hn : n ≤ h.length) (hj : j = 2 * i + 1 ∨ j = 2 * i + 2) (hjn : j < n)
    (hmin : ∀ k, (k = 2 * i + 1 ∨ k = 2 * i + 2) → k < n → at_ h j ≤ at_ h k) (hlt : at_ h j < at_ h i) : DownOk (sw h i j) j n := by
  have hs : ∀ k, at_ (sw h i j) k = if k = j then at_ h i else if k = i then at_ h j else at_ h k := fun k => sw_at h i j k (by omega) (by omega)
  refine ⟨fun k k0 hk hne => ?_, fun k k0 hk hkp j0 => ?_⟩
  · rw [hs, hs k, if_neg hne]
    by_cases h1 : (k - 1) / 2 = i
    · rw [if_pos h1]
      by_cases hkj : k = j
      · rw [if_pos hkj]; omega
      · rw [if_neg hkj, if_neg (by omega)]
        exact hmin k (by omega) hk
    · rw [if_neg h1]
      by_cases hki : k = i
      · subst hki
        rw [if_neg (by omega), if_pos rfl]
        exact H.over j (by omega) hjn (by omega) k0
      · rw [if_neg (by omega), if_neg hki]
        exact H.others k k0 hk h1
  · have hij : (j - 1) / 2 = i := by omega
    rw [hij, hs, hs k, if_neg (by omega), if_pos rfl, if_neg (by omega), if_neg (by omega)]
    have := H.others k k0 hk (by omega)
    rw [hkp] at this
    exact this
theorem DownOk.done {h : List Int} {i n : Nat} (H : DownOk h i n) (hd : ∀ k, (k = 2 * i + 1 ∨ k = 2 * i + 2) → k < n → at_ h i ≤ at_ h k) : Heaped h n := by
  intro k k0 hk
  by_cases h1 : (k - 1) / 2 = i
  · rw [h1]; exact hd k (by omega) hk
  · exact H.others k k0 hk h1
theorem take_at (h : List Int) (n k : Nat) (hk : k < n) : at_ (h.take n) k = at_ h k := by unfold at_; simp [List.getD, hk]
theorem Heaped.take {h : List Int} {n : Nat} (H : Heaped h n) (hn : n ≤ h.length) : Heaped (h.take n) (h.take n).length := by
  rw [List.length_take, Nat.min_eq_left hn]
  intro k k0 hk
  rw [take_at h n k hk, take_at h n _ (by omega)]
  exact H k k0 hk
end Go.Proofs.Ytapaoccpbcjgeaa.Cnf

/- cnf: what slices.Compact leaves of a sorted clause. -/
namespace Go.Proofs.Ytapaoccpbcjgeaa.Cnf

theorem cmp_both {a b : Int} (h1 : cmpN a b ≤ 0) (h2 : cmpN b a ≤ 0) : a = b := by
  have e1 := cmpN_neg a b
  have e2 := cmpN_neg b a
  exact (cmpN_zero a b).1 (by omega)
theorem norml_snoc {l : List Int} {x : Int} (hl : Norml l) (h : ∀ y ∈ l, cmpN y x < 0) : Norml (l ++ [x]) := by
  unfold Norml at *
  rw [List.pairwise_append]
  exact ⟨hl, List.pairwise_singleton _ _, fun y hy z hz => by rw [List.mem_singleton] at hz; subst hz; exact h y hy⟩
theorem upto_norm (d : Array Int) (h : ∀ i j, i < j → j < d.size → cmpN d[i]! d[j]! ≤ 0) : ∀ m, m ≤ d.size → Norml (Go.Lib.compactUpTo d m) ∧ ∀ x, x ∈ Go.Lib.compactUpTo d m ↔ ∃ j, j < m ∧ d[j]! = x
  | 0, _ => by
    refine ⟨by simp [Go.Lib.compactUpTo, Norml], fun x => ?_⟩
    simp [Go.Lib.compactUpTo]
  | m + 1, hm => by
    obtain ⟨h1, h2⟩ := upto_norm d h m (by omega)
    rw [Go.Lib.compactUpTo_succ]
    cases hk : Go.Lib.keeps d m
    · rw [if_neg (by simp), List.append_nil]
      have hk2 : m ≠ 0 ∧ d[m]! = d[m - 1]! := by
        unfold Go.Lib.keeps at hk
        rw [decide_eq_false_iff_not] at hk
        constructor
        · intro e; exact hk (.inl e)
        · exact Classical.byContradiction fun e => hk (.inr e)
      refine ⟨h1, fun x => ?_⟩
      rw [h2]
      constructor
      · rintro ⟨j, hj, e⟩; exact ⟨j, by omega, e⟩
      · rintro ⟨j, hj, e⟩
        by_cases hjm : j = m
        · subst hjm; exact ⟨j - 1, by omega, by rw [← hk2.2]; exact e⟩
        · exact ⟨j, by omega, e⟩
    · rw [if_pos rfl]
      refine ⟨norml_snoc h1 fun y hy => ?_, fun x => ?_⟩
      · obtain ⟨j, hj, rfl⟩ := (h2 y).1 hy
        have hle := h j m hj (by omega)
        have hne : cmpN d[j]! d[m]! ≠ 0 := fun e => by
          have e2 := (cmpN_zero _ _).1 e
          have hk2 : d[m]! ≠ d[m - 1]! := by
            unfold Go.Lib.keeps at hk
            rw [decide_eq_true_eq] at hk
            rcases hk with e0 | e0
            · omega
            · exact e0
          have a1 : cmpN d[m - 1]! d[m]! ≤ 0 := h (m - 1) m (by omega) (by omega)
          by_cases hjm : j = m - 1
          · subst hjm; exact hk2 e2.symm
          · have a2 : cmpN d[j]! d[m - 1]! ≤ 0 := h j (m - 1) (by omega) (by omega)
            rw [e2] at a2
            exact hk2 (cmp_both a2 a1)
        omega
      · rw [List.mem_append, List.mem_singleton, h2]
        constructor
        · rintro (⟨j, hj, e⟩ | e)
          · exact ⟨j, by omega, e⟩
          · exact ⟨m, by omega, e.symm⟩
        · rintro ⟨j, hj, e⟩
          by_cases hjm : j = m
          · subst hjm; exact .inr e.symm
          · exact .inl ⟨j, by omega, e⟩
/-- A clause sorted and compacted is its normal form. -/
theorem compact_isNorm (c s : List Int) (hp : s.Perm c) (hs : s.Pairwise fun a b => cmpN a b ≤ 0) : IsNorm c (Go.Lib.compact s) := by
  have hd : ∀ i j, i < j → j < s.toArray.size → cmpN s.toArray[i]! s.toArray[j]! ≤ 0 := fun i j hij hj => by
    have hj' : j < s.length := by simpa using hj
    rw [getElem!_pos s.toArray j hj, getElem!_pos s.toArray i (by omega)]
    exact List.pairwise_iff_getElem.1 hs i j (by omega) hj' hij
  obtain ⟨h1, h2⟩ := upto_norm s.toArray hd s.length (by simp)
  refine ⟨h1, fun x => ?_⟩
  rw [← hp.mem_iff]
  refine (h2 x).trans ?_
  rw [List.mem_iff_getElem]
  constructor
  · rintro ⟨j, hj, e⟩
    rw [getElem!_pos s.toArray j (by simpa using hj)] at e
    exact ⟨j, hj, by simpa using e⟩
  · rintro ⟨j, hj, e⟩
    refine ⟨j, hj, ?_⟩
    rw [getElem!_pos s.toArray j (by simpa using hj)]
    simpa using e
end Go.Proofs.Ytapaoccpbcjgeaa.Cnf
