/- drv: Sort: who needs each, while that grows. -/
import Derived.Test.YtbniilajffjfcaaGreatDoorDmD6
import Derived.Lib.SmallJoins
set_option linter.unusedVariables false
set_option linter.unusedSimpArgs false
namespace Go.Proofs.YtbniilajffjfcaaGreatDoor
open Go.RowKit Go.BigFrame Go.Maps
open Drv (posO edges edgeAt dupB stepS sortS cntO Wt Ordered)

theorem nodup_cover : ∀ (m l : List Int), m.Nodup → (∀ x ∈ m, x ∈ l) → l.length ≤ m.length → l.Nodup ∧ ∀ x ∈ l, x ∈ m
  | [], l, _, _, h => by
    obtain rfl : l = [] := List.eq_nil_of_length_eq_zero (by simpa using h)
    simp
  | y :: m, l, hm, hs, hl => by
    rw [List.nodup_cons] at hm
    obtain ⟨a, b, rfl⟩ := List.append_of_mem (hs y (by simp))
    have hs' : ∀ x ∈ m, x ∈ a ++ b := fun x hx => by
      have h := hs x (by simp [hx])
      have hne : ¬ x = y := fun e => hm.1 (e ▸ hx)
      simp [hne] at h ⊢
      exact h
    obtain ⟨h1, h2⟩ := nodup_cover m (a ++ b) hm.2 hs' (by simp at hl ⊢; omega)
    have hy : y ∉ a ++ b := fun h => hm.1 (h2 y h)
    have hp : (a ++ y :: b).Perm (y :: (a ++ b)) := List.perm_middle
    refine ⟨hp.nodup_iff.2 (List.nodup_cons.2 ⟨hy, h1⟩), fun x hx => ?_⟩
    rcases List.mem_cons.1 (hp.mem_iff.1 hx) with h | h
    · exact List.mem_cons.2 (.inl h)
    · exact List.mem_cons.2 (.inr (h2 x h))
/-- Who needs each: i places have been looked at whole, and k of the next one's. -/
structure UsC (n : Nat) (E : Nat → List Nat) (i k : Nat) (uss : List (List Nat)) : Prop where
  cnt : ∀ q r, q < n → (uss.getD q []).count r = if r < i then (E r).count q else if r = i then ((E i).take k).count q else 0
  len : ∀ q, q < n → (uss.getD q []).length ≤ i * 100000 + k
theorem UsC.start (n : Nat) (E : Nat → List Nat) : UsC n E 0 0 (List.replicate n []) := by
  have h : ∀ q, (List.replicate n ([] : List Nat)).getD q [] = [] := fun q => by by_cases c : q < n <;> simp [List.getD, c]
  exact ⟨fun q r hq => by rw [h]; simp, fun q hq => by rw [h]; simp⟩
theorem UsC.next {n : Nat} {E : Nat → List Nat} {i k : Nat} {uss : List (List Nat)} (H : UsC n E i k uss) (hk : k = (E i).length) (hl : k ≤ 100000) : UsC n E (i + 1) 0 uss := by
  refine ⟨fun q r hq => ?_, fun q hq => Nat.le_trans (H.len q hq) (by omega)⟩
  rw [H.cnt q r hq]
  by_cases h1 : r < i
  · rw [if_pos h1, if_pos (by omega)]
  · by_cases h2 : r = i
    · rw [if_neg h1, if_pos h2, if_pos (by omega), List.take_of_length_le (by omega), h2]
    · rw [if_neg h1, if_neg h2, if_neg (by omega)]
      by_cases h3 : r = i + 1
      · rw [if_pos h3]; simp
      · rw [if_neg h3]
theorem getD_setL (uss : List (List Nat)) (j q : Nat) (x : List Nat) (hj : j < uss.length) : (uss.set j x).getD q [] = if q = j then x else uss.getD q [] := by
  rw [List.getD_eq_getElem?_getD, List.getD_eq_getElem?_getD, List.getElem?_set]
  by_cases h : j = q
  · rw [if_pos h, if_pos h.symm, if_pos (by omega)]; rfl
  · rw [if_neg h, if_neg (fun e => h e.symm)]
theorem UsC.step {n : Nat} {E : Nat → List Nat} {i k : Nat} {uss : List (List Nat)} (H : UsC n E i k uss) (hl : uss.length = n) {j : Nat} (hk : (E i)[k]? = some j) (hj : j < n) : UsC n E i (k + 1) (uss.set j (uss.getD j [] ++ [i])) := by
  have ht : (E i).take (k + 1) = (E i).take k ++ [j] := Drv.take_snoc _ _ _ hk
  refine ⟨fun q r hq => ?_, fun q hq => ?_⟩
  · rw [getD_setL _ _ _ _ (by omega), ht]
    by_cases e : q = j
    · rw [if_pos e, List.count_append, H.cnt j r hj, e]
      by_cases h1 : r < i
      · rw [if_pos h1, if_pos h1, List.count_singleton]
        have : ¬ i = r := by omega
        simp [this]
      · by_cases h2 : r = i
        · rw [if_neg h1, if_pos h2, if_neg h1, if_pos h2, List.count_append, h2]; simp
        · rw [if_neg h1, if_neg h2, if_neg h1, if_neg h2, List.count_singleton]
          have : ¬ i = r := fun h => h2 h.symm
          simp [this]
    · rw [if_neg e, H.cnt q r hq]
      by_cases h1 : r < i
      · rw [if_pos h1, if_pos h1]
      · by_cases h2 : r = i
        · rw [if_neg h1, if_pos h2, if_neg h1, if_pos h2, List.count_append, List.count_singleton]
          have : ¬ j = q := fun h => e h.symm
          simp [this]
        · rw [if_neg h1, if_neg h2, if_neg h1, if_neg h2]
  · rw [getD_setL _ _ _ _ (by omega)]
    by_cases e : q = j
    · rw [if_pos e, List.length_append, List.length_singleton]
      have := H.len j hj
      omega
    · rw [if_neg e]
      have := H.len q hq
      omega
/-- The waits so far. -/
structure WsC (n : Nat) (E : Nat → List Nat) (m : Nat) (ws : List Int) : Prop where
  len : ws.length = n
  at_ : ∀ j, j < n → ws.getD j 0 = if j < m then ((E j).length : Int) else 0
theorem WsC.start (n : Nat) (E : Nat → List Nat) : WsC n E 0 (List.replicate n 0) := ⟨by simp, fun j hj => by simp [List.getD, hj]⟩
theorem WsC.step {n : Nat} {E : Nat → List Nat} {m : Nat} {ws : List Int} (H : WsC n E m ws) (hm : m < n) : WsC n E (m + 1) (ws.set m ((E m).length : Int)) := by
  refine ⟨by rw [List.length_set]; exact H.len, fun j hj => ?_⟩
  rw [Drv.getD_set _ _ _ _ (by rw [H.len]; exact hm)]
  by_cases e : j = m
  · rw [if_pos e, if_pos (by omega), e]
  · rw [if_neg e, H.at_ j hj]
    by_cases c : j < m
    · rw [if_pos c, if_pos (by omega)]
    · rw [if_neg c, if_neg (by omega)]
theorem ints_set' (l : List Int) (i : Nat) (x : Int) : ints (l.set i x) = (ints l).set i (.int .i64 x) := by simp [ints, List.map_set]
/-- The waits and the users in memory. -/
structure UsW (W0 : World) (wb ub n : Nat) (w : World) (ws : List Int) (us : List Value) (uss : List (List Nat)) : Prop where
  wbk : w.heap[wb]? = some (.cells (ints ws).toArray 3 (0, 0))
  ubk : w.heap[ub]? = some (.cells us.toArray 51 (0, 0))
  ul : us.length = n
  sl : uss.length = n
  rows : ∀ q, q < n → w.ownsRow W0.heap.size 3 1 (us.getD q nilS) (uss.getD q []).length (ints (ofN (uss.getD q [])))
  inj : ∀ q r, q < n → r < n → q ≠ r → ∀ k, (us.getD q nilS).ownBlock = some k → (us.getD r nilS).ownBlock ≠ some k
  rest : Ch W0 w (fun b => b = wb ∨ b = ub)
  ord : wb ≠ ub ∧ wb < W0.heap.size ∧ ub < W0.heap.size
theorem UsW.wait {W0 : World} {wb ub n : Nat} {w : World} {ws : List Int} {us : List Value} {uss : List (List Nat)} (H : UsW W0 wb ub n w ws us uss) (i : Nat) (x : Int) : UsW W0 wb ub n (w.setCell ⟨wb, i, none⟩ (.int .i64 x)) (ws.set i x) us uss := by
  obtain ⟨o1, o2, o3⟩ := H.ord
  refine ⟨by rw [blk_set H.wbk i _, ints_set']; simp [List.setIfInBounds_toArray], (Below.heap_setCell _ _ _ _ (show ub ≠ wb from fun e => o1 e.symm)).trans H.ubk, H.ul, H.sl, fun q hq => ownsRow_setCell_other (H.rows q hq) (a := ⟨wb, i, none⟩) (fun e => by have := ((H.rows q hq).lt wb e).1; omega) _, H.inj, H.rest.setCell (p := ⟨wb, i, none⟩) (.inl rfl) _, H.ord⟩
theorem getD_setV (us : List Value) (j q : Nat) (x : Value) (hj : j < us.length) : (us.set j x).getD q nilS = if q = j then x else us.getD q nilS := by
  rw [List.getD_eq_getElem?_getD, List.getD_eq_getElem?_getD, List.getElem?_set]
  by_cases h : j = q
  · rw [if_pos h, if_pos h.symm, if_pos (by omega)]; rfl
  · rw [if_neg h, if_neg (fun e => h e.symm)]
theorem UsW.push {W0 : World} {wb ub n : Nat} {w w1 : World} {ws : List Int} {us : List Value} {uss : List (List Nat)} (H : UsW W0 wb ub n w ws us uss) {j : Nat} (hj : j < n) (o : Obj) {v' : Value} {l2 : List Nat}
    (ho : w1.ownsRow W0.heap.size 3 1 v' l2.length (ints (ofN l2))) (hg : (w.alloc o).grownBy w1 (us.getD j nilS).ownBlock) (hm : Moved (w.alloc o) (us.getD j nilS) v') :
    UsW W0 wb ub n (w1.setCell ⟨ub, j, none⟩ v') ws (us.set j v') (uss.set j l2) := by
  obtain ⟨o1, o2, o3⟩ := H.ord
  have hz := H.rest.size
  have hB : ∀ q, q < n → ∀ k, (us.getD q nilS).ownBlock = some k → W0.heap.size ≤ k := fun q hq k e => ((H.rows q hq).lt k e).1
  have old : ∀ {k : Nat} {ob : Obj}, w.heap[k]? = some ob → (us.getD j nilS).ownBlock ≠ some k → w1.heap[k]? = some ob := fun {k ob} h h1 =>
    (hg.block k (by have := block_lt h; simp; omega) (fun e => h1 e.symm)).trans ((old_block w o k (block_lt h)).trans h)
  have hv' : ∀ k, k < w.heap.size → (us.getD j nilS).ownBlock ≠ some k → v'.ownBlock ≠ some k := fun k hk h => hm.ne (by simp; omega) h
  have hvB : ∀ k, v'.ownBlock = some k → W0.heap.size ≤ k := fun k e => (ho.lt k e).1
  have hwb := old H.wbk (fun e => by have := hB j hj wb e; omega)
  have hub := old H.ubk (fun e => by have := hB j hj ub e; omega)
  refine ⟨(Below.heap_setCell _ _ _ _ (show wb ≠ ub from o1)).trans hwb, by rw [blk_set hub j _]; simp [List.setIfInBounds_toArray], by rw [List.length_set]; exact H.ul, by rw [List.length_set]; exact H.sl, fun q hq => ?_, fun q r hq hr hne k => ?_, ?_, H.ord⟩
  · rw [getD_setV _ _ _ _ (by rw [H.ul]; exact hj), getD_setL _ _ _ _ (by rw [H.sl]; exact hj)]
    by_cases e : q = j
    · rw [if_pos e, if_pos e]
      exact ownsRow_setCell_other ho (a := ⟨ub, j, none⟩) (fun e => by have := hvB ub e; omega) _
    · rw [if_neg e, if_neg e]
      have h1 := (((Ch.refl w (fun k => (us.getD j nilS).ownBlock = some k)).alloc o).grown hg fun k _ h => h).own (H.rows q hq) fun k hk => H.inj q j hq hj e k hk
      exact ownsRow_setCell_other h1 (a := ⟨ub, j, none⟩) (fun e => by have := hB q hq ub e; omega) _
  · rw [getD_setV _ _ _ _ (by rw [H.ul]; exact hj), getD_setV _ _ _ _ (by rw [H.ul]; exact hj)]
    by_cases e : q = j
    · rw [if_pos e, if_neg (fun h => hne (e.trans h.symm))]
      intro hk hr2
      have hlt := ((H.rows r hr).lt k hr2).2
      exact hv' k hlt (fun h => H.inj j r hj hr (fun h2 => hne (e.trans h2)) k h hr2) hk
    · rw [if_neg e]
      by_cases e2 : r = j
      · rw [if_pos e2]
        intro hk
        have hlt := ((H.rows q hq).lt k hk).2
        exact hv' k hlt (H.inj q j hq hj e k hk)
      · rw [if_neg e2]
        exact H.inj q r hq hr hne k
  · exact ((H.rest.alloc o).grown hg fun k hk h => by have := hB j hj k h; omega).setCell (p := ⟨ub, j, none⟩) (.inr rfl) _
end Go.Proofs.YtbniilajffjfcaaGreatDoor

/- Clauses and formulas as plain lists: what may be, normal forms, models; what units set. No program here. -/
namespace Go.Proofs.YtbniilajffjfcaaGreatDoor.Cnf

/-- Is x a literal of a variable from 1 to v? -/
def litB (v x : Int) : Bool := decide (x ≠ 0 ∧ -v ≤ x ∧ x ≤ v)
def countN (cs : List (List Int)) : Nat := (cs.map List.length).sum
def absI (x : Int) : Int := max x (-x)
theorem absI_neg (x : Int) : absI (-x) = absI x := by unfold absI; omega
theorem absI_eq (x y : Int) : absI x = absI y ↔ (x = y ∨ x = -y) := by unfold absI; omega
/-- How two literals are told apart in a normal form. -/
def cmpN (a b : Int) : Int := if absI a - absI b ≠ 0 then absI a - absI b else b - a
theorem cmpN_zero (a b : Int) : cmpN a b = 0 ↔ a = b := by
  unfold cmpN absI
  split <;> omega
theorem cmpN_neg (a b : Int) : cmpN a b < 0 ↔ 0 < cmpN b a := by
  unfold cmpN absI
  split <;> split <;> omega
theorem cmpN_trans (a b c : Int) (h1 : cmpN a b < 0) (h2 : cmpN b c < 0) : cmpN a c < 0 := by
  unfold cmpN absI at *
  split at h1 <;> split at h2 <;> split <;> omega
theorem cmpN_le_trans (a b c : Int) (h1 : cmpN a b ≤ 0) (h2 : cmpN b c ≤ 0) : cmpN a c ≤ 0 := by
  unfold cmpN absI at *
  split at h1 <;> split at h2 <;> split <;> omega
/-- A normal form: each literal once, in order. -/
def Norml (l : List Int) : Prop := l.Pairwise fun a b => cmpN a b < 0
theorem norml_unique : ∀ (l m : List Int), Norml l → Norml m → (∀ x, x ∈ l ↔ x ∈ m) → l = m
  | [], [], _, _, _ => rfl
  | [], y :: m, _, _, h => by have := (h y).2 (by simp); simp at this
  | x :: l, [], _, _, h => by have := (h x).1 (by simp); simp at this
  | x :: l, y :: m, hl, hm, h => by
    have hl' := List.pairwise_cons.1 hl
    have hm' := List.pairwise_cons.1 hm
    have exy : x = y := by
      have h1 := (h x).1 (by simp)
      have h2 := (h y).2 (by simp)
      rcases List.mem_cons.1 h1 with e | h1
      · exact e
      · rcases List.mem_cons.1 h2 with e | h2
        · exact e.symm
        · have a := hm'.1 x h1
          have b := hl'.1 y h2
          have := (cmpN_neg x y).1 b
          omega
    subst exy
    have hne : ∀ z, z ∈ l → z ≠ x := fun z hz e => by
      subst e
      have := hl'.1 z hz
      have e0 := (cmpN_zero z z).2 rfl
      omega
    have hne2 : ∀ z, z ∈ m → z ≠ x := fun z hz e => by
      subst e
      have := hm'.1 z hz
      have e0 := (cmpN_zero z z).2 rfl
      omega
    rw [norml_unique l m hl'.2 hm'.2 fun z => ⟨fun hz => by
      rcases List.mem_cons.1 ((h z).1 (List.mem_cons_of_mem _ hz)) with e | h3
      · exact absurd e (hne z hz)
      · exact h3, fun hz => by
      rcases List.mem_cons.1 ((h z).2 (List.mem_cons_of_mem _ hz)) with e | h3
      · exact absurd e (hne2 z hz)
      · exact h3⟩]
/-- Each of a row's equal neighbours but the first struck. -/
def compactL : List Int → List Int
  | [] => []
  | [x] => [x]
  | x :: y :: l => if x = y then compactL (y :: l) else x :: compactL (y :: l)
theorem compact_mem : ∀ (l : List Int) (x : Int), x ∈ compactL l ↔ x ∈ l
  | [], x => by simp [compactL]
  | [y], x => by simp [compactL]
  | a :: b :: l, x => by
    have ih := compact_mem (b :: l) x
    unfold compactL
    split
    · rename_i e; subst e; rw [ih]; simp
    · rw [List.mem_cons, ih]; simp
theorem compact_norml : ∀ l : List Int, (l.Pairwise fun a b => cmpN a b ≤ 0) → Norml (compactL l)
  | [], _ => List.Pairwise.nil
  | [x], _ => List.pairwise_singleton _ _
  | a :: b :: l, h => by
    have h' := List.pairwise_cons.1 h
    have ih := compact_norml (b :: l) h'.2
    unfold compactL
    split
    · exact ih
    · rename_i hne
      refine List.pairwise_cons.2 ⟨fun z hz => ?_, ih⟩
      have hz' := (compact_mem (b :: l) z).1 hz
      have h1 := h'.1 z hz'
      have h2 : cmpN a z ≠ 0 := fun e => by
        have e2 := (cmpN_zero a z).1 e
        subst e2
        have hb := h'.1 b (by simp)
        rcases List.mem_cons.1 hz' with e3 | hz3
        · exact hne e3
        · have hba := (List.pairwise_cons.1 h'.2).1 a hz3
          have h3 : cmpN a b = 0 := by
            rcases Int.lt_or_le (cmpN a b) 0 with h4 | h4
            · have := (cmpN_neg a b).1 h4; omega
            · omega
          exact hne ((cmpN_zero a b).1 h3)
      omega
/-- Two opposites in a row. -/
def bothB (c : List Int) : Bool := c.any fun x => c.contains (-x)
theorem bothB_iff (c : List Int) : bothB c = true ↔ ∃ x ∈ c, -x ∈ c := by
  unfold bothB
  rw [List.any_eq_true]
  constructor
  · rintro ⟨x, hx, h⟩; exact ⟨x, hx, by simpa using h⟩
  · rintro ⟨x, hx, h⟩; exact ⟨x, hx, by simpa using h⟩
/-- In a normal form opposites are neighbours. -/
def nextB : List Int → Bool
  | [] => false
  | [_] => false
  | x :: y :: l => decide (y = -x) || nextB (y :: l)
theorem next_both : ∀ l : List Int, Norml l → (∀ x ∈ l, x ≠ 0) → nextB l = bothB l := by
  intro l hl h0
  rw [Bool.eq_iff_iff, bothB_iff]
  constructor
  · intro h
    suffices ∀ m : List Int, nextB m = true → ∃ x ∈ m, -x ∈ m from this l h
    intro m
    induction m with
    | nil => intro h; cases h
    | cons x m ih =>
      cases m with
      | nil => intro h; cases h
      | cons y m =>
        intro h
        unfold nextB at h
        rw [Bool.or_eq_true, decide_eq_true_eq] at h
        rcases h with e | h
        · exact ⟨x, by simp, by rw [← e]; simp⟩
        · obtain ⟨z, hz, hz2⟩ := ih h
          exact ⟨z, List.mem_cons_of_mem _ hz, List.mem_cons_of_mem _ hz2⟩
  · induction l with
    | nil => rintro ⟨x, hx, _⟩; cases hx
    | cons a l ih =>
      have hl' := List.pairwise_cons.1 hl
      intro ⟨x, hx, hx2⟩
      cases l with
      | nil =>
        simp at hx hx2
        have := h0 a (by simp)
        omega
      | cons b l =>
        unfold nextB
        rw [Bool.or_eq_true, decide_eq_true_eq]
        have ih' := ih hl'.2 (fun z hz => h0 z (List.mem_cons_of_mem _ hz))
        by_cases hax : x ∈ b :: l ∧ -x ∈ b :: l
        · exact .inr (ih' ⟨x, hax.1, hax.2⟩)
        · -- one of both is the first
          have hbx : ∃ z, z ∈ b :: l ∧ z = -a := by
            rcases List.mem_cons.1 hx with e | h1
            · subst e
              rcases List.mem_cons.1 hx2 with e2 | h2
              · have := h0 x (by simp); omega
              · exact ⟨_, h2, rfl⟩
            · rcases List.mem_cons.1 hx2 with e2 | h2
              · exact ⟨x, h1, by omega⟩
              · exact absurd ⟨h1, h2⟩ hax
          obtain ⟨z, hz, rfl⟩ := hbx
          rcases List.mem_cons.1 hz with e | hz2
          · exact .inl e.symm
          · -- then b lies between a and -a
            exfalso
            have h1 := hl'.1 b (by simp)
            have h2 := (List.pairwise_cons.1 hl'.2).1 _ hz2
            have ha0 := h0 a (by simp)
            unfold cmpN absI at h1 h2
            split at h1 <;> split at h2 <;> omega
/-- The one normal form of a clause. -/
structure IsNorm (c l : List Int) : Prop where
  norml : Norml l
  mem : ∀ x, x ∈ l ↔ x ∈ c
theorem IsNorm.unique {c l m : List Int} (h : IsNorm c l) (h2 : IsNorm c m) : l = m := norml_unique l m h.norml h2.norml fun x => (h.mem x).trans (h2.mem x).symm
theorem IsNorm.of_sorted {c s : List Int} (hp : s.Perm c) (hs : s.Pairwise fun a b => cmpN a b ≤ 0) : IsNorm c (compactL s) :=
  ⟨compact_norml s hs, fun x => (compact_mem s x).trans hp.mem_iff⟩
end Go.Proofs.YtbniilajffjfcaaGreatDoor.Cnf

/- A heap in a row of numbers: put behind and brought up; taken off and brought down. No program here. -/
namespace Go.Proofs.YtbniilajffjfcaaGreatDoor.Cnf

def at_ (h : List Int) (k : Nat) : Int := h.getD k 0
def sw (h : List Int) (i j : Nat) : List Int := (h.set i (at_ h j)).set j (at_ h i)
theorem sw_len (h : List Int) (i j : Nat) : (sw h i j).length = h.length := by simp [sw]
theorem sw_at (h : List Int) (i j k : Nat) (hi : i < h.length) (hj : j < h.length) : at_ (sw h i j) k = if k = j then at_ h i else if k = i then at_ h j else at_ h k := by
  unfold sw at_
  by_cases h1 : k = j
  · subst h1; simp [List.getD, List.getElem?_set, hj]
  · by_cases h2 : k = i
    · subst h2; simp [List.getD, List.getElem?_set, hi, h1, Ne.symm h1]
    · simp [List.getD, List.getElem?_set, h1, h2, Ne.symm h1, Ne.symm h2]
theorem mem_at (h : List Int) (x : Int) : x ∈ h ↔ ∃ k, k < h.length ∧ at_ h k = x := by
  rw [List.mem_iff_getElem]
  constructor
  · rintro ⟨k, hk, e⟩; exact ⟨k, hk, by unfold at_; simp [List.getD, hk, e]⟩
  · rintro ⟨k, hk, e⟩; exact ⟨k, hk, by unfold at_ at e; simpa [List.getD, hk] using e⟩
theorem sw_mem (h : List Int) (i j : Nat) (hi : i < h.length) (hj : j < h.length) (x : Int) : x ∈ sw h i j ↔ x ∈ h := by
  rw [mem_at, mem_at, sw_len]
  constructor
  · rintro ⟨k, hk, e⟩
    rw [sw_at h i j k hi hj] at e
    by_cases h1 : k = j
    · rw [if_pos h1] at e; exact ⟨i, hi, e⟩
    · rw [if_neg h1] at e
      by_cases h2 : k = i
      · rw [if_pos h2] at e; exact ⟨j, hj, e⟩
      · rw [if_neg h2] at e; exact ⟨k, hk, e⟩
  · rintro ⟨k, hk, e⟩
    by_cases h1 : k = i
    · exact ⟨j, hj, by rw [sw_at h i j j hi hj, if_pos rfl, ← h1]; exact e⟩
    · by_cases h2 : k = j
      · refine ⟨i, hi, ?_⟩
        rw [sw_at h i j i hi hj]
        by_cases h3 : i = j
        · rw [if_pos h3, h3, ← h2]; exact e
        · rw [if_neg h3, if_pos rfl, ← h2]; exact e
      · exact ⟨k, hk, by rw [sw_at h i j k hi hj, if_neg h2, if_neg h1]; exact e⟩
/-- The first n are a heap. -/
def Heaped (h : List Int) (n : Nat) : Prop := ∀ k, 0 < k → k < n → at_ h ((k - 1) / 2) ≤ at_ h k
theorem Heaped.root {h : List Int} {n : Nat} (H : Heaped h n) : ∀ k, k < n → at_ h 0 ≤ at_ h k := by
  intro k
  induction k using Nat.strongRecOn with
  | _ k ih =>
    intro hk
    rcases Nat.eq_zero_or_pos k with rfl | h0
    · exact Int.le_refl _
    · have h1 := ih ((k - 1) / 2) (by omega) (by omega)
      have h2 := H k h0 hk
      omega
/-- A heap but for the place j, which may be too small. -/
structure UpOk (h : List Int) (j : Nat) : Prop where
  others : ∀ k, 0 < k → k < h.length → k ≠ j → at_ h ((k - 1) / 2) ≤ at_ h k
  over : ∀ k, 0 < k → k < h.length → (k - 1) / 2 = j → 0 < j → at_ h ((j - 1) / 2) ≤ at_ h k
theorem UpOk.start {h : List Int} (x : Int) (H : Heaped h h.length) : UpOk (h ++ [x]) h.length := by
  have e : ∀ k, k < h.length → at_ (h ++ [x]) k = at_ h k := fun k hk => by unfold at_; simp [List.getD, List.getElem?_append_left hk]
  refine ⟨fun k h0 hk hne => ?_, fun k h0 hk hp _ => ?_⟩
  · simp at hk
    rw [e k (by omega), e ((k - 1) / 2) (by omega)]
    exact H k h0 (by omega)
  · simp at hk; omega
theorem UpOk.step {h : List Int} {j : Nat} (H : UpOk h j) (h0 : 0 < j) (hj : j < h.length) (hlt : at_ h j < at_ h ((j - 1) / 2)) : UpOk (sw h j ((j - 1) / 2)) ((j - 1) / 2) := by
  obtain ⟨p, hp⟩ : ∃ p, p = (j - 1) / 2 := ⟨_, rfl⟩
  rw [← hp] at hlt ⊢
  have hpl : p < h.length := by omega
  have hs : ∀ k, at_ (sw h j p) k = if k = p then at_ h j else if k = j then at_ h p else at_ h k := fun k => sw_at h j p k hj hpl
  refine ⟨fun k k0 hk hne => ?_, fun k k0 hk hkp p0 => ?_⟩
  · rw [sw_len] at hk
    rw [hs, hs k, if_neg hne]
    by_cases hkj : k = j
    · subst hkj
      rw [if_pos rfl, if_pos hp.symm]
      omega
    · rw [if_neg hkj]
      by_cases h1 : (k - 1) / 2 = p
      · rw [if_pos h1]
        have := H.others k k0 hk hkj
        rw [h1] at this
        omega
      · rw [if_neg h1]
        by_cases h2 : (k - 1) / 2 = j
        · rw [if_pos h2]
          have := H.over k k0 hk h2 h0
          rw [← hp] at this
          exact this
        · rw [if_neg h2]
          exact H.others k k0 hk hkj
  · rw [sw_len] at hk
    have hpj : p ≠ j := by omega
    have h1 := H.others p p0 hpl hpj
    have hk1 : k ≠ p := by omega
    rw [hs, hs k, if_neg (by omega), if_neg (by omega), if_neg hk1]
    by_cases hkj : k = j
    · rw [if_pos hkj]; exact h1
    · rw [if_neg hkj]
      have := H.others k k0 hk hkj
      rw [hkp] at this
      omega
theorem UpOk.done {h : List Int} {j : Nat} (H : UpOk h j) (hd : j = 0 ∨ at_ h ((j - 1) / 2) ≤ at_ h j) : Heaped h h.length := by
  intro k k0 hk
  by_cases hkj : k = j
  · subst hkj
    rcases hd with h1 | h1
    · omega
    · exact h1
  · exact H.others k k0 hk hkj
/-- The first n are a heap but for the place i, which may be too great. -/
structure DownOk (h : List Int) (i n : Nat) : Prop where
  others : ∀ k, 0 < k → k < n → (k - 1) / 2 ≠ i → at_ h ((k - 1) / 2) ≤ at_ h k
  over : ∀ k, 0 < k → k < n → (k - 1) / 2 = i → 0 < i → at_ h ((i - 1) / 2) ≤ at_ h k
theorem DownOk.start {h : List Int} {n : Nat} (H : Heaped h (n + 1)) (hl : h.length = n + 1) : DownOk (sw h 0 n) 0 n := by
  refine ⟨fun k k0 hk hne => ?_, fun k _ _ _ h0 => by omega⟩
  rw [sw_at h 0 n _ (by omega) (by omega), sw_at h 0 n k (by omega) (by omega), if_neg (by omega), if_neg (by omega), if_neg (by omega), if_neg (by omega)]
  exact H k k0 (by omega)
theorem DownOk.step {h : List Int} {i n j : Nat} (H : DownOk h i n) (hn : n ≤ h.length) (hj : j = 2 * i + 1 ∨ j = 2 * i + 2) (hjn : j < n)
    (hmin : ∀ k, (k = 2 * i + 1 ∨ k = 2 * i + 2) → k < n → at_ h j ≤ at_ h k) (hlt : at_ h j < at_ h i) : DownOk (sw h i j) j n := by
  have hs : ∀ k, at_ (sw h i j) k = if k = j then at_ h i else if k = i then at_ h j else at_ h k := fun k => sw_at h i j k (by omega) (by omega)
  refine ⟨fun k k0 hk hne => ?_, fun k k0 hk hkp j0 => ?_⟩
  · rw [hs, hs k, if_neg hne]
    by_cases h1 : (k - 1) / 2 = i
    · rw [if_pos h1]
      by_cases hkj : k = j
      · rw [if_pos hkj]; omega
      · rw [if_neg hkj, if_neg (by omega)]
        exact hmin k (by omega) hk
    · rw [if_neg h1]
      by_cases hki : k = i
      · subst hki
        rw [if_neg (by omega), if_pos rfl]
        exact H.over j (by omega) hjn (by omega) k0
      · rw [if_neg (by omega), if_neg hki]
        exact H.others k k0 hk h1
  · have hij : (j - 1) / 2 = i := by omega
    rw [hij, hs, hs k, if_neg (by omega), if_pos rfl, if_neg (by omega), if_neg (by omega)]
    have := H.others k k0 hk (by omega)
    rw [hkp] at this
    exact this
theorem DownOk.done {h : List Int} {i n : Nat} (H : DownOk h i n) (hd : ∀ k, (k = 2 * i + 1 ∨ k = 2 * i + 2) → k < n → at_ h i ≤ at_ h k) : Heaped h n := by
  intro k k0 hk
  by_cases h1 : (k - 1) / 2 = i
  · rw [h1]; exact hd k (by omega) hk
  · exact H.others k k0 hk h1
theorem take_at (h : List Int) (n k : Nat) (hk : k < n) : at_ (h.take n) k = at_ h k := by unfold at_; simp [List.getD, List.getElem?_take, hk]
theorem Heaped.take {h : List Int} {n : Nat} (H : Heaped h n) (hn : n ≤ h.length) : Heaped (h.take n) (h.take n).length := by
  rw [List.length_take, Nat.min_eq_left hn]
  intro k k0 hk
  rw [take_at h n k hk, take_at h n _ (by omega)]
  exact H k k0 hk
end Go.Proofs.YtbniilajffjfcaaGreatDoor.Cnf
