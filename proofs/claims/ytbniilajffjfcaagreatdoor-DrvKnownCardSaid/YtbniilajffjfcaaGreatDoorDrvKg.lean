/- drv's laws: own rows of texts, for DrvHolds. -/
import Derived.Test.YtbniilajffjfcaaGreatDoorDrvKf
set_option linter.unusedVariables false
set_option linter.unusedSimpArgs false
namespace Go.Proofs.YtbniilajffjfcaaGreatDoor
open Go.RowKit Go.BigFrame Go.Maps
open Drv (posO edges edgeAt dupB)

theorem wpList_pushT {w : World} {ops : Array Oper} {rest : List Oper} {o : Oper} {a : Act} {Q : Exit → Act → World → Prop} (hgd : o.guard = none) (s x : Operand)
    (ho : o.op = .call { callee := .builtin .append, args := #[s, x], argTypes := #[25, 25] })
    (base : Nat) (v : Value) (l : List ByteArray) (hs : a.eval s = v) (hown : w.ownsRow base 9 1 v l.length (strs l)) (ad : Addr) (p : ByteArray) (hx : a.eval x = .slice (some ad) 1 1) (hc : w.cell? ad = some (.string p)) (hl : l.length ≤ 1000000000) (hbase : base ≤ w.heap.size) (l2 : List ByteArray) (hl2 : l2 = l ++ [p])
    (h : ∀ A c w', w'.ownsRow base 9 1 (.slice A l2.length c) l2.length (strs l2) → Below base w w' → wpList Tryz.prog ops Q rest (a.put o.dst (.slice A l2.length c)) w') : wpList Tryz.prog ops Q (o :: rest) a w := by
  subst hl2
  obtain ⟨i0, hi, hz0, hz1, hz2⟩ := info_parts infoStr
  have hc' : ∀ j u, [Value.string p][j]? = some u → w.cell? (ad.add j) = some u := fun j u hu => by
    match j, hu with
    | 0, hu => simp at hu; subst hu; rw [add_zero]; exact hc
  refine wpList_app hgd s x 25 ho base 9 i0 (.string ⟨#[]⟩) 16 Tryz.underlying25 hi hz0 hz1 hz2 rfl v l.length _ hs hown ad 1 1 [.string p] hx rfl hc' (by intro u hu; simp at hu; subst hu; rfl) (by unfold maxLen; omega) (by omega) hbase ?_
  intro v' w1 hown1 hgrow1 hm
  have h2 : w1.ownsRow base 9 1 v' (l ++ [p]).length (strs (l ++ [p])) := by
    have e : strs (l ++ [p]) = strs l ++ [.string p] := by unfold strs; rw [List.map_append]; rfl
    rw [e, List.length_append]; exact hown1
  obtain ⟨A, c, rfl⟩ := own_form h2
  exact h A c w1 h2 ((Below.refl _ _).mono hbase |>.grown hgrow1 hbase fun g e => (hown.lt g e).1)
/-- append of a whole row of texts to an empty one. -/
theorem wpList_copyT {w : World} {ops : Array Oper} {rest : List Oper} {o : Oper} {a : Act} {Q : Exit → Act → World → Prop} (hgd : o.guard = none) (s x : Operand)
    (ho : o.op = .call { callee := .builtin .append, args := #[s, x], argTypes := #[25, 25] })
    (l : List ByteArray) (hs : a.eval s = .slice none 0 0) (vx : Value) (hx : a.eval x = vx) (hr : TRow w AllB vx l) (hl : l.length ≤ 1000000000)
    (h : ∀ A c w', w'.ownsRow w.heap.size 9 1 (.slice A l.length c) l.length (strs l) → Below w.heap.size w w' → wpList Tryz.prog ops Q rest (a.put o.dst (.slice A l.length c)) w') : wpList Tryz.prog ops Q (o :: rest) a w := by
  obtain ⟨i0, hi, hz0, hz1, hz2⟩ := info_parts infoStr
  obtain ⟨A, cap, rfl, hcap, hm, hA, h4⟩ := hr
  cases A with
  | none =>
    have hc0 := hA rfl
    subst hc0
    have hl0 : l.length = 0 := by omega
    have : l = [] := List.eq_nil_of_length_eq_zero hl0
    subst this
    refine wpList_append_own_none hgd s x 25 ho w.heap.size 9 i0 1 Tryz.underlying25 hi (.slice none 0 0) 0 [] hs (World.ownsRow_nil _ _ _ _) hx ?_
    exact h none 0 w (World.ownsRow_nil _ _ _ _) (Below.refl _ _)
  | some ad =>
    refine wpList_app hgd s x 25 ho w.heap.size 9 i0 (.string ⟨#[]⟩) 16 Tryz.underlying25 hi hz0 hz1 hz2 rfl (.slice none 0 0) 0 [] hs (World.ownsRow_nil _ _ _ _) ad l.length cap (strs l) hx (strs_len l) ?_ ?_ (by unfold maxLen; omega) (by omega) (Nat.le_refl _) ?_
    · intro j u hu
      have hj : 0 < l.length := by have := (List.getElem?_eq_some_iff.1 hu).1; rw [strs_len] at this; omega
      obtain ⟨ad', e', _, _, hcell⟩ := h4 hj
      cases e'
      exact hcell j u hu
    · intro u hu
      unfold strs at hu
      obtain ⟨_, _, rfl⟩ := List.mem_map.1 hu
      rfl
    intro v' w1 hown1 hgrow1 hm
    have h2 : w1.ownsRow w.heap.size 9 1 v' l.length (strs l) := by simpa using hown1
    obtain ⟨A, c, rfl⟩ := own_form h2
    exact h A c w1 h2 ((Below.refl _ _).grown hgrow1 (Nat.le_refl _) fun g e => by cases e)
theorem trow_own {w : World} {base : Nat} {v : Value} {l : List ByteArray} (h : w.ownsRow base 9 1 v l.length (strs l)) : TRow w AllB v l := RdS.all (RdS.own h)
/-- The texts at the first places of a row. -/
def ownT (names : List ByteArray) (l : List Nat) (k : Nat) : List ByteArray := (l.take k).map fun i => names.getD i ⟨#[]⟩
theorem ownT_zero (names : List ByteArray) (l : List Nat) : ownT names l 0 = [] := by simp [ownT]
theorem ownT_all {names : List ByteArray} {l : List Nat} {k : Nat} (h : l.length ≤ k) : ownT names l k = l.map fun i => names.getD i ⟨#[]⟩ := by unfold ownT; rw [List.take_of_length_le h]
theorem ownT_next {names : List ByteArray} {l : List Nat} {k : Nat} (h : k < l.length) : ownT names l (k + 1) = ownT names l k ++ [names.getD (l.getD k 0) ⟨#[]⟩] := by
  unfold ownT
  rw [Drv.take_snoc l k _ (show l[k]? = some (l.getD k 0) by simp [List.getD, h]), List.map_append]
  rfl
theorem ownT_len {names : List ByteArray} {l : List Nat} {k : Nat} : (ownT names l k).length ≤ l.length := by
  unfold ownT; rw [List.length_map, List.length_take]; omega
theorem ownT_small {names : List ByteArray} (h : Small names) (l : List Nat) (k : Nat) : Small (ownT names l k) := fun s hs => by
  unfold ownT at hs
  obtain ⟨i, _, rfl⟩ := List.mem_map.1 hs
  by_cases hi : i < names.length
  · exact h.at hi
  · simp [List.getD, List.getElem?_eq_none (by omega : names.length ≤ i), ByteArray.size]
theorem clos_len {names : List ByteArray} {needs : List (List ByteArray)} {roots : List ByteArray} (h : dupB names = false) : (closL names needs roots).length ≤ names.length := by
  rw [closL_is h]
  unfold Drv.closeL
  exact Nat.le_trans (List.length_filter_le _ _) (by simp)
theorem small_more {roots : List ByteArray} {more : ByteArray} (h : Small roots) (hm : more.size ≤ maxLen) : Small (roots ++ [more]) := fun s hs => by
  rcases List.mem_append.1 hs with h1 | h1
  · exact h s h1
  · rw [List.mem_singleton.1 h1]; exact hm
end Go.Proofs.YtbniilajffjfcaaGreatDoor
