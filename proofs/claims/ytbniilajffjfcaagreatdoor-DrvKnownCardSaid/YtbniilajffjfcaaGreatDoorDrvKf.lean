/- drv's laws: what DrvHolds asks (maths). -/
import Derived.Test.YtbniilajffjfcaaGreatDoorDrvKe
set_option linter.unusedVariables false
set_option linter.unusedSimpArgs false
namespace Go.Proofs.YtbniilajffjfcaaGreatDoor
open Drv (posO edges edgeAt dupB stepS sortS closeF closeL Ordered addNew)

theorem sort_facts {names : List ByteArray} {needs : List (List ByteArray)} (h : sortC names needs = 0) : dupB names = false ∧ Ordered names.length (edgeAt names needs) (sortL names needs) ∧ (sortL names needs).length = names.length := by
  cases hd : dupB names with
  | true => unfold sortC at h; rw [hd] at h; simp at h
  | false =>
    refine ⟨rfl, ?_⟩
    unfold sortC at h
    rw [hd] at h
    unfold sortL
    rw [hd]
    cases hs : sortS names.length (edgeAt names needs) names.length [] with
    | none => rw [hs] at h; simp at h
    | some l => exact Drv.sort_ordered (Ordered.nil _ _) hs
theorem closC_two {names : List ByteArray} (h : closC names ≠ 0) : dupB names = true ∧ closC names = 151 := by
  unfold closC at *
  cases hd : dupB names with
  | true => exact ⟨rfl, rfl⟩
  | false => rw [hd] at h; simp at h
theorem sortC_two {names : List ByteArray} {needs : List (List ByteArray)} (h : dupB names = true) : sortC names needs = 151 := by unfold sortC; rw [h]; rfl
theorem closL_is {names : List ByteArray} {needs : List (List ByteArray)} {roots : List ByteArray} (h : dupB names = false) : closL names needs roots = closeL names.length (edgeAt names needs) (edges names roots) := by unfold closL; rw [h]; rfl
theorem own_edges {names : List ByteArray} (hn : names.Nodup) : ∀ (c : List Nat), (∀ i ∈ c, i < names.length) → edges names (c.map fun i => names.getD i ⟨#[]⟩) = c
  | [], _ => rfl
  | i :: c, h => by
    have hi := h i (by simp)
    have hp : posO names (names.getD i ⟨#[]⟩) = some i := Drv.posO_at names i _ hn (by simp [List.getD, hi])
    have ih := own_edges hn c (fun j hj => h j (by simp [hj]))
    unfold Drv.edges at ih ⊢
    rw [List.map_cons, List.filterMap_cons, hp, ih]
theorem nodup_of {names : List ByteArray} (h : dupB names = false) : names.Nodup := by
  unfold Drv.dupB at h
  simpa using h
theorem clos_lt {names : List ByteArray} {needs : List (List ByteArray)} {roots : List ByteArray} (h : dupB names = false) : ∀ i ∈ closL names needs roots, i < names.length := fun i hi => by
  rw [closL_is h] at hi
  unfold Drv.closeL at hi
  exact List.mem_range.1 (List.mem_filter.1 hi).1
theorem clos_roots {names : List ByteArray} {needs : List (List ByteArray)} {roots : List ByteArray} (h : dupB names = false) {s : ByteArray} (hs : s ∈ roots) {p : Nat} (hp : posO names s = some p) : p ∈ closL names needs roots := by
  rw [closL_is h]
  refine Drv.close_roots (fun x hx => Drv.edges_lt hx) (fun j e he => Drv.edgeAt_lt he) ?_
  unfold Drv.edges
  exact List.mem_filterMap.2 ⟨s, hs, hp⟩
theorem clos_closed {names : List ByteArray} {needs : List (List ByteArray)} {roots : List ByteArray} (h : dupB names = false) {i e : Nat} (hi : i ∈ closL names needs roots) (he : e ∈ edgeAt names needs i) : e ∈ closL names needs roots := by
  rw [closL_is h] at hi ⊢
  exact Drv.close_closed (fun x hx => Drv.edges_lt hx) (fun j e he => Drv.edgeAt_lt he) hi he
theorem clos_least {names : List ByteArray} {needs : List (List ByteArray)} {roots : List ByteArray} (h : dupB names = false) (S : Nat → Prop) (h1 : ∀ x ∈ edges names roots, S x) (h2 : ∀ x, S x → ∀ e ∈ edgeAt names needs x, S e) : ∀ x ∈ closL names needs roots, S x := by
  rw [closL_is h]
  exact Drv.close_least (fun x hx => Drv.edges_lt hx) (fun j e he => Drv.edgeAt_lt he) S h1 h2
/-- A closure is its own closure. -/
theorem clos_own {names : List ByteArray} {needs : List (List ByteArray)} {roots : List ByteArray} (h : dupB names = false) : closL names needs ((closL names needs roots).map fun i => names.getD i ⟨#[]⟩) = closL names needs roots := by
  have he := own_edges (nodup_of h) (closL names needs roots) (clos_lt h)
  refine Drv.rising_unique _ _ (by rw [closL_is h]; exact Drv.close_sorted _ _ _) (by rw [closL_is h]; exact Drv.close_sorted _ _ _) fun x => ⟨fun hx => ?_, fun hx => ?_⟩
  · exact clos_least h (fun y => y ∈ closL names needs roots) (fun y hy => by rw [he] at hy; exact hy) (fun y hy e hye => clos_closed h hy hye) x hx
  · rw [closL_is h, he]
    exact Drv.close_roots (clos_lt h) (fun j e he => Drv.edgeAt_lt he) hx
/-- With a root more it holds all that it held. -/
theorem clos_wide {names : List ByteArray} {needs : List (List ByteArray)} {roots : List ByteArray} (h : dupB names = false) (more : ByteArray) {x : Nat} (hx : x ∈ closL names needs roots) : x ∈ closL names needs (roots ++ [more]) := by
  refine clos_least h (fun y => y ∈ closL names needs (roots ++ [more])) (fun y hy => ?_) (fun y hy e hye => clos_closed h hy hye) x hx
  unfold Drv.edges at hy
  obtain ⟨s, hs, hp⟩ := List.mem_filterMap.1 hy
  exact clos_roots h (List.mem_append_left _ hs) hp
/-- Each place stands behind all that it needs. -/
theorem order_before {n : Nat} {E : Nat → List Nat} {l : List Nat} (ho : Ordered n E l) {i e : Nat} (hi : i ∈ l) (he : e ∈ E i) : plN l e < plN l i := by
  have hk : l[l.idxOf i]? = some i := by
    have h1 : l.idxOf i < l.length := List.idxOf_lt_length_of_mem hi
    rw [List.getElem?_eq_getElem h1, List.getElem_idxOf]
  have h2 := ho.behind (l.idxOf i) i hk e he
  have hm : e ∈ l := List.mem_of_mem_take h2
  unfold plN
  rw [if_pos hm, if_pos hi]
  have := idx_take h2
  omega
end Go.Proofs.YtbniilajffjfcaaGreatDoor
