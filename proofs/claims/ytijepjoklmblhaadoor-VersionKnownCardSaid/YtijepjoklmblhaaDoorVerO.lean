/- The row that is sorted: as the kit's sort takes it, and as it leaves it. -/
import Derived.Test.YtijepjoklmblhaaDoorVerN
import Derived.Test.YtijepjoklmblhaaDoorSortShelf
import Derived.Shelf.SlSortCmp.WholeK
namespace Go.Proofs.YtijepjoklmblhaaDoor
open Go.RowKit Go.BigFrame
open Ver (prs cmpV BL)
open Go.Sort (PermIn SortedIn SWO putRow flatK putRowK HoldsK)

theorem encs_get : ∀ (l : List Item) (j : Nat) (h : j / 3 < l.length), (encs l)[j]? = some (l[j / 3].enc[j % 3]!)
  | [], j, h => absurd h (Nat.not_lt_zero _)
  | x :: l, j, h => by
    rw [show encs (x :: l) = x.enc ++ encs l from rfl]
    by_cases h3 : j < 3
    · rw [List.getElem?_append_left (by simp [Item.enc]; omega)]
      have : j = 0 ∨ j = 1 ∨ j = 2 := by omega
      rcases this with rfl | rfl | rfl <;> simp [Item.enc]
    · rw [List.getElem?_append_right (by simp [Item.enc]; omega)]
      have hl : x.enc.length = 3 := rfl
      rw [hl, encs_get l (j - 3) (by simp at h; omega)]
      have e1 : j / 3 = (j - 3) / 3 + 1 := by omega
      have e2 : (j - 3) % 3 = j % 3 := by omega
      simp only [e1, List.getElem_cons_succ, e2]
def itArr (w : World) (p : Option Nat) (its : List Item) (h : ∀ it ∈ its, it.OK w p) : Array (It w p) := (its.pmap (fun it h => (⟨it, h⟩ : It w p)) h).toArray
theorem itArr_size (w : World) (p : Option Nat) (its : List Item) (h : ∀ it ∈ its, it.OK w p) : (itArr w p its h).size = its.length := by simp [itArr]
theorem itArr_get (w : World) (p : Option Nat) (its : List Item) (h : ∀ it ∈ its, it.OK w p) [Inhabited (It w p)] (i : Nat) (hi : i < its.length) : (itArr w p its h)[i]!.1 = its[i] := by
  have : i < (itArr w p its h).size := by rw [itArr_size]; exact hi
  rw [getElem!_pos _ i this]
  simp [itArr]
theorem itArr_text (w : World) (p : Option Nat) (its : List Item) (h : ∀ it ∈ its, it.OK w p) : (itArr w p its h).toList.map (fun x => x.1.text) = its.map Item.text := by
  unfold itArr
  rw [List.toList_toArray, List.map_pmap, List.pmap_eq_map]
theorem row_holds {w : World} {g k : Nat} {T : TypeId} {cur : Array Value} {its : List Item} [Inhabited (It w (some g))] (h : ∀ it ∈ its, it.OK w (some g)) (hg : w.heap[g]? = some (.cells cur T (0, 0))) (hk : its.length = k) (ht : cur.toList.take (k * 3) = encs its) :
    HoldsK (encI w (some g)) 3 w g 0 (itArr w (some g) its h) := by
  intro j hj
  rw [Sort.size_flatK, itArr_size] at hj
  rw [Nat.zero_add]
  refine ⟨?_, frozen_of_row _ _ _ _ _ hg⟩
  rw [cell_of_row _ _ _ _ _ _ hg]
  have hj3 : j / 3 < its.length := by omega
  have e1 := encs_get its j hj3
  rw [← ht, List.getElem?_take, if_pos (by omega)] at e1
  have e2 : cur[j]? = cur.toList[j]? := by simp
  rw [e2, e1, Sort.get_flatK _ _ _ _ (by rw [itArr_size]; exact hj)]
  show _ = some (id ((itArr w (some g) its h)[j / 3]!.1.enc[j % 3]!))
  rw [itArr_get w (some g) its h (j / 3) hj3]
  rfl
theorem holds_item {w W : World} {p : Option Nat} {g : Nat} [Inhabited (It w p)] {d : Array (It w p)} (hH : HoldsK (encI w p) 3 W g 0 d) (j : Nat) (hj : j < d.size) :
    W.cell? ⟨g, j * 3, none⟩ = some d[j]!.1.v ∧ W.cell? ⟨g, j * 3 + 1, none⟩ = some (.string d[j]!.1.tag) ∧ W.cell? ⟨g, j * 3 + 2, none⟩ = some (.string d[j]!.1.text) := by
  have h : ∀ c, c < 3 → W.cell? ⟨g, j * 3 + c, none⟩ = some ((encI w p d[j]!)[c]!) := fun c hc => by
    have := (hH (j * 3 + c) (by rw [Sort.size_flatK]; omega)).1
    rw [Nat.zero_add, Sort.get_flatK _ _ _ _ (by omega), show (j * 3 + c) / 3 = j by omega, show (j * 3 + c) % 3 = c by omega] at this
    exact this
  exact ⟨h 0 (by decide), h 1 (by decide), h 2 (by decide)⟩
theorem sort_holds {α : Type} [Inhabited α] {enc : α → List Value} {k m g : Nat} {d dk : Array α} {os : Array Obj} {w : World} (hH : HoldsK enc k w g 0 d) (hs : dk.size = d.size) (hg : g < w.heap.size) : HoldsK enc k (sortWorldK enc k w g 0 m dk os) g 0 dk := by
  unfold sortWorldK
  have h1 := Sort.holdsK_putRowK (enc := enc) (k := k) (Sort.ahead w m) g 0 d dk (Sort.holdsK_ahead (enc := enc) (k := k) w m g 0 d hH) hs
  exact Sort.holdsK_grow (enc := enc) (k := k) _ os g 0 dk (by unfold putRowK; rw [Sort.size_putRow]; exact hg) h1
theorem sort_below {α : Type} [Inhabited α] {enc : α → List Value} {k m g B : Nat} {dk : Array α} {os : Array Obj} {w0 w : World} (hb : Below B w0 w) (hg : B ≤ g) (hB : B ≤ w.heap.size) : Below B w0 (sortWorldK enc k w g 0 m dk os) := by
  refine hb.trans ⟨rfl, rfl, rfl, ?_, fun i hi => ?_⟩
  · unfold sortWorldK putRowK
    rw [Sort.size_grow, Sort.size_putRow]
    show w.heap.size ≤ w.heap.size + os.size
    omega
  · unfold sortWorldK putRowK
    rw [Sort.heap_grow_old _ _ (by rw [Sort.size_putRow]; exact Nat.lt_of_lt_of_le hi hB)]
    show ((Sort.ahead w m).heap.modify g _)[i]? = _
    rw [Array.getElem?_modify, if_neg (by omega)]
    rfl
theorem perm_texts {w : World} {p : Option Nat} {its : List Item} (h : ∀ it ∈ its, it.OK w p) [Inhabited (It w p)] {d' : Array (It w p)} (hp : PermIn 0 (itArr w p its h).size (itArr w p its h) d') : (d'.toList.map (fun x => x.1.text)).Perm (its.map Item.text) := by
  have hs := hp.1
  have h2 := hp.2.2
  have e1 : d'.extract 0 (itArr w p its h).size = d' := by rw [← hs]; simp
  have e2 : (itArr w p its h).extract 0 (itArr w p its h).size = itArr w p its h := by simp
  rw [e1, e2] at h2
  rw [← itArr_text w p its h]
  exact h2.map _
theorem sorted_texts {w : World} {p : Option Nat} [Inhabited (It w p)] {d' : Array (It w p)} {n : Nat} (hn : d'.size = n) (h : SortedIn (ltOf (cmpItem w p)) 0 n d') : Ver.Srt cmpS (d'.toList.map (fun x => x.1.text)) := by
  unfold Ver.Srt
  rw [List.pairwise_map, List.pairwise_iff_getElem]
  intro i j hi hj hij
  rw [Array.length_toList] at hi hj
  have := h i j (Nat.zero_le _) hij (by omega)
  rw [getElem!_pos d' j hj, getElem!_pos d' i hi] at this
  have h2 : ¬ cmpItem w p d'[j] d'[i] < 0 := by simpa [ltOf] using this
  rw [← cmpItem_text w p]
  have h3 : cmpItem w p d'[j] d'[i] = - cmpItem w p d'[i] d'[j] := Ver.cmpV_ord.anti _ _
  simp only [Array.getElem_toList]
  omega
end Go.Proofs.YtijepjoklmblhaaDoor
