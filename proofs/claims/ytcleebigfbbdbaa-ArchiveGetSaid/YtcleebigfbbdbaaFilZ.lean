/- files: the reference's At. -/
import Derived.Test.YtcleebigfbbdbaaFmU
import Derived.RegionCalls
set_option linter.unusedVariables false
set_option linter.unusedSimpArgs false
namespace Go.Proofs.Ytcleebigfbbdbaa
open Go Go.RowKit Go.BigFrame
open Fil (Es Nd Sp)

/-- A row of texts, of whatever capacity. -/
def TxC (W : World) (b : Nat) (v : Value) (l : List ByteArray) : Prop :=
  (l = [] ∧ ∃ gr cap, v = .slice gr 0 cap) ∨ ∃ g cap cur, b ≤ g ∧ v = .slice (some ⟨g, 0, none⟩) l.length cap ∧ W.heap[g]? = some (.cells cur 9 (0, 0)) ∧ ∀ (j : Nat) (x : ByteArray), l[j]? = some x → cur[j]? = some (Value.string x)
theorem txc_keep {W W' : World} {b : Nat} {v : Value} {l : List ByteArray} (h : TxC W b v l) (hk : ∀ g, b ≤ g → g < W.heap.size → W'.heap[g]? = W.heap[g]?) : TxC W' b v l := by
  rcases h with h | ⟨g, cap, cur, h1, h2, h3, h4⟩
  · exact .inl h
  · exact .inr ⟨g, cap, cur, h1, h2, (hk g h1 (Array.getElem?_eq_some_iff.1 h3).1).trans h3, h4⟩
theorem txc_cell {W : World} {b : Nat} {v : Value} {l : List ByteArray} (h : TxC W b v l) {i : Nat} {x : ByteArray} (hx : l[i]? = some x) : ∃ g cap, b ≤ g ∧ v = .slice (some ⟨g, 0, none⟩) l.length cap ∧ W.cell? ⟨g, i, none⟩ = some (.string x) := by
  rcases h with ⟨rfl, _⟩ | ⟨g, cap, cur, h1, h2, h3, h4⟩
  · simp at hx
  · exact ⟨g, cap, h1, h2, by rw [cell_of_row _ _ _ _ _ _ h3]; exact h4 i x hx⟩
theorem txc_of_own {W : World} {b : Nat} {v : Value} {l : List ByteArray} (h : W.ownsRow b 9 1 v l.length (l.map Value.string)) : TxC W b v l ∧ ∃ gr cap, v = .slice gr l.length cap := by
  obtain ⟨hl, ⟨h0, h1⟩ | ⟨g, cap, cur, rfl, h1, h2, h3, h4, h5, h6⟩⟩ := h
  · have : l = [] := List.eq_nil_of_length_eq_zero (by simpa using h1)
    subst this
    exact ⟨.inl ⟨rfl, none, 0, by rw [h0]⟩, none, 0, by rw [h0]; rfl⟩
  · refine ⟨.inr ⟨g, cap, cur, h1, rfl, h2, fun j x hx => ?_⟩, _, _, rfl⟩
    have hj : j < l.length := (List.getElem?_eq_some_iff.1 hx).1
    have e := congrArg (fun z => z[j]?) h6
    simp only [List.getElem?_take] at e
    rw [if_pos (by omega)] at e
    simpa [hx] using e
/-- Between two rounds of the reference's At. -/
structure RAtInv (w : World) (B : Nat) (nd : Nd) (l : List ByteArray) (gr : Option Addr) (cap i : Nat) (cur : Nd) (A' : Option Addr) (c' : Nat) (W : World) : Prop where
  box : W.heap[w.heap.size]? = some (.cells #[.int .u8 (cur.k : Int), .string cur.d, .slice A' cur.es.len c'] 24 (0, 0))
  res : W.heap[w.heap.size + 1]? = some (.cells #[.int .u8 0, .string ⟨#[]⟩, .slice none 0 0] 24 (0, 0))
  es : EsAt W B (.slice A' cur.es.len c') cur.es
  dz : cur.d.size ≤ maxLen
  kz : cur.k < 256
  row : TxC W (w.heap.size + 2) (.slice gr l.length cap) l
  below : Below w.heap.size w W
  at' : atN nd l = atN cur (l.drop i)
theorem RAtInv.keep {w : World} {B : Nat} {nd : Nd} {l : List ByteArray} {gr : Option Addr} {cap i : Nat} {cur : Nd} {A' : Option Addr} {c' : Nat} {W W' : World} (h : RAtInv w B nd l gr cap i cur A' c' W) (hB : B ≤ w.heap.size) (hb : Below W.heap.size W W') : RAtInv w B nd l gr cap i cur A' c' W' := by
  have h1 := (Array.getElem?_eq_some_iff.1 h.res).1
  exact ⟨(hb.block _ (by omega)).trans h.box, (hb.block _ h1).trans h.res, h.es.keep (hb.mono (by omega)), h.dz, h.kz, txc_keep h.row (fun g _ hg => hb.block g hg), h.below.trans (hb.mono (by omega)), h.at'⟩
theorem findN_neg {nd : Nd} {nm : ByteArray} (h : (placeN nd nm).2 = false) : findN nd nm = -1 := by unfold findN; rw [h]; rfl
theorem findN_pos {nd : Nd} {nm : ByteArray} (h : (placeN nd nm).2 = true) : findN nd nm = ((placeN nd nm).1 : Int) := by unfold findN; rw [h]; rfl
end Go.Proofs.Ytcleebigfbbdbaa
