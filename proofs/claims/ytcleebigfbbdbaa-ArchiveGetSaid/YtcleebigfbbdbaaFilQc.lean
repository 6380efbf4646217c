/- files: with. -/
import Derived.Test.YtcleebigfbbdbaaFilQb
import Derived.Test.YtcleebigfbbdbaaFmU
import Derived.RegionCalls
import Derived.Deep.RegionLaw
import Derived.Deep.RegionHeld3
import Derived.Deep.MidRow
set_option linter.unusedVariables false
set_option linter.unusedSimpArgs false
namespace Go.Proofs.Ytcleebigfbbdbaa
open Go Go.RowKit Go.BigFrame
open Fil (Es Nd Sp)

/-- A row of texts that somebody handed in. -/
def TxS (w : World) (v : Value) (l : List ByteArray) : Prop :=
  ∃ A c, v = .slice A l.length c ∧ l.length ≤ c ∧ c ≤ maxLen ∧ (0 < l.length → ∃ b o, A = some ⟨b, o, none⟩ ∧ b < w.heap.size ∧ ∀ i x, l[i]? = some x → w.cell? ⟨b, o + i, none⟩ = some (.string x))
theorem TxS.keep {w w' : World} {v : Value} {l : List ByteArray} (h : TxS w v l) (hb : Below w.heap.size w w') : TxS w' v l := by
  obtain ⟨A, c, h1, h2, h3, h4⟩ := h
  refine ⟨A, c, h1, h2, h3, fun hp => ?_⟩
  obtain ⟨b, o, e, hlt, hc⟩ := h4 hp
  exact ⟨b, o, e, Nat.lt_of_lt_of_le hlt hb.size, fun i x hx => (hb.cell (p := ⟨b, o + i, none⟩) hlt).trans (hc i x hx)⟩
def set3 (W : World) (g : Nat) (a b c : Value) : World := ((W.setCell ⟨g, 0, none⟩ a).setCell ⟨g, 1, none⟩ b).setCell ⟨g, 2, none⟩ c
theorem set3_block (W : World) (g : Nat) (a b c : Value) {k : Nat} (h : k ≠ g) : (set3 W g a b c).heap[k]? = W.heap[k]? := (Below.heap_setCell _ _ _ _ h).trans ((Below.heap_setCell _ _ _ _ h).trans (Below.heap_setCell _ _ _ _ h))
theorem set3_cell (W : World) (g : Nat) (a b c : Value) {p : Addr} (h : p.block ≠ g) : (set3 W g a b c).cell? p = W.cell? p := World.cell?_of_block (set3_block W g a b c h)
theorem set3_row {W : World} {g : Nat} {x y z : Value} {T : TypeId} (a b c : Value) (h : W.heap[g]? = some (.cells #[x, y, z] T (0, 0))) : (set3 W g a b c).heap[g]? = some (.cells #[a, b, c] T (0, 0)) := blk_set (blk_set (blk_set h 0 a) 1 b) 2 c
theorem KeepW.fst {W1 w' : World} {B : Nat} (h : KeepW W1 B w') : Below B W1 w' := h.1
theorem KeepW.set3 {W1 w' : World} {B g : Nat} (h : KeepW W1 B w') (hg : B ≤ g) (a b c : Value) : KeepW W1 B (set3 w' g a b c) := ⟨((h.1.setCell (p := ⟨g, 0, none⟩) hg a).setCell (p := ⟨g, 1, none⟩) hg b).setCell (p := ⟨g, 2, none⟩) hg c, by simpa [Go.Proofs.Ytcleebigfbbdbaa.set3] using h.2⟩
theorem set3_below {B g : Nat} {w W : World} (h : Below B w W) (hg : B ≤ g) (a b c : Value) : Below B w (set3 W g a b c) := ((h.setCell (p := ⟨g, 0, none⟩) hg a).setCell (p := ⟨g, 1, none⟩) hg b).setCell (p := ⟨g, 2, none⟩) hg c
/-- A row of entries does not lie in a box of three cells. -/
theorem not_box {w : World} {g : Nat} {x y z : Value} {T : TypeId} (hg : w.heap[g]? = some (.cells #[x, y, z] T (0, 0))) {ad : Addr} {u v : Value} (h0 : w.cell? ad = some u) (h : w.cell? (ad.add 3) = some v) : ad.block ≠ g := by
  have hs := spot_none h0
  obtain ⟨b, o, s⟩ := ad
  obtain rfl : s = none := hs
  rintro rfl
  rw [add_none, cell_of_row _ _ _ _ _ _ hg] at h
  rw [Array.getElem?_eq_none (by simp)] at h
  cases h
theorem own_set {w : World} {base n cap g i : Nat} {e : TypeId} {xs : List Value} {size : Nat} (h : w.ownsRow base e size (.slice (some ⟨g, 0, none⟩) n cap) n xs) (u : Value) (hi : i < n * size) : (w.setCell ⟨g, i, none⟩ u).ownsRow base e size (.slice (some ⟨g, 0, none⟩) n cap) n (xs.set i u) := by
  refine ⟨by rw [List.length_set]; exact h.1, ?_⟩
  rcases h.2 with ⟨e0, _⟩ | ⟨g', cap', cur, e0, hg, hgg, hnc, hcm, hcs, htk⟩
  · cases e0
  · injection e0 with e1 _ e2
    injection e1 with e1
    injection e1 with e1 _ _
    subst e1; subst e2
    refine .inr ⟨g, cap, _, rfl, hg, blk_set hgg i u, hnc, hcm, by simpa using hcs, ?_⟩
    rw [← htk, Array.toList_setIfInBounds, List.take_set]
theorem own_there {w : World} {base n cap g : Nat} {e : TypeId} {xs : List Value} {size : Nat} (h : w.ownsRow base e size (.slice (some ⟨g, 0, none⟩) n cap) n xs) {o k : Nat} (hk : o + k ≤ n * size) : w.there g o k := by
  rcases h.2 with ⟨e0, _⟩ | ⟨g', cap', cur, e0, hg, hgg, hnc, hcm, hcs, htk⟩
  · cases e0
  · injection e0 with e1 _ e2
    injection e1 with e1
    injection e1 with e1 _ _
    subst e1; subst e2
    intro j hj
    have hlt : o + j < cur.size := by
      have := Nat.mul_le_mul_right size hnc
      omega
    exact ⟨by rw [blk_cell hgg, Array.getElem?_eq_getElem hlt]; rfl, blk_free hgg _⟩
def setM (W : World) (g o : Nat) (a b c : Value) : World := ((W.setCell ⟨g, o, none⟩ a).setCell ⟨g, o + 1, none⟩ b).setCell ⟨g, o + 1 + 1, none⟩ c
theorem setM_block (W : World) (g o : Nat) (a b c : Value) {k : Nat} (h : k ≠ g) : (setM W g o a b c).heap[k]? = W.heap[k]? := (Below.heap_setCell _ _ _ _ h).trans ((Below.heap_setCell _ _ _ _ h).trans (Below.heap_setCell _ _ _ _ h))
theorem setM_below {B g : Nat} {w W : World} (h : Below B w W) (o : Nat) (hg : B ≤ g) (a b c : Value) : Below B w (setM W g o a b c) := ((h.setCell (p := ⟨g, o, none⟩) hg a).setCell (p := ⟨g, o + 1, none⟩) hg b).setCell (p := ⟨g, o + 1 + 1, none⟩) hg c
theorem setM_own {w : World} {base n cap g o : Nat} {e : TypeId} {xs : List Value} {size : Nat} (h : w.ownsRow base e size (.slice (some ⟨g, 0, none⟩) n cap) n xs) (a b c : Value) (hi : o + 3 ≤ n * size) : (setM w g o a b c).ownsRow base e size (.slice (some ⟨g, 0, none⟩) n cap) n (((xs.set o a).set (o + 1) b).set (o + 1 + 1) c) :=
  own_set (own_set (own_set h a (by omega)) b (by omega)) c (by omega)
theorem CellsAt.box {w w' : World} {B g : Nat} {x y z : Value} {T : TypeId} (hg : w.heap[g]? = some (.cells #[x, y, z] T (0, 0))) (hk : ∀ k, k ≠ g → w'.heap[k]? = w.heap[k]?) : ∀ (e : Es) (ad : Addr), CellsAt w B e ad → CellsAt w' B e ad
  | .nil, _, _ => trivial
  | .cons nm k d s n, ad, h => by
    obtain ⟨h0, h1, h2, h3, h4, h5, ⟨A, cap, h6, h7, h8, h9, h10⟩, h11⟩ := h
    have hb := not_box hg h0 h6
    have hc : ∀ j, w'.cell? (ad.add j) = w.cell? (ad.add j) := fun j => World.cell?_of_block (by rw [addB]; exact hk _ hb)
    have hc0 : w'.cell? ad = w.cell? ad := World.cell?_of_block (hk _ hb)
    refine ⟨hc0.trans h0, (hc 1).trans h1, (hc 2).trans h2, h3, h4, h5, ⟨A, cap, (hc 3).trans h6, h7, h8, h9, fun hp => ?_⟩, CellsAt.box hg hk n _ h11⟩
    obtain ⟨a, ha, hla, hcc⟩ := h10 hp
    exact ⟨a, ha, hla, CellsAt.box hg hk s a hcc⟩
theorem EsAt.box {w w' : World} {B g : Nat} {v x y z : Value} {T : TypeId} {e : Es} (h : EsAt w B v e) (hg : w.heap[g]? = some (.cells #[x, y, z] T (0, 0))) (hk : ∀ k, k ≠ g → w'.heap[k]? = w.heap[k]?) : EsAt w' B v e := by
  obtain ⟨A, cap, h1, h2, h3, h4, h5⟩ := h
  refine ⟨A, cap, h1, h2, h3, h4, fun hp => ?_⟩
  obtain ⟨a, ha, hla, hc⟩ := h5 hp
  exact ⟨a, ha, hla, CellsAt.box hg hk e a hc⟩
/-- An entry's node, another one. -/
def setE : Es → Nat → Nd → Es
  | .nil, _, _ => .nil
  | .cons nm _ _ _ nx, 0, y => .cons nm y.k y.d y.es nx
  | .cons nm k d s nx, i + 1, y => .cons nm k d s (setE nx i y)
theorem set_len : ∀ (es : Es) (i : Nat) (y : Nd), (setE es i y).len = es.len
  | .nil, _, _ => rfl
  | .cons _ _ _ _ _, 0, _ => rfl
  | .cons _ _ _ _ nx, i + 1, y => by simp only [setE, Es.len, set_len nx i y]
theorem EntL.set {w : World} {B : Nat} : ∀ {es : Es} {xs : List Value} {i : Nat} {y : Nd} {sv : Value}, EntL w B es xs → i < es.len → EsAt w B sv y.es → y.d.size ≤ maxLen → y.k < 256 → EntL w B (setE es i y) (((xs.set (4 * i + 1) (.int .u8 (y.k : Int))).set (4 * i + 2) (.string y.d)).set (4 * i + 3) sv)
  | .nil, _, _, _, _, _, h, _, _, _ => by simp [Es.len] at h
  | .cons nm k d s nx, _, 0, y, sv, h, _, he, h1, h2 => by
    obtain ⟨_, xs', rfl, a1, a2, a3, a4, a5⟩ := h
    exact ⟨sv, xs', rfl, a1, h1, h2, he, a5⟩
  | .cons nm k d s nx, _, i + 1, y, sv, h, hi, he, h1, h2 => by
    obtain ⟨_, xs', rfl, a1, a2, a3, a4, a5⟩ := h
    refine ⟨_, _, ?_, a1, a2, a3, a4, EntL.set (i := i) a5 (by simp [Es.len] at hi; omega) he h1 h2⟩
    rw [show 4 * (i + 1) + 1 = 4 * i + 1 + 1 + 1 + 1 + 1 by omega, show 4 * (i + 1) + 2 = 4 * i + 2 + 1 + 1 + 1 + 1 by omega, show 4 * (i + 1) + 3 = 4 * i + 3 + 1 + 1 + 1 + 1 by omega]
    simp only [List.set_cons_succ]
/-- A tree with another one behind a row of names. -/
def withN : Nd → List ByteArray → Nd → Option Nd
  | _, [], x => some x
  | nd, nm :: l, x => if nd.k = 4 then
      (if (placeN nd nm).2 then
        (match withN (kidE nd.es (placeN nd nm).1) l x with
        | some y => some ⟨nd.k, nd.d, setE nd.es (placeN nd nm).1 y⟩
        | none => none)
      else if l = [] then some ⟨nd.k, nd.d, insE nm x nd.es⟩ else none)
    else none
def WithPost (w : World) (r : Option Nd) (e : Ending) (W : World) : Prop :=
  Below w.heap.size w W ∧ match r with
  | none => e = .returned (.tuple #[.agg #[.int .u8 0, .string ⟨#[]⟩, .slice none 0 0], .int .i64 5])
  | some y => ∃ v, e = .returned (.tuple #[v, .int .i64 0]) ∧ NdV W W.heap.size v y
theorem len_le_count : ∀ es : Es, es.len ≤ es.count
  | .nil => Nat.le_refl _
  | .cons _ _ _ s nx => by have := len_le_count nx; simp only [Es.len, Es.count]; omega
end Go.Proofs.Ytcleebigfbbdbaa
