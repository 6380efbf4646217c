/- files: with. -/
import Derived.Test.YtmcafiihicanfaaDoorFilQb
import Derived.Test.YtmcafiihicanfaaDoorFmU
import Derived.RegionCalls
import Derived.Deep.RegionLaw
import Derived.Deep.RegionHeld3
import Derived.Deep.MidRow
set_option linter.unusedVariables false
set_option linter.unusedSimpArgs false
namespace Go.Proofs.YtmcafiihicanfaaDoor
open Go Go.RowKit Go.BigFrame
open Fil (Es Nd Sp)

/-- A row of texts that somebody handed in. -/
def TxS (w : World) (v : Value) (l : List ByteArray) : Prop :=
  ∃ A c, v = .slice A l.length c ∧ l.length ≤ c ∧ c ≤ maxLen ∧ (0 < l.length → ∃ b o, A = some ⟨b, o, none⟩ ∧ b < w.heap.size ∧ ∀ i x, l[i]? = some x → w.cell? ⟨b, o + i, none⟩ = some (.string x))
theorem TxS.keep {w w' : World} {v : Value} {l : List ByteArray} (h : TxS w v l) (hb : Below w.heap.size w w') : TxS w' v l := by
  obtain ⟨A, c, h1, h2, h3, h4⟩ := h
  refine ⟨A, c, h1, h2, h3, fun hp => ?_⟩
  obtain ⟨b, o, e, hlt, hc⟩ := h4 hp
  exact ⟨b, o, e, Nat.lt_of_lt_of_le hlt hb.size, fun i x hx => (hb.cell (p := ⟨b, o + i, none⟩) hlt).trans (hc i x hx)⟩
def set3 (W : World) (g : Nat) (a b c : Value) : World := ((W.setCell ⟨g, 0, none⟩ a).setCell ⟨g, 1, none⟩ b).setCell ⟨g, 2, none⟩ c
theorem set3_block (W : World) (g : Nat) (a b c : Value) {k : Nat} (h : k ≠ g) : (set3 W g a b c).heap[k]? = W.heap[k]? := (Below.heap_setCell _ _ _ _ h).trans ((Below.heap_setCell _ _ _ _ h).trans (Below.heap_setCell _ _ _ _ h))
theorem set3_cell (W : World) (g : Nat) (a b c : Value) {p : Addr} (h : p.block ≠ g) : (set3 W g a b c).cell? p = W.cell? p := World.cell?_of_block (set3_block W g a b c h)
theorem set3_row {W : World} {g : Nat} {x y z : Value} {T : TypeId} (a b c : Value) (h : W.heap[g]? = some (.cells #[x, y, z] T (0, 0))) : (set3 W g a b c).heap[g]? = some (.cells #[a, b, c] T (0, 0)) := blk_set (blk_set (blk_set h 0 a) 1 b) 2 c
theorem KeepW.fst {W1 w' : World} {B : Nat} (h : KeepW W1 B w') : Below B W1 w' := h.1
theorem KeepW.set3 {W1 w' : World} {B g : Nat} (h : KeepW W1 B w') (hg : B ≤ g) (a b c : Value) : KeepW W1 B (set3 w' g a b c) := ⟨((h.1.setCell (p := ⟨g, 0, none⟩) hg a).setCell (p := ⟨g, 1, none⟩) hg b).setCell (p := ⟨g, 2, none⟩) hg c, by simpa [Go.Proofs.YtmcafiihicanfaaDoor.set3] using h.2⟩
theorem set3_below {B g : Nat} {w W : World} (h : Below B w W) (hg : B ≤ g) (a b c : Value) : Below B w (set3 W g a b c) := ((h.setCell (p := ⟨g, 0, none⟩) hg a).setCell (p := ⟨g, 1, none⟩) hg b).setCell (p := ⟨g, 2, none⟩) hg c
/-- A row of entries does not lie in a box of three cells. -/
theorem not_box {w : World} {g : Nat} {x y z : Value} {T : TypeId} (hg : w.heap[g]? = some (.cells #[x, y, z] T (0, 0))) {ad : Addr} {u v : Value} (h0 : w.cell? ad = some u) (h : w.cell? (ad.add 3) = some v) : ad.block ≠ g := by
  have hs := spot_none h0
  obtain ⟨b, o, s⟩ := ad
  obtain rfl : s = none := hs
  rintro rfl
  rw [add_none, cell_of_row _ _ _ _ _ _ hg] at h
  rw [Array.getElem?_eq_none (by simp)] at h
  cases h
theorem own_set {w : World} {base n cap g i : Nat} {e : TypeId} {xs : List Value} {size : Nat} (h : w.ownsRow base e size (.slice (some ⟨g, 0, none⟩) n cap) n xs) (u : Value) (hi : i < n * size) : (w.setCell ⟨g, i, none⟩ u).ownsRow base e size (.slice (some ⟨g, 0, none⟩) n cap) n (xs.set i u) := by
  refine ⟨by rw [List.length_set]; exact h.1, ?_⟩
  rcases h.2 with ⟨e0, _⟩ | ⟨g', cap', cur, e0, hg, hgg, hnc, hcm, hcs, htk⟩
  · cases e0
  · injection e0 with e1 _ e2
    injection e1 with e1
    injection e1 with e1 _ _
    subst e1; subst e2
    refine .inr ⟨g, cap, _, rfl, hg, blk_set hgg i u, hnc, hcm, by simpa using hcs, ?_⟩
    rw [← htk, Array.toList_setIfInBounds, List.take_set]
theorem own_there {w : World} {base n cap g : Nat} {e : TypeId} {xs : List Value} {size : Nat} (h : w.ownsRow base e size (.slice (some ⟨g, 0, none⟩) n cap) n xs) {o k : Nat} (hk : o + k ≤ n * size) : w.there g o k := by
  rcases h.2 with ⟨e0, _⟩ | ⟨g', cap', cur, e0, hg, hgg, hnc, hcm, hcs, htk⟩
  · cases e0
  · injection e0 with e1 _ e2
    injection e1 with e1
    injection e1 with e1 _ _
    subst e1; subst e2
    intro j hj
    have hlt : o + j < cur.size := by
      have := Nat.mul_le_mul_right size hnc
      omega
    exact ⟨by rw [blk_cell hgg, Array.getElem?_eq_getElem hlt]; rfl, blk_free hgg _⟩
def setM (W : World) (g o : Nat) (a b c : Value) : World := ((W.setCell ⟨g, o, none⟩ a).setCell ⟨g, o + 1, none⟩ b).setCell ⟨g, o + 1 + 1, none⟩ c
theorem setM_block (W : World) (g o : Nat) (a b c : Value) {k : Nat} (h : k ≠ g) : (setM W g o a b c).heap[k]? = W.heap[k]? := (Below.heap_setCell _ _ _ _ h).trans ((Below.heap_setCell _ _ _ _ h).trans (Below.heap_setCell _ _ _ _ h))
theorem setM_below {B g : Nat} {w W : World} (h : Below B w W) (o : Nat) (hg : B ≤ g) (a b c : Value) : Below B w (setM W g o a b c) := ((h.setCell (p := ⟨g, o, none⟩) hg a).setCell (p := ⟨g, o + 1, none⟩) hg b).setCell (p := ⟨g, o + 1 + 1, none⟩) hg c
theorem setM_own {w : World} {base n cap g o : Nat} {e : TypeId} {xs : List Value} {size : Nat} (h : w.ownsRow base e size (.slice (some ⟨g, 0, none⟩) n cap) n xs) (a b c : Value) (hi : o + 3 ≤ n * size) : (setM w g o a b c).ownsRow base e size (.slice (some ⟨g, 0, none⟩) n cap) n (((xs.set o a).set (o + 1) b).set (o + 1 + 1) c) :=
  own_set (own_set (own_set h a (by omega)) b (by omega)) c (by omega)
theorem CellsAt.box {w w' : World} {B g : Nat} {x y z : Value} {T : TypeId} (hg : w.heap[g]? = some (.cells #[x, y, z] T (0, 0))) (hk : ∀ k, k ≠ g → w'.heap[k]? = w.heap[k]?) : ∀ (e : Es) (ad : Addr), CellsAt w B e ad → CellsAt w' B e ad
  | .nil, _, _ => trivial
  | .cons nm k d s n, ad, h => by
    obtain ⟨h0, h1, h2, h3, h4, h5, ⟨A, cap, h6, h7, h8, h9, h10⟩, h11⟩ := h
    have hb := not_box hg h0 h6
    have hc : ∀ j, w'.cell? (ad.add j) = w.cell? (ad.add j) := fun j => World.cell?_of_block (by rw [addB]; exact hk _ hb)
    have hc0 : w'.cell? ad = w.cell? ad := World.cell?_of_block (hk _ hb)
    refine ⟨hc0.trans h0, (hc 1).trans h1, (hc 2).trans h2, h3, h4, h5, ⟨A, cap, (hc 3).trans h6, h7, h8, h9, fun hp => ?_⟩, CellsAt.box hg hk n _ h11⟩
    obtain ⟨a, ha, hla, hcc⟩ := h10 hp
    exact ⟨a, ha, hla, CellsAt.box hg hk s a hcc⟩
theorem EsAt.box {w w' : World} {B g : Nat} {v x y z : Value} {T : TypeId} {e : Es} (h : EsAt w B v e) (hg : w.heap[g]? = some (.cells #[x, y, z] T (0, 0))) (hk : ∀ k, k ≠ g → w'.heap[k]? = w.heap[k]?) : EsAt w' B v e := by
  obtain ⟨A, cap, h1, h2, h3, h4, h5⟩ := h
  refine ⟨A, cap, h1, h2, h3, h4, fun hp => ?_⟩
  obtain ⟨a, ha, hla, hc⟩ := h5 hp
  exact ⟨a, ha, hla, CellsAt.box hg hk e a hc⟩
/-- An entry's node, another one. -/
def setE : Es → Nat → Nd → Es
  | .nil, _, _ => .nil
  | .cons nm _ _ _ nx, 0, y => .cons nm y.k y.d y.es nx
  | .cons nm k d s nx, i + 1, y => .cons nm k d s (setE nx i y)
theorem set_len : ∀ (es : Es) (i : Nat) (y : Nd), (setE es i y).len = es.len
  | .nil, _, _ => rfl
  | .cons _ _ _ _ _, 0, _ => rfl
  | .cons _ _ _ _ nx, i + 1, y => by simp only [setE, Es.len, set_len nx i y]
theorem EntL.set {w : World} {B : Nat} : ∀ {es : Es} {xs : List Value} {i : Nat} {y : Nd} {sv : Value}, EntL w B es xs → i < es.len → EsAt w B sv y.es → y.d.size ≤ maxLen → y.k < 256 → EntL w B (setE es i y) (((xs.set (4 * i + 1) (.int .u8 (y.k : Int))).set (4 * i + 2) (.string y.d)).set (4 * i + 3) sv)
  | .nil, _, _, _, _, _, h, _, _, _ => by simp [Es.len] at h
  | .cons nm k d s nx, _, 0, y, sv, h, _, he, h1, h2 => by
    obtain ⟨_, xs', rfl, a1, a2, a3, a4, a5⟩ := h
    exact ⟨sv, xs', rfl, a1, h1, h2, he, a5⟩
  | .cons nm k d s nx, _, i + 1, y, sv, h, hi, he, h1, h2 => by
    obtain ⟨_, xs', rfl, a1, a2, a3, a4, a5⟩ := h
    refine ⟨_, _, ?_, a1, a2, a3, a4, EntL.set (i := i) a5 (by simp [Es.len] at hi; omega) he h1 h2⟩
    rw [show 4 * (i + 1) + 1 = 4 * i + 1 + 1 + 1 + 1 + 1 by omega, show 4 * (i + 1) + 2 = 4 * i + 2 + 1 + 1 + 1 + 1 by omega, show 4 * (i + 1) + 3 = 4 * i + 3 + 1 + 1 + 1 + 1 by omega]
    simp only [List.set_cons_succ]
/-- A tree with another one behind a row of names. -/
def withN : Nd → List ByteArray → Nd → Option Nd
  | _, [], x => some x
  | nd, nm :: l, x => if nd.k = 4 then
      (if (placeN nd nm).2 then
        (match withN (kidE nd.es (placeN nd nm).1) l x with
        | some y => some ⟨nd.k, nd.d, setE nd.es (placeN nd nm).1 y⟩
        | none => none)
      else if l = [] then some ⟨nd.k, nd.d, insE nm x nd.es⟩ else none)
    else none
def WithPost (w : World) (r : Option Nd) (e : Ending) (W : World) : Prop :=
  Below w.heap.size w W ∧ match r with
  | none => e = .returned (.tuple #[.agg #[.int .u8 0, .string ⟨#[]⟩, .slice none 0 0], .int .i64 5])
  | some y => ∃ v, e = .returned (.tuple #[v, .int .i64 0]) ∧ NdV W W.heap.size v y
theorem len_le_count : ∀ es : Es, es.len ≤ es.count
  | .nil => Nat.le_refl _
  | .cons _ _ _ s nx => by have := len_le_count nx; simp only [Es.len, Es.count]; omega
set_option maxRecDepth 1000000 in
set_option maxRecDepth 100000 in
set_option maxHeartbeats 4000000 in
theorem with_any : ∀ (l : List ByteArray), (∀ x ∈ l, x.size ≤ maxLen) → ∀ (nd x : Nd), nd.es.count ≤ 1000000 → ∀ (w : World) (B : Nat), B ≤ w.heap.size → ∀ v vl vx, NdV w B v nd → TxS w vl l → NdV w B vx x →
    Calls Tryd.prog 48 #[v, vl, vx] w (WithPost w (withN nd l x))
  | [], hns, nd, x, hct, w, B, hB, v, vl, vx, hv, hl, hvx => by
    obtain ⟨ev, rfl, hes, hd, hk⟩ := hv
    obtain ⟨A, c, rfl, hlc, hcm⟩ := hes.form
    obtain ⟨ex, rfl, hex, hdx, hkx⟩ := hvx
    obtain ⟨Ax, cx, rfl, hlcx, hcmx⟩ := hex.form
    obtain ⟨Al, cl, rfl, hll, hlm, hlr⟩ := hl
    go_enter Tryd.func48, Tryd.ntmps48
    obtain ⟨w3, e3, hb0, hb1, hb2, hbw, hsz⟩ := rows3 w (.cells #[.int .u8 (nd.k : Int), .string nd.d, .slice A nd.es.len c] 26) (.cells #[.int .u8 (x.k : Int), .string x.d, .slice Ax x.es.len cx] 26) (.cells #[.int .u8 0, .string ⟨#[]⟩, .slice none 0 0] 26)
    have HE := Lib.hid (And.intro hes hex)
    have H3 := Lib.hid (And.intro hb0 (And.intro hb1 (And.intro hb2 (And.intro hbw hsz))))
    clear hes hex
    go_upto_region 1 with (fail)
    rw [← e3]
    clear e3
    obtain ⟨hn0, hn1, hn2, _⟩ := nd_box (W := w3) (k := nd.k) (d := nd.d) (v := .slice A nd.es.len c) hb0
    obtain ⟨hm0, hm1, hm2, _⟩ := nd_box (W := w3) (k := x.k) (d := x.d) (v := .slice Ax x.es.len cx) hb1
    clear hlr hb0 hb1 hn0 hn1 hn2
    go_wp2_with (refine wpList_store_row rfl _ _ _ rfl _ _ rfl rfl _ _ hb2 (by kernel_rfl) (by rfl) (by simp [Value.oneCell']) ?_)
    refine bodyPost_ret (node_results rfl (cs := #[.int .u8 (x.k : Int), .string x.d, .slice Ax x.es.len cx]) rfl (setRow_heap _ _ _ _ _ _ H3.out.2.2.1) rfl) rfl ⟨below_setRow H3.out.2.2.2.1 (by omega) _, _, rfl, _, rfl, ?_, hdx, hkx⟩
    have hz : B ≤ w.heap.size := hB
    exact (HE.out.2.keep ((below_setRow H3.out.2.2.2.1 (show w.heap.size ≤ w.heap.size + 2 by omega) _).mono hB)).more (by simp; omega)
  | nm :: l, hns, nd, x, hct, w, B, hB, v, vl, vx, hv, hl, hvx => by
    obtain ⟨ev, rfl, hes, hd, hk⟩ := hv
    obtain ⟨A, c, rfl, hlc, hcm⟩ := hes.form
    obtain ⟨ex, rfl, hex, hdx, hkx⟩ := hvx
    obtain ⟨Ax, cx, rfl, hlcx, hcmx⟩ := hex.form
    obtain ⟨Al, cl, rfl, hll, hlm, hlr⟩ := hl
    go_enter Tryd.func48, Tryd.ntmps48
    obtain ⟨w3, e3, hb0, hb1, hb2, hbw, hsz⟩ := rows3 w (.cells #[.int .u8 (nd.k : Int), .string nd.d, .slice A nd.es.len c] 26) (.cells #[.int .u8 (x.k : Int), .string x.d, .slice Ax x.es.len cx] 26) (.cells #[.int .u8 0, .string ⟨#[]⟩, .slice none 0 0] 26)
    have HE := Lib.hid (And.intro hes hex)
    have H3 := Lib.hid (And.intro hb0 (And.intro hb1 (And.intro hb2 (And.intro hbw hsz))))
    clear hes hex
    go_upto_region 1 with (fail)
    rw [← e3]
    clear e3
    obtain ⟨hn0, hn1, hn2, _⟩ := nd_box (W := w3) (k := nd.k) (d := nd.d) (v := .slice A nd.es.len c) hb0
    obtain ⟨hm0, hm1, hm2, _⟩ := nd_box (W := w3) (k := x.k) (d := x.d) (v := .slice Ax x.es.len cx) hb1
    obtain ⟨lb, lo, rfl, hlb, hlc2⟩ := hlr (by simp)
    have hl0 : w3.cell? ⟨lb, lo, none⟩ = some (.string nm) := (H3.out.2.2.2.1.cell (p := ⟨lb, lo, none⟩) hlb).trans (hlc2 0 nm rfl)
    have HL := Lib.hid (And.intro hlb hlc2)
    have IH := Lib.hid (with_any l (fun y hy => hns y (List.mem_cons_of_mem _ hy)))
    have HNM := Lib.hid (hns nm List.mem_cons_self)
    have HCT := Lib.hid (And.intro hct (len_le_count nd.es))
    have hlen : (nm :: l).length = l.length + 1 := rfl
    rw [hlen] at hll
    clear hlr hlb hlc2 hct hns
    by_cases h4 : nd.k = 4
    rotate_left
    · have e4 : ((nd.k : Int) != 4) = true := bne_iff_ne.2 (by omega)
      have HR := Lib.hid (show withN nd (nm :: l) x = none by unfold withN; rw [if_neg h4])
      have hz0 : (((l.length : Int) + 1) == 0) = false := beq_eq_false_iff_ne.2 (by omega)
      clear h4 hb0 hb1 hl0 hm0 hm1 hm2
      go_wp2_with (refine wpList_store_row rfl _ _ _ rfl _ _ rfl rfl _ _ hb2 (by kernel_rfl) (by rfl) (by simp [Value.oneCell']) ?_)
      refine bodyPost_ret (node_results rfl (cs := #[.int .u8 0, .string ⟨#[]⟩, .slice none 0 0]) rfl (setRow_heap _ _ _ _ _ _ hb2) rfl) rfl ⟨below_setRow H3.out.2.2.2.1 (by omega) _, ?_⟩
      rw [HR.out]
      rfl
    have e4 : ((nd.k : Int) != 4) = false := by rw [h4]; rfl
    have hz0 : (((l.length : Int) + 1) == 0) = false := beq_eq_false_iff_ne.2 (by omega)
    have HR := Lib.hid (show withN nd (nm :: l) x = if (placeN nd nm).2 then (match withN (kidE nd.es (placeN nd nm).1) l x with | some y => some ⟨nd.k, nd.d, setE nd.es (placeN nd nm).1 y⟩ | none => none) else if l = [] then some ⟨nd.k, nd.d, insE nm x nd.es⟩ else none by rw [withN, if_pos h4])
    have H4 := Lib.hid h4
    have HPL := Lib.hid (fun (w' : World) (h : KeepW w3 w3.heap.size w') => h.calls (place_any w' B (by have := h.2; omega) _ nd ⟨_, rfl, HE.out.1.keep ((below_step hbw h.1 (by omega)).mono hB), hd, hk⟩ nm))
    have HK0 := Lib.hid (KeepW.start (Nat.le_refl w3.heap.size))
    have HCL := Lib.hid (fun (w' : World) (h : KeepW w3 w3.heap.size w') => show w'.cell? ⟨w.heap.size, 0, none⟩ = some (.int .u8 (nd.k : Int)) ∧ w'.cell? ⟨w.heap.size, 1, none⟩ = some (.string nd.d) ∧ w'.cell? ⟨w.heap.size, 2, none⟩ = some (.slice A nd.es.len c) ∧ w'.cell? ⟨lb, lo, none⟩ = some (.string nm) ∧ KeepW w3 w3.heap.size w' from
      ⟨(h.1.cell (p := ⟨w.heap.size, 0, none⟩) (by show w.heap.size < _; omega)).trans hn0, (h.1.cell (p := ⟨w.heap.size, 1, none⟩) (by show w.heap.size < _; omega)).trans hn1, (h.1.cell (p := ⟨w.heap.size, 2, none⟩) (by show w.heap.size < _; omega)).trans hn2, (h.1.cell (p := ⟨lb, lo, none⟩) (by show lb < _; have := HL.out.1; omega)).trans hl0, h⟩)
    clear h4 hb0 hb1 hb2 hbw
    have hmo : Tryd.prog.follows .mixedOrders = true := by kernel_rfl
    go_wp2
    go_region_held3 (fun w' => w'.cell? ⟨w.heap.size, 0, none⟩ = some (.int .u8 (nd.k : Int)) ∧ w'.cell? ⟨w.heap.size, 1, none⟩ = some (.string nd.d) ∧ w'.cell? ⟨w.heap.size, 2, none⟩ = some (.slice A nd.es.len c) ∧ w'.cell? ⟨lb, lo, none⟩ = some (.string nm) ∧ KeepW w3 w3.heap.size w') (first | exact HCL.out _ (by first | assumption | exact KeepW.drew HK0.out | exact KeepW.drew (by assumption)) | go_keep) (first | (go_at_call 44; refine (HPL.out _ (by first | assumption | exact KeepW.drew HK0.out)).mono ?_; rintro e W2 ⟨rfl, hk2⟩))
    clear hl0 HPL
    have HB2 := Lib.hid (below_step H3.out.2.2.2.1 (show KeepW w3 w3.heap.size W2 by assumption).1 (by omega))
    have HK2 := Lib.hid (show KeepW w3 w3.heap.size W2 by assumption)
    have hsz2 : w.heap.size + 3 ≤ W2.heap.size := by have := HK2.out.2; omega
    have hr2 := (HK2.out.1.block (w.heap.size + 2) (by omega)).trans H3.out.2.2.1
    cases hp : (placeN nd nm).2 with
    | false =>
      rw [hp] at HR
      cases hl1 : l with
      | cons nm2 l2 =>
        have hz1 : decide ((1 : Int) < (l2.length : Int) + 1 + 1) = true := decide_eq_true (by omega)
        have HRZ := Lib.hid (show withN nd (nm :: l) x = none by rw [HR.out, if_neg (by simp), if_neg (by rw [hl1]; simp)])
        clear HR IH hm0 hm1 hm2
        have hlz : (nm2 :: l2).length = l2.length + 1 := rfl
        rw [hlz]
        go_wp2_with (refine wpList_store_row rfl _ _ _ rfl _ _ rfl rfl _ _ hr2 (by kernel_rfl) (by rfl) (by simp [Value.oneCell']) ?_)
        refine bodyPost_ret (node_results rfl (cs := #[.int .u8 0, .string ⟨#[]⟩, .slice none 0 0]) rfl (setRow_heap _ _ _ _ _ _ hr2) rfl) rfl ⟨below_setRow HB2.out (by omega) _, ?_⟩
        rw [HRZ.out]
        rfl
      | nil =>
        have HRZ := Lib.hid (show withN nd (nm :: l) x = some ⟨nd.k, nd.d, insE nm x nd.es⟩ by rw [HR.out, if_neg (by simp), if_pos hl1])
        have hlz : ([] : List ByteArray).length = 0 := rfl
        rw [hlz]
        have HIN := Lib.hid (fun (w' : World) (h : KeepW W2 W2.heap.size w') => (insert_any w' B (by have := h.2; omega) _ _ nd x ⟨_, rfl, HE.out.1.keep ((below_step HB2.out h.1 (by omega)).mono hB), hd, hk⟩ ⟨_, rfl, HE.out.2.keep ((below_step HB2.out h.1 (by omega)).mono hB), hdx, hkx⟩ nm HNM.out (by have := HCT.out; omega)).mono (fun e W hq => (show KeepW W2 W2.heap.size W ∧ ∃ v', e = .returned v' ∧ NdV W W.heap.size v' ⟨nd.k, nd.d, insE nm x nd.es⟩ from ⟨h.step hq.1, hq.2⟩)))
        have HB := Lib.hid (fun (W4 : World) (h : KeepW W2 W2.heap.size W4) => nd_box (W := W4) (k := 0) (d := ⟨#[]⟩) (v := .slice none 0 0) ((h.1.block (w.heap.size + 2) (by omega)).trans hr2))
        have HK0 := Lib.hid (KeepW.start (Nat.le_refl W2.heap.size))
        have HCM := Lib.hid (fun (w' : World) (h : KeepW W2 W2.heap.size w') => (show (w'.cell? ⟨w.heap.size, 0, none⟩ = some (.int .u8 (nd.k : Int)) ∧ w'.cell? ⟨w.heap.size, 1, none⟩ = some (.string nd.d) ∧ w'.cell? ⟨w.heap.size, 2, none⟩ = some (.slice A nd.es.len c) ∧ w'.cell? ⟨lb, lo, none⟩ = some (.string nm)) ∧ w'.cell? ⟨w.heap.size + 1, 0, none⟩ = some (.int .u8 (x.k : Int)) ∧ w'.cell? ⟨w.heap.size + 1, 1, none⟩ = some (.string x.d) ∧ w'.cell? ⟨w.heap.size + 1, 2, none⟩ = some (.slice Ax x.es.len cx) from by
          have h3 : KeepW w3 w3.heap.size w' := ⟨below_step HK2.out.1 h.1 (by omega), by have := h.2; have := HK2.out.2; omega⟩
          obtain ⟨a1, a2, a3, a4, _⟩ := HCL.out w' h3
          obtain ⟨b1, b2, b3, _⟩ := nd_box (W := w') (k := x.k) (d := x.d) (v := .slice Ax x.es.len cx) ((h3.1.block (w.heap.size + 1) (by omega)).trans H3.out.2.1)
          exact ⟨⟨a1, a2, a3, a4⟩, b1, b2, b3⟩))
        have HST := Lib.hid (fun (w' : World) (h : KeepW W2 W2.heap.size w') (a b c' : Value) => (show ((set3 w' (w.heap.size + 1 + 1) a b c').cell? ⟨w.heap.size, 0, none⟩ = some (.int .u8 (nd.k : Int)) ∧ (set3 w' (w.heap.size + 1 + 1) a b c').cell? ⟨w.heap.size, 1, none⟩ = some (.string nd.d) ∧ (set3 w' (w.heap.size + 1 + 1) a b c').cell? ⟨w.heap.size, 2, none⟩ = some (.slice A nd.es.len c) ∧ (set3 w' (w.heap.size + 1 + 1) a b c').cell? ⟨lb, lo, none⟩ = some (.string nm)) ∧ (set3 w' (w.heap.size + 1 + 1) a b c').cell? ⟨w.heap.size + 1, 0, none⟩ = some (.int .u8 (x.k : Int)) ∧ (set3 w' (w.heap.size + 1 + 1) a b c').cell? ⟨w.heap.size + 1, 1, none⟩ = some (.string x.d) ∧ (set3 w' (w.heap.size + 1 + 1) a b c').cell? ⟨w.heap.size + 1, 2, none⟩ = some (.slice Ax x.es.len cx) from by
          obtain ⟨⟨a1, a2, a3, a4⟩, b1, b2, b3⟩ := HCM.out w' h
          refine ⟨⟨?_, ?_, ?_, ?_⟩, ?_, ?_, ?_⟩
          · rw [set3_cell _ _ _ _ _ (by show w.heap.size ≠ _; omega)]; exact a1
          · rw [set3_cell _ _ _ _ _ (by show w.heap.size ≠ _; omega)]; exact a2
          · rw [set3_cell _ _ _ _ _ (by show w.heap.size ≠ _; omega)]; exact a3
          · rw [set3_cell _ _ _ _ _ (by show lb ≠ _; have := HL.out.1; omega)]; exact a4
          · rw [set3_cell _ _ _ _ _ (by show w.heap.size + 1 ≠ _; omega)]; exact b1
          · rw [set3_cell _ _ _ _ _ (by show w.heap.size + 1 ≠ _; omega)]; exact b2
          · rw [set3_cell _ _ _ _ _ (by show w.heap.size + 1 ≠ _; omega)]; exact b3))
        clear HR IH hm0 hm1 hm2
        go_wp2
        go_region_held3 (fun w' => (w'.cell? ⟨w.heap.size, 0, none⟩ = some (.int .u8 (nd.k : Int)) ∧ w'.cell? ⟨w.heap.size, 1, none⟩ = some (.string nd.d) ∧ w'.cell? ⟨w.heap.size, 2, none⟩ = some (.slice A nd.es.len c) ∧ w'.cell? ⟨lb, lo, none⟩ = some (.string nm)) ∧ w'.cell? ⟨w.heap.size + 1, 0, none⟩ = some (.int .u8 (x.k : Int)) ∧ w'.cell? ⟨w.heap.size + 1, 1, none⟩ = some (.string x.d) ∧ w'.cell? ⟨w.heap.size + 1, 2, none⟩ = some (.slice Ax x.es.len cx)) (first | exact HST.out _ (by assumption) _ _ _ | exact HCM.out _ (by first | assumption | exact KeepW.drew HK0.out | exact KeepW.drew (by assumption)) | go_keep) (first | (go_at_call 54; refine (HIN.out _ (by first | assumption | exact KeepW.drew HK0.out)).mono ?_; rintro e W4 ⟨hk4, v4, rfl, hv4⟩; obtain ⟨hx0, hx1, hx2, hx3, hx4, hx5⟩ := HB.out W4 hk4; obtain ⟨ev4, rfl, hes4, hd4, hkk4⟩ := hv4; obtain ⟨A4, c4, rfl, _, _⟩ := hes4.form))
        go_wp2
        refine bodyPost_ret (node_results rfl (cs := #[.int .u8 (nd.k : Int), .string nd.d, .slice A4 (insE nm x nd.es).len c4]) rfl (set3_row _ _ _ ((hk4.1.block (w.heap.size + 2) (by omega)).trans hr2)) rfl) rfl ⟨set3_below (below_step HB2.out hk4.1 (by omega)) (by omega) _ _ _, ?_⟩
        rw [HRZ.out]
        refine ⟨_, rfl, _, rfl, (hes4.box ((hk4.1.block (w.heap.size + 2) (by omega)).trans hr2) (fun k hk => set3_block W4 (w.heap.size + 1 + 1) _ _ _ hk)).more (by simp), hd4, hkk4⟩
    | true =>
      have hpl := placeN_lt hp
      rw [hp] at HR
      obtain ⟨ab, ao, rfl, hlt, hcs⟩ := es_addr HE.out.1 (by omega)
      obtain ⟨hk1, hk2, hk3, hk4, A2, c2, hk5, hk6⟩ := kid_at hcs hpl hlt
      have HKC := Lib.hid (kid_count nd.es _ hpl)
      generalize hpi : (placeN nd nm).1 = pi at *
      obtain ⟨kd, hkd⟩ : ∃ kd, kd = kidE nd.es pi := ⟨_, rfl⟩
      rw [← hkd] at hk1 hk2 hk3 hk4 hk5 hk6 HKC HR
      have HKD := Lib.hid hkd
      have HPI := Lib.hid hpi
      have HK := Lib.hid (And.intro hk1 (And.intro hk2 (And.intro hk3 (And.intro hk4 (And.intro hk5 hk6)))))
      have HX := Lib.hid (And.intro hcs hlt)
      have HCM := Lib.hid (fun (w' : World) (h : KeepW W2 W2.heap.size w') => (show (w'.cell? ⟨w.heap.size, 2, none⟩ = some (.slice (some ⟨ab, ao, none⟩) nd.es.len c) ∧ w'.cell? ⟨ab, ao + pi * 4 + 1, none⟩ = some (.int .u8 (kd.k : Int)) ∧ w'.cell? ⟨ab, ao + pi * 4 + 2, none⟩ = some (.string kd.d) ∧ w'.cell? ⟨ab, ao + pi * 4 + 3, none⟩ = some (.slice A2 kd.es.len c2)) ∧ w'.cell? ⟨w.heap.size + 1, 0, none⟩ = some (.int .u8 (x.k : Int)) ∧ w'.cell? ⟨w.heap.size + 1, 1, none⟩ = some (.string x.d) ∧ w'.cell? ⟨w.heap.size + 1, 2, none⟩ = some (.slice Ax x.es.len cx) from by
        have h3 : KeepW w3 w3.heap.size w' := ⟨below_step HK2.out.1 h.1 (by omega), by have := h.2; have := HK2.out.2; omega⟩
        have h0 : Below w.heap.size w w' := below_step HB2.out h.1 (by omega)
        obtain ⟨_, _, a3, _, _⟩ := HCL.out w' h3
        obtain ⟨b1, b2, b3, _⟩ := nd_box (W := w') (k := x.k) (d := x.d) (v := .slice Ax x.es.len cx) ((h3.1.block (w.heap.size + 1) (by omega)).trans H3.out.2.1)
        exact ⟨⟨a3, (h0.cell (p := ⟨ab, ao + pi * 4 + 1, none⟩) (by show ab < _; omega)).trans hk1, (h0.cell (p := ⟨ab, ao + pi * 4 + 2, none⟩) (by show ab < _; omega)).trans hk2, (h0.cell (p := ⟨ab, ao + pi * 4 + 3, none⟩) (by show ab < _; omega)).trans hk5⟩, b1, b2, b3⟩))
      have HTX := Lib.hid (fun (w' : World) (h : KeepW W2 W2.heap.size w') (cc : Nat) (h1 : l.length ≤ cc) (h2 : cc ≤ maxLen) => (show TxS w' (.slice (some ⟨lb, lo + 1, none⟩) l.length cc) l from by
        have h0 : Below w.heap.size w w' := below_step HB2.out h.1 (by omega)
        refine ⟨_, cc, rfl, h1, h2, fun _ => ⟨lb, lo + 1, rfl, by have := HL.out.1; have := h0.size; omega, fun i y hy => ?_⟩⟩
        have := HL.out.2 (i + 1) y (by simpa using hy)
        rw [show lo + 1 + i = lo + (i + 1) by omega]
        exact (h0.cell (p := ⟨lb, lo + (i + 1), none⟩) HL.out.1).trans this))
      have HTN := Lib.hid (fun (w' : World) (hl0 : l = []) => (show TxS w' (.slice (some ⟨lb, lo, none⟩) l.length 0) l from ⟨_, 0, rfl, by rw [hl0]; exact Nat.le_refl _, Nat.zero_le _, fun h => by rw [hl0] at h; exact absurd h (Nat.lt_irrefl 0)⟩))
      have HIH := Lib.hid (fun (w' : World) (h : KeepW W2 W2.heap.size w') (vl : Value) (hl : TxS w' vl l) => (IH.out kd x (by have := HKC.out; have := HCT.out; omega) w' B (by have := h.2; omega) _ vl _ ⟨_, rfl, hk6.keep ((below_step HB2.out h.1 (by omega)).mono hB), hk3, hk4⟩ hl ⟨_, rfl, HE.out.2.keep ((below_step HB2.out h.1 (by omega)).mono hB), hdx, hkx⟩).mono (fun e W hq => (show KeepW W2 W2.heap.size W ∧ Below w'.heap.size w' W ∧ WithPost w' (withN kd l x) e W from ⟨h.step hq.1, hq.1, hq⟩)))
      have HK0 := Lib.hid (KeepW.start (Nat.le_refl W2.heap.size))
      have hpi0 : pi < nd.es.len := hpl
      clear hk1 hk2 hk3 hk4 hk5 hk6 hcs hkd hpi hpl IH hm0 hm1 hm2 HCL
      have HR5 := Lib.hid (fun (w' : World) (h : KeepW W2 W2.heap.size w') => (h.1.block (w.heap.size + 2) (by omega)).trans hr2)
      have hs1 : (1 : Int) ≤ (l.length : Int) + 1 := by omega

      rcases Nat.eq_or_lt_of_le (show 1 ≤ cl by omega) with hcl | hcl
      · subst hcl
        have hl0 : l = [] := List.eq_nil_of_length_eq_zero (by omega)
        subst hl0
        have hlz : ([] : List ByteArray).length = 0 := rfl
        rw [hlz] at hs1 hz0 hll
        rw [hlz]
        have HT0 := Lib.hid (fun (w' : World) (A : Option Addr) (c : Nat) (hc : c ≤ maxLen) => (show TxS w' (.slice A 0 c) [] from ⟨A, c, rfl, Nat.zero_le _, hc, fun h => absurd h (Nat.lt_irrefl 0)⟩))
        clear HTX HTN
        cases hw : withN kd [] x with
        | none => cases hw
        | some y =>
          obtain ⟨i0, hi0, hz0, hz1, hzb⟩ := info_parts infoEnt
          have HRZ := Lib.hid (show withN nd (nm :: []) x = some ⟨nd.k, nd.d, setE nd.es pi y⟩ by rw [HR.out, if_pos rfl, hw])
          clear HR
          go_wp2
          go_region_held3 (fun w' => (w'.cell? ⟨w.heap.size, 2, none⟩ = some (.slice (some ⟨ab, ao, none⟩) nd.es.len c) ∧ w'.cell? ⟨ab, ao + pi * 4 + 1, none⟩ = some (.int .u8 (kd.k : Int)) ∧ w'.cell? ⟨ab, ao + pi * 4 + 2, none⟩ = some (.string kd.d) ∧ w'.cell? ⟨ab, ao + pi * 4 + 3, none⟩ = some (.slice A2 kd.es.len c2)) ∧ w'.cell? ⟨w.heap.size + 1, 0, none⟩ = some (.int .u8 (x.k : Int)) ∧ w'.cell? ⟨w.heap.size + 1, 1, none⟩ = some (.string x.d) ∧ w'.cell? ⟨w.heap.size + 1, 2, none⟩ = some (.slice Ax x.es.len cx)) (first | exact HCM.out _ (by first | exact KeepW.set3 hk4 (Nat.le_refl _) _ _ _ | exact KeepW.set3 (KeepW.alloc hk4 _) hk4.2 _ _ _) | exact HCM.out _ (by first | assumption | exact KeepW.drew HK0.out | exact KeepW.drew (by assumption) | exact KeepW.alloc (by assumption) _ | exact KeepW.alloc (KeepW.drew HK0.out) _) | go_keep) (first | (go_at_call 48; refine (HIH.out _ (by first | assumption | exact KeepW.drew HK0.out | exact KeepW.alloc (by assumption) _ | exact KeepW.alloc (KeepW.drew HK0.out) _) _ (HT0.out _ _ _ (by unfold maxLen; omega))).mono ?_; rintro e W4 ⟨hk4, hb4, hpo⟩; rw [hw] at hpo; obtain ⟨_, v4, rfl, hv4⟩ := hpo; obtain ⟨ev4, rfl, hes4, hd4, hkk4⟩ := hv4; obtain ⟨A4, c4, rfl, hlc4, hcm4⟩ := hes4.form; (first | (have hnw : W4.heap[W2.heap.size]? = some (.cells #[.int .u8 0, .string ⟨#[]⟩, .slice none 0 0] 26 (0, 0)) := (hb4.block W2.heap.size (by simp)).trans (heap_alloc_new W2.drew _); obtain ⟨hy0, hy1, hy2, hy3, hy4, hy5⟩ := nd_box (W := W4) (k := 0) (d := ⟨#[]⟩) (v := .slice none 0 0) hnw) | skip)))
          all_goals
            first
            | (obtain ⟨W5, e5⟩ : ∃ W5, W5 = set3 W4 W2.heap.size (.int .u8 (y.k : Int)) (.string y.d) (.slice A4 y.es.len c4) := ⟨_, rfl⟩
               obtain ⟨g10, e10⟩ : ∃ g, g = W2.heap.size := ⟨_, rfl⟩
               have hr10 : W5.heap[g10]? = some (.cells #[.int .u8 (y.k : Int), .string y.d, .slice A4 y.es.len c4] 26 (0, 0)) := by rw [e5, e10]; exact set3_row _ _ _ hnw
               have hk5 : KeepW W2 W2.heap.size W5 := by rw [e5]; exact KeepW.set3 hk4 (Nat.le_refl _) _ _ _
               have hes5 : EsAt W5 W5.heap.size (.slice A4 y.es.len c4) y.es := by rw [e5]; exact (hes4.box hnw (fun k hk => set3_block W4 W2.heap.size _ _ _ hk)).more (by simp [set3])
               have hg10 : W2.heap.size ≤ g10 := by omega
               unfold set3 at e5
               rw [← e5, ← e10]
               clear e5 e10)
            | (obtain ⟨W5, e5⟩ : ∃ W5, W5 = W4.alloc (.cells #[.int .u8 (y.k : Int), .string y.d, .slice A4 y.es.len c4] 26) := ⟨_, rfl⟩
               obtain ⟨g10, e10⟩ : ∃ g, g = W4.heap.size := ⟨_, rfl⟩
               have hr10 : W5.heap[g10]? = some (.cells #[.int .u8 (y.k : Int), .string y.d, .slice A4 y.es.len c4] 26 (0, 0)) := by rw [e5, e10]; exact heap_alloc_new W4 _
               have hk5 : KeepW W2 W2.heap.size W5 := by rw [e5]; exact KeepW.alloc hk4 _
               have hes5 : EsAt W5 W5.heap.size (.slice A4 y.es.len c4) y.es := by rw [e5]; exact (hes4.keep ((Below.refl _ _).alloc (Nat.le_refl _) _)).more (by simp)
               have hg10 : W2.heap.size ≤ g10 := by have := hk4.2; omega
               rw [← e5, ← e10]
               clear e5 e10)
            have hgz := block_lt hr10
            have hb5 : Below w.heap.size w W5 := below_step HB2.out hk5.1 (by omega)
            obtain ⟨xs, hx1, hx2, hx3, hx4⟩ := es_row (HE.out.1.keep (hb5.mono hB))
            have hxl : xs.length = 4 * nd.es.len := hx1.len
            have hn5 := (HCM.out W5 hk5).1.1
            have HL5 := Lib.hid hxl
            have H5 := Lib.hid (And.intro hk5 (And.intro hr10 (And.intro hes5 (And.intro hb5 (And.intro hx1 (And.intro hx3 hx4))))))
            clear hk5 hr10 hes5 hb5 hx1 hx2 hx3 hx4 hxl
            go_wp2_with (at_builtin; refine wpList_app_opt rfl _ _ 24 rfl W5.heap.size 48 i0 _ 4 64 Tryd.underlying24 hi0 hz0 hz1 hzb rfl (by decide) _ 0 [] rfl (World.ownsRow_nil _ _ _ _) _ _ _ xs rfl H5.out.2.2.2.2.2.2 (by omega) (by have := HL5.out; omega) H5.out.2.2.2.2.2.1 (fun u hu => H5.out.2.2.2.2.1.one u hu) (by unfold maxLen; have := HCT.out; omega) (by have := HCT.out; omega) (Nat.le_refl _) ?_)
            intro v6 w6 hown6 hgr6
            have hb6 : Below W5.heap.size W5 w6 := (Below.refl _ _).grown hgr6 (Nat.le_refl _) (fun k e => by cases e)
            obtain ⟨g6, c6, rfl⟩ := own_at4 hown6 (by omega)
            have hg6 : W5.heap.size ≤ g6 := (hown6.lt g6 rfl).1
            have hz5 : w.heap.size + 3 ≤ W5.heap.size := by have := H5.out.1.2; omega
            have hbx6 : w6.heap[w.heap.size]? = some (.cells #[.int .u8 (nd.k : Int), .string nd.d, .slice (some ⟨ab, ao, none⟩) nd.es.len c] 26 (0, 0)) := (hb6.block w.heap.size (by omega)).trans ((H5.out.1.1.block w.heap.size (by omega)).trans ((HK2.out.1.block w.heap.size (by omega)).trans H3.out.1))
            obtain ⟨hc0, hc1, hc2, hf0, hf1, hf2⟩ := nd_box (W := w6) (k := nd.k) (d := nd.d) (v := .slice (some ⟨ab, ao, none⟩) nd.es.len c) hbx6
            obtain ⟨W7, e7⟩ : ∃ W7, W7 = w6.setCell ⟨w.heap.size, 2, none⟩ (.slice (some ⟨g6, 0, none⟩) nd.es.len c6) := ⟨_, rfl⟩
            have hm7 : W7.heap[w.heap.size]? = some (.cells #[.int .u8 (nd.k : Int), .string nd.d, .slice (some ⟨g6, 0, none⟩) nd.es.len c6] 26 (0, 0)) := by rw [e7]; exact blk_set hbx6 2 _
            have hr7 : W7.heap[g10]? = some (.cells #[.int .u8 (y.k : Int), .string y.d, .slice A4 y.es.len c4] 26 (0, 0)) := by rw [e7]; exact (heap_setCell_other _ _ _ _ (by show g10 ≠ w.heap.size; omega)).trans ((hb6.block _ hgz).trans H5.out.2.1)
            have hz7 : W7.heap[w.heap.size + 2]? = some (.cells #[.int .u8 0, .string ⟨#[]⟩, .slice none 0 0] 26 (0, 0)) := by rw [e7]; exact (heap_setCell_other _ _ _ _ (by show w.heap.size + 2 ≠ w.heap.size; omega)).trans ((hb6.block _ (by omega)).trans (HR5.out _ H5.out.1))
            have hown7 : W7.ownsRow W5.heap.size 48 4 (.slice (some ⟨g6, 0, none⟩) nd.es.len c6) nd.es.len xs := by rw [e7]; exact ownsRow_setCell_below hown6 (by show w.heap.size < _; omega) _
            have hb7 : Below w.heap.size W5 W7 := by rw [e7]; exact (hb6.mono (show w.heap.size ≤ W5.heap.size by omega)).setCell (Nat.le_refl _) _
            have hes7 : EsAt W7 W5.heap.size (.slice A4 y.es.len c4) y.es := by rw [e7]; exact (H5.out.2.2.1.keep hb6).box hbx6 (fun k hk => heap_setCell_other _ _ _ _ hk)
            obtain ⟨hv0, hv1, hv2, _, _, _⟩ := nd_box (W := W7) (k := nd.k) (d := nd.d) (v := .slice (some ⟨g6, 0, none⟩) nd.es.len c6) hm7
            obtain ⟨hu0, hu1, hu2, _, _, _⟩ := nd_box (W := W7) (k := y.k) (d := y.d) (v := .slice A4 y.es.len c4) hr7
            have HW7 := Lib.hid e7
            have H7 := Lib.hid (And.intro hm7 (And.intro hr7 (And.intro hz7 (And.intro hown7 (And.intro hb7 hes7)))))
            clear hm7 hr7 hz7 hown7 hb7 hes7 hown6 hgr6 hb6 hbx6 hv0 hv1 e7
            have hpiI : (pi : Int) < (nd.es.len : Int) := by omega
            go_upto_region 14 with (fail)
            rw [← HW7.out]
            have hth : W7.there g6 (pi * 4 + 1) 3 := own_there H7.out.2.2.2.1 (by omega)
            have hin : (Tryd.prog.info? 26).map (·.size) = some 3 := by kernel_rfl
            go_upto_region 15 with (refine wpList_store_mid rfl _ _ _ rfl g6 (pi * 4 + 1) #[.int .u8 (y.k : Int), .string y.d, .slice A4 y.es.len c4] rfl rfl hth hin (by simp [Value.oneCell']) ?_)
            obtain ⟨W8, e8⟩ : ∃ W8, W8 = W7.setCells g6 (pi * 4 + 1) [.int .u8 (y.k : Int), .string y.d, .slice A4 y.es.len c4] := ⟨_, rfl⟩
            rw [← e8]
            have e8' : W8 = setM W7 g6 (pi * 4 + 1) (.int .u8 (y.k : Int)) (.string y.d) (.slice A4 y.es.len c4) := e8
            have hne : w.heap.size ≠ g6 := by omega
            have hm8 : W8.heap[w.heap.size]? = some (.cells #[.int .u8 (nd.k : Int), .string nd.d, .slice (some ⟨g6, 0, none⟩) nd.es.len c6] 26 (0, 0)) := by rw [e8', setM_block _ _ _ _ _ _ hne]; exact H7.out.1
            have hz8 : W8.heap[w.heap.size + 2]? = some (.cells #[.int .u8 0, .string ⟨#[]⟩, .slice none 0 0] 26 (0, 0)) := by rw [e8', setM_block _ _ _ _ _ _ (by omega)]; exact H7.out.2.2.1
            have hown8 : W8.ownsRow W5.heap.size 48 4 (.slice (some ⟨g6, 0, none⟩) nd.es.len c6) nd.es.len (((xs.set (pi * 4 + 1) (.int .u8 (y.k : Int))).set (pi * 4 + 1 + 1) (.string y.d)).set (pi * 4 + 1 + 1 + 1) (.slice A4 y.es.len c4)) := by rw [e8']; exact setM_own H7.out.2.2.2.1 _ _ _ (by omega)
            have hb8 : Below w.heap.size W5 W8 := by rw [e8']; exact setM_below H7.out.2.2.2.2.1 _ (show w.heap.size ≤ g6 by omega) _ _ _
            have hes8 : EsAt W8 W5.heap.size (.slice A4 y.es.len c4) y.es := by rw [e8']; exact H7.out.2.2.2.2.2.keep (setM_below (Below.refl _ _) _ hg6 _ _ _)
            clear e8 e8'
            obtain ⟨hv0, hv1, hv2', _, _, _⟩ := nd_box (W := W8) (k := nd.k) (d := nd.d) (v := .slice (some ⟨g6, 0, none⟩) nd.es.len c6) hm8
            have H8 := Lib.hid (And.intro hm8 (And.intro hz8 (And.intro hown8 (And.intro hb8 hes8))))
            clear hm8 hown8 hb8 hes8 hth hv2 hu0 hu1 hu2 hc0 hc1 hc2 hf0 hf1 hf2 hn5 hi0 hz0 hz1 hzb
            go_wp2_with (refine wpList_store_row rfl _ _ _ rfl _ _ rfl rfl _ _ hz8 (by kernel_rfl) (by rfl) (by simp [Value.oneCell']) ?_)
            have hb9 : Below w.heap.size W5 (W8.setRow (w.heap.size + 2) #[.int .u8 (nd.k : Int), .string nd.d, .slice (some ⟨g6, 0, none⟩) nd.es.len c6]) := below_setRow H8.out.2.2.2.1 (by omega) _
            have hch : Ch W8 (W8.setRow (w.heap.size + 2) #[.int .u8 (nd.k : Int), .string nd.d, .slice (some ⟨g6, 0, none⟩) nd.es.len c6]) (fun k => k = w.heap.size + 2) := ⟨rfl, rfl, rfl, by simp, fun k hk hn => setRow_other _ _ _ _ hn⟩
            have hown9 := hch.own H8.out.2.2.1 (fun b hb h => by cases hb; have h2 : g6 = w.heap.size + 2 := h; omega)
            have hes9 := H8.out.2.2.2.2.box hz8 (w' := W8.setRow (w.heap.size + 2) #[.int .u8 (nd.k : Int), .string nd.d, .slice (some ⟨g6, 0, none⟩) nd.es.len c6]) (fun k hk => setRow_other _ _ _ _ hk)
            have hz9 := hb9.size
            have hent := EntL.set (i := pi) ((H5.out.2.2.2.2.1.keep (hb9.mono hB)).more (show B ≤ (W8.setRow (w.heap.size + 2) #[.int .u8 (nd.k : Int), .string nd.d, .slice (some ⟨g6, 0, none⟩) nd.es.len c6]).heap.size by omega)) hpi0 (hes9.more hz9) hd4 hkk4
            rw [show 4 * pi + 1 = pi * 4 + 1 by omega, show 4 * pi + 2 = pi * 4 + 1 + 1 by omega, show 4 * pi + 3 = pi * 4 + 1 + 1 + 1 by omega] at hent
            refine bodyPost_ret (node_results rfl (cs := #[.int .u8 (nd.k : Int), .string nd.d, .slice (some ⟨g6, 0, none⟩) nd.es.len c6]) rfl (setRow_heap _ _ _ _ _ _ hz8) rfl) rfl ⟨H5.out.2.2.2.1.trans hb9, ?_⟩
            rw [HRZ.out]
            exact ⟨_, rfl, _, rfl, ownE_cells hown9 (set_len _ _ _).symm hent (Nat.le_refl _) (by unfold maxLen; have := HCT.out; omega), hd, hk⟩
      · have hcn : ¬ cl = 1 := by omega
        cases hw : withN kd l x with
        | none =>
          have HRZ := Lib.hid (show withN nd (nm :: l) x = none by rw [HR.out, if_pos rfl, hw])
          clear HR
          go_wp2
          go_region_held3 (fun w' => (w'.cell? ⟨w.heap.size, 2, none⟩ = some (.slice (some ⟨ab, ao, none⟩) nd.es.len c) ∧ w'.cell? ⟨ab, ao + pi * 4 + 1, none⟩ = some (.int .u8 (kd.k : Int)) ∧ w'.cell? ⟨ab, ao + pi * 4 + 2, none⟩ = some (.string kd.d) ∧ w'.cell? ⟨ab, ao + pi * 4 + 3, none⟩ = some (.slice A2 kd.es.len c2)) ∧ w'.cell? ⟨w.heap.size + 1, 0, none⟩ = some (.int .u8 (x.k : Int)) ∧ w'.cell? ⟨w.heap.size + 1, 1, none⟩ = some (.string x.d) ∧ w'.cell? ⟨w.heap.size + 1, 2, none⟩ = some (.slice Ax x.es.len cx)) (first | exact HCM.out _ (by first | exact KeepW.set3 hk4 (Nat.le_refl _) _ _ _ | exact KeepW.set3 (KeepW.alloc hk4 _) hk4.2 _ _ _) | exact HCM.out _ (by first | assumption | exact KeepW.drew HK0.out | exact KeepW.drew (by assumption) | exact KeepW.alloc (by assumption) _ | exact KeepW.alloc (KeepW.drew HK0.out) _) | go_keep) (first | (go_at_call 48; refine (HIH.out _ (by first | assumption | exact KeepW.drew HK0.out | exact KeepW.alloc (by assumption) _ | exact KeepW.alloc (KeepW.drew HK0.out) _) _ (HTX.out _ (by first | assumption | exact KeepW.drew HK0.out | exact KeepW.alloc (by assumption) _ | exact KeepW.alloc (KeepW.drew HK0.out) _) _ (by omega) (by omega))).mono ?_; rintro e W4 ⟨hk4, hb4, hpo⟩; rw [hw] at hpo; obtain ⟨_, rfl⟩ := hpo; (first | (have hnw : W4.heap[W2.heap.size]? = some (.cells #[.int .u8 0, .string ⟨#[]⟩, .slice none 0 0] 26 (0, 0)) := (hb4.block W2.heap.size (by simp)).trans (heap_alloc_new W2.drew _); obtain ⟨hy0, hy1, hy2, hy3, hy4, hy5⟩ := nd_box (W := W4) (k := 0) (d := ⟨#[]⟩) (v := .slice none 0 0) hnw) | skip)))
          all_goals
            have hk5a := KeepW.set3 hk4 (Nat.le_refl W2.heap.size) (.int .u8 0) (.string ⟨#[]⟩) (.slice none 0 0)
            have hk5b := KeepW.alloc hk4 (.cells #[.int .u8 0, .string ⟨#[]⟩, .slice none 0 0] 26)
            have HKA := Lib.hid hk5a
            have HKB := Lib.hid hk5b
            clear hk5a hk5b
            go_wp2_with (first | (refine wpList_store_row rfl _ _ _ rfl _ _ rfl rfl _ _ (HR5.out _ HKA.out) (by kernel_rfl) (by rfl) (by simp [Value.oneCell']) ?_) | (refine wpList_store_row rfl _ _ _ rfl _ _ rfl rfl _ _ (HR5.out _ HKB.out) (by kernel_rfl) (by rfl) (by simp [Value.oneCell']) ?_))
            first
            | refine bodyPost_ret (node_results rfl (cs := #[.int .u8 0, .string ⟨#[]⟩, .slice none 0 0]) rfl (setRow_heap _ _ _ _ _ _ (HR5.out _ HKA.out)) rfl) rfl ⟨below_setRow (below_step HB2.out HKA.out.1 (by omega)) (by omega) _, ?_⟩
            | refine bodyPost_ret (node_results rfl (cs := #[.int .u8 0, .string ⟨#[]⟩, .slice none 0 0]) rfl (setRow_heap _ _ _ _ _ _ (HR5.out _ HKB.out)) rfl) rfl ⟨below_setRow (below_step HB2.out HKB.out.1 (by omega)) (by omega) _, ?_⟩
            rw [HRZ.out]
            rfl
        | some y =>
          obtain ⟨i0, hi0, hz0, hz1, hzb⟩ := info_parts infoEnt
          have HRZ := Lib.hid (show withN nd (nm :: l) x = some ⟨nd.k, nd.d, setE nd.es pi y⟩ by rw [HR.out, if_pos rfl, hw])
          clear HR
          go_wp2
          go_region_held3 (fun w' => (w'.cell? ⟨w.heap.size, 2, none⟩ = some (.slice (some ⟨ab, ao, none⟩) nd.es.len c) ∧ w'.cell? ⟨ab, ao + pi * 4 + 1, none⟩ = some (.int .u8 (kd.k : Int)) ∧ w'.cell? ⟨ab, ao + pi * 4 + 2, none⟩ = some (.string kd.d) ∧ w'.cell? ⟨ab, ao + pi * 4 + 3, none⟩ = some (.slice A2 kd.es.len c2)) ∧ w'.cell? ⟨w.heap.size + 1, 0, none⟩ = some (.int .u8 (x.k : Int)) ∧ w'.cell? ⟨w.heap.size + 1, 1, none⟩ = some (.string x.d) ∧ w'.cell? ⟨w.heap.size + 1, 2, none⟩ = some (.slice Ax x.es.len cx)) (first | exact HCM.out _ (by first | exact KeepW.set3 hk4 (Nat.le_refl _) _ _ _ | exact KeepW.set3 (KeepW.alloc hk4 _) hk4.2 _ _ _) | exact HCM.out _ (by first | assumption | exact KeepW.drew HK0.out | exact KeepW.drew (by assumption) | exact KeepW.alloc (by assumption) _ | exact KeepW.alloc (KeepW.drew HK0.out) _) | go_keep) (first | (go_at_call 48; refine (HIH.out _ (by first | assumption | exact KeepW.drew HK0.out | exact KeepW.alloc (by assumption) _ | exact KeepW.alloc (KeepW.drew HK0.out) _) _ (HTX.out _ (by first | assumption | exact KeepW.drew HK0.out | exact KeepW.alloc (by assumption) _ | exact KeepW.alloc (KeepW.drew HK0.out) _) _ (by omega) (by omega))).mono ?_; rintro e W4 ⟨hk4, hb4, hpo⟩; rw [hw] at hpo; obtain ⟨_, v4, rfl, hv4⟩ := hpo; obtain ⟨ev4, rfl, hes4, hd4, hkk4⟩ := hv4; obtain ⟨A4, c4, rfl, hlc4, hcm4⟩ := hes4.form; (first | (have hnw : W4.heap[W2.heap.size]? = some (.cells #[.int .u8 0, .string ⟨#[]⟩, .slice none 0 0] 26 (0, 0)) := (hb4.block W2.heap.size (by simp)).trans (heap_alloc_new W2.drew _); obtain ⟨hy0, hy1, hy2, hy3, hy4, hy5⟩ := nd_box (W := W4) (k := 0) (d := ⟨#[]⟩) (v := .slice none 0 0) hnw) | skip)))
          all_goals
            first
            | (obtain ⟨W5, e5⟩ : ∃ W5, W5 = set3 W4 W2.heap.size (.int .u8 (y.k : Int)) (.string y.d) (.slice A4 y.es.len c4) := ⟨_, rfl⟩
               obtain ⟨g10, e10⟩ : ∃ g, g = W2.heap.size := ⟨_, rfl⟩
               have hr10 : W5.heap[g10]? = some (.cells #[.int .u8 (y.k : Int), .string y.d, .slice A4 y.es.len c4] 26 (0, 0)) := by rw [e5, e10]; exact set3_row _ _ _ hnw
               have hk5 : KeepW W2 W2.heap.size W5 := by rw [e5]; exact KeepW.set3 hk4 (Nat.le_refl _) _ _ _
               have hes5 : EsAt W5 W5.heap.size (.slice A4 y.es.len c4) y.es := by rw [e5]; exact (hes4.box hnw (fun k hk => set3_block W4 W2.heap.size _ _ _ hk)).more (by simp [set3])
               have hg10 : W2.heap.size ≤ g10 := by omega
               unfold set3 at e5
               rw [← e5, ← e10]
               clear e5 e10)
            | (obtain ⟨W5, e5⟩ : ∃ W5, W5 = W4.alloc (.cells #[.int .u8 (y.k : Int), .string y.d, .slice A4 y.es.len c4] 26) := ⟨_, rfl⟩
               obtain ⟨g10, e10⟩ : ∃ g, g = W4.heap.size := ⟨_, rfl⟩
               have hr10 : W5.heap[g10]? = some (.cells #[.int .u8 (y.k : Int), .string y.d, .slice A4 y.es.len c4] 26 (0, 0)) := by rw [e5, e10]; exact heap_alloc_new W4 _
               have hk5 : KeepW W2 W2.heap.size W5 := by rw [e5]; exact KeepW.alloc hk4 _
               have hes5 : EsAt W5 W5.heap.size (.slice A4 y.es.len c4) y.es := by rw [e5]; exact (hes4.keep ((Below.refl _ _).alloc (Nat.le_refl _) _)).more (by simp)
               have hg10 : W2.heap.size ≤ g10 := by have := hk4.2; omega
               rw [← e5, ← e10]
               clear e5 e10)
            have hgz := block_lt hr10
            have hb5 : Below w.heap.size w W5 := below_step HB2.out hk5.1 (by omega)
            obtain ⟨xs, hx1, hx2, hx3, hx4⟩ := es_row (HE.out.1.keep (hb5.mono hB))
            have hxl : xs.length = 4 * nd.es.len := hx1.len
            have hn5 := (HCM.out W5 hk5).1.1
            have HL5 := Lib.hid hxl
            have H5 := Lib.hid (And.intro hk5 (And.intro hr10 (And.intro hes5 (And.intro hb5 (And.intro hx1 (And.intro hx3 hx4))))))
            clear hk5 hr10 hes5 hb5 hx1 hx2 hx3 hx4 hxl
            go_wp2_with (at_builtin; refine wpList_app_opt rfl _ _ 24 rfl W5.heap.size 48 i0 _ 4 64 Tryd.underlying24 hi0 hz0 hz1 hzb rfl (by decide) _ 0 [] rfl (World.ownsRow_nil _ _ _ _) _ _ _ xs rfl H5.out.2.2.2.2.2.2 (by omega) (by have := HL5.out; omega) H5.out.2.2.2.2.2.1 (fun u hu => H5.out.2.2.2.2.1.one u hu) (by unfold maxLen; have := HCT.out; omega) (by have := HCT.out; omega) (Nat.le_refl _) ?_)
            intro v6 w6 hown6 hgr6
            have hb6 : Below W5.heap.size W5 w6 := (Below.refl _ _).grown hgr6 (Nat.le_refl _) (fun k e => by cases e)
            obtain ⟨g6, c6, rfl⟩ := own_at4 hown6 (by omega)
            have hg6 : W5.heap.size ≤ g6 := (hown6.lt g6 rfl).1
            have hz5 : w.heap.size + 3 ≤ W5.heap.size := by have := H5.out.1.2; omega
            have hbx6 : w6.heap[w.heap.size]? = some (.cells #[.int .u8 (nd.k : Int), .string nd.d, .slice (some ⟨ab, ao, none⟩) nd.es.len c] 26 (0, 0)) := (hb6.block w.heap.size (by omega)).trans ((H5.out.1.1.block w.heap.size (by omega)).trans ((HK2.out.1.block w.heap.size (by omega)).trans H3.out.1))
            obtain ⟨hc0, hc1, hc2, hf0, hf1, hf2⟩ := nd_box (W := w6) (k := nd.k) (d := nd.d) (v := .slice (some ⟨ab, ao, none⟩) nd.es.len c) hbx6
            obtain ⟨W7, e7⟩ : ∃ W7, W7 = w6.setCell ⟨w.heap.size, 2, none⟩ (.slice (some ⟨g6, 0, none⟩) nd.es.len c6) := ⟨_, rfl⟩
            have hm7 : W7.heap[w.heap.size]? = some (.cells #[.int .u8 (nd.k : Int), .string nd.d, .slice (some ⟨g6, 0, none⟩) nd.es.len c6] 26 (0, 0)) := by rw [e7]; exact blk_set hbx6 2 _
            have hr7 : W7.heap[g10]? = some (.cells #[.int .u8 (y.k : Int), .string y.d, .slice A4 y.es.len c4] 26 (0, 0)) := by rw [e7]; exact (heap_setCell_other _ _ _ _ (by show g10 ≠ w.heap.size; omega)).trans ((hb6.block _ hgz).trans H5.out.2.1)
            have hz7 : W7.heap[w.heap.size + 2]? = some (.cells #[.int .u8 0, .string ⟨#[]⟩, .slice none 0 0] 26 (0, 0)) := by rw [e7]; exact (heap_setCell_other _ _ _ _ (by show w.heap.size + 2 ≠ w.heap.size; omega)).trans ((hb6.block _ (by omega)).trans (HR5.out _ H5.out.1))
            have hown7 : W7.ownsRow W5.heap.size 48 4 (.slice (some ⟨g6, 0, none⟩) nd.es.len c6) nd.es.len xs := by rw [e7]; exact ownsRow_setCell_below hown6 (by show w.heap.size < _; omega) _
            have hb7 : Below w.heap.size W5 W7 := by rw [e7]; exact (hb6.mono (show w.heap.size ≤ W5.heap.size by omega)).setCell (Nat.le_refl _) _
            have hes7 : EsAt W7 W5.heap.size (.slice A4 y.es.len c4) y.es := by rw [e7]; exact (H5.out.2.2.1.keep hb6).box hbx6 (fun k hk => heap_setCell_other _ _ _ _ hk)
            obtain ⟨hv0, hv1, hv2, _, _, _⟩ := nd_box (W := W7) (k := nd.k) (d := nd.d) (v := .slice (some ⟨g6, 0, none⟩) nd.es.len c6) hm7
            obtain ⟨hu0, hu1, hu2, _, _, _⟩ := nd_box (W := W7) (k := y.k) (d := y.d) (v := .slice A4 y.es.len c4) hr7
            have HW7 := Lib.hid e7
            have H7 := Lib.hid (And.intro hm7 (And.intro hr7 (And.intro hz7 (And.intro hown7 (And.intro hb7 hes7)))))
            clear hm7 hr7 hz7 hown7 hb7 hes7 hown6 hgr6 hb6 hbx6 hv0 hv1 e7
            have hpiI : (pi : Int) < (nd.es.len : Int) := by omega
            go_upto_region 14 with (fail)
            rw [← HW7.out]
            have hth : W7.there g6 (pi * 4 + 1) 3 := own_there H7.out.2.2.2.1 (by omega)
            have hin : (Tryd.prog.info? 26).map (·.size) = some 3 := by kernel_rfl
            go_upto_region 15 with (refine wpList_store_mid rfl _ _ _ rfl g6 (pi * 4 + 1) #[.int .u8 (y.k : Int), .string y.d, .slice A4 y.es.len c4] rfl rfl hth hin (by simp [Value.oneCell']) ?_)
            obtain ⟨W8, e8⟩ : ∃ W8, W8 = W7.setCells g6 (pi * 4 + 1) [.int .u8 (y.k : Int), .string y.d, .slice A4 y.es.len c4] := ⟨_, rfl⟩
            rw [← e8]
            have e8' : W8 = setM W7 g6 (pi * 4 + 1) (.int .u8 (y.k : Int)) (.string y.d) (.slice A4 y.es.len c4) := e8
            have hne : w.heap.size ≠ g6 := by omega
            have hm8 : W8.heap[w.heap.size]? = some (.cells #[.int .u8 (nd.k : Int), .string nd.d, .slice (some ⟨g6, 0, none⟩) nd.es.len c6] 26 (0, 0)) := by rw [e8', setM_block _ _ _ _ _ _ hne]; exact H7.out.1
            have hz8 : W8.heap[w.heap.size + 2]? = some (.cells #[.int .u8 0, .string ⟨#[]⟩, .slice none 0 0] 26 (0, 0)) := by rw [e8', setM_block _ _ _ _ _ _ (by omega)]; exact H7.out.2.2.1
            have hown8 : W8.ownsRow W5.heap.size 48 4 (.slice (some ⟨g6, 0, none⟩) nd.es.len c6) nd.es.len (((xs.set (pi * 4 + 1) (.int .u8 (y.k : Int))).set (pi * 4 + 1 + 1) (.string y.d)).set (pi * 4 + 1 + 1 + 1) (.slice A4 y.es.len c4)) := by rw [e8']; exact setM_own H7.out.2.2.2.1 _ _ _ (by omega)
            have hb8 : Below w.heap.size W5 W8 := by rw [e8']; exact setM_below H7.out.2.2.2.2.1 _ (show w.heap.size ≤ g6 by omega) _ _ _
            have hes8 : EsAt W8 W5.heap.size (.slice A4 y.es.len c4) y.es := by rw [e8']; exact H7.out.2.2.2.2.2.keep (setM_below (Below.refl _ _) _ hg6 _ _ _)
            clear e8 e8'
            obtain ⟨hv0, hv1, hv2', _, _, _⟩ := nd_box (W := W8) (k := nd.k) (d := nd.d) (v := .slice (some ⟨g6, 0, none⟩) nd.es.len c6) hm8
            have H8 := Lib.hid (And.intro hm8 (And.intro hz8 (And.intro hown8 (And.intro hb8 hes8))))
            clear hm8 hown8 hb8 hes8 hth hv2 hu0 hu1 hu2 hc0 hc1 hc2 hf0 hf1 hf2 hn5 hi0 hz0 hz1 hzb
            go_wp2_with (refine wpList_store_row rfl _ _ _ rfl _ _ rfl rfl _ _ hz8 (by kernel_rfl) (by rfl) (by simp [Value.oneCell']) ?_)
            have hb9 : Below w.heap.size W5 (W8.setRow (w.heap.size + 2) #[.int .u8 (nd.k : Int), .string nd.d, .slice (some ⟨g6, 0, none⟩) nd.es.len c6]) := below_setRow H8.out.2.2.2.1 (by omega) _
            have hch : Ch W8 (W8.setRow (w.heap.size + 2) #[.int .u8 (nd.k : Int), .string nd.d, .slice (some ⟨g6, 0, none⟩) nd.es.len c6]) (fun k => k = w.heap.size + 2) := ⟨rfl, rfl, rfl, by simp, fun k hk hn => setRow_other _ _ _ _ hn⟩
            have hown9 := hch.own H8.out.2.2.1 (fun b hb h => by cases hb; have h2 : g6 = w.heap.size + 2 := h; omega)
            have hes9 := H8.out.2.2.2.2.box hz8 (w' := W8.setRow (w.heap.size + 2) #[.int .u8 (nd.k : Int), .string nd.d, .slice (some ⟨g6, 0, none⟩) nd.es.len c6]) (fun k hk => setRow_other _ _ _ _ hk)
            have hz9 := hb9.size
            have hent := EntL.set (i := pi) ((H5.out.2.2.2.2.1.keep (hb9.mono hB)).more (show B ≤ (W8.setRow (w.heap.size + 2) #[.int .u8 (nd.k : Int), .string nd.d, .slice (some ⟨g6, 0, none⟩) nd.es.len c6]).heap.size by omega)) hpi0 (hes9.more hz9) hd4 hkk4
            rw [show 4 * pi + 1 = pi * 4 + 1 by omega, show 4 * pi + 2 = pi * 4 + 1 + 1 by omega, show 4 * pi + 3 = pi * 4 + 1 + 1 + 1 by omega] at hent
            refine bodyPost_ret (node_results rfl (cs := #[.int .u8 (nd.k : Int), .string nd.d, .slice (some ⟨g6, 0, none⟩) nd.es.len c6]) rfl (setRow_heap _ _ _ _ _ _ hz8) rfl) rfl ⟨H5.out.2.2.2.1.trans hb9, ?_⟩
            rw [HRZ.out]
            exact ⟨_, rfl, _, rfl, ownE_cells hown9 (set_len _ _ _).symm hent (Nat.le_refl _) (by unfold maxLen; have := HCT.out; omega), hd, hk⟩
end Go.Proofs.YtmcafiihicanfaaDoor
