/- files: At. -/
import Derived.Test.YtmcafiihicanfaaDoorFilS
set_option linter.unusedVariables false
set_option linter.unusedSimpArgs false
namespace Go.Proofs.YtmcafiihicanfaaDoor
open Go Go.RowKit Go.BigFrame
open Fil (Es Nd Sp)

/-- The node of an entry. -/
def kidE : Es → Nat → Nd
  | .nil, _ => default
  | .cons _ k d s _, 0 => ⟨k, d, s⟩
  | .cons _ _ _ _ nx, i + 1 => kidE nx i
/-- The node behind a row of names. -/
def atN : Nd → List ByteArray → Option Nd
  | nd, [] => some nd
  | nd, nm :: l => if (placeN nd nm).2 then atN (kidE nd.es (placeN nd nm).1) l else none
def zNd : Nd := ⟨0, ⟨#[]⟩, .nil⟩
def atR (nd : Nd) (s : ByteArray) : Nat × Nd := match rowN s with
  | none => (2, zNd)
  | some l => match atN nd l with | none => (5, zNd) | some x => (0, x)
theorem idxE_lt {nm : ByteArray} : ∀ {es : Es} {i : Nat}, idxE nm es = some i → i < es.len
  | .nil, _, h => by cases h
  | .cons n' _ _ _ nx, i, h => by
    unfold idxE at h
    split at h
    · cases h; simp [Es.len]
    · cases hx : idxE nm nx with
      | none => rw [hx] at h; cases h
      | some j => rw [hx] at h; cases h; have := idxE_lt hx; simp [Es.len]; omega
theorem placeN_lt {nd : Nd} {nm : ByteArray} (h : (placeN nd nm).2 = true) : (placeN nd nm).1 < nd.es.len := by
  unfold placeN at h ⊢
  split at h
  · cases hx : idxE nm nd.es with
    | none => rw [hx] at h; cases h
    | some j => rename_i h4; rw [if_pos h4]; exact idxE_lt hx
  · cases h
/-- An entry's node in memory. -/
theorem kid_at {w : World} {B : Nat} : ∀ {es : Es} {ab ao i : Nat}, CellsAt w B es ⟨ab, ao, none⟩ → i < es.len → ab < B →
    w.cell? ⟨ab, ao + i * 4 + 1, none⟩ = some (.int .u8 ((kidE es i).k : Int)) ∧ w.cell? ⟨ab, ao + i * 4 + 2, none⟩ = some (.string (kidE es i).d) ∧ (kidE es i).d.size ≤ maxLen ∧ (kidE es i).k < 256 ∧
      ∃ A c, w.cell? ⟨ab, ao + i * 4 + 3, none⟩ = some (.slice A (kidE es i).es.len c) ∧ EsAt w B (.slice A (kidE es i).es.len c) (kidE es i).es
  | .nil, _, _, _, _, h, _ => by simp [Es.len] at h
  | .cons nm k d s nx, ab, ao, 0, hc, _, hlt => by
    obtain ⟨h0, h1, h2, h3, h4, h5, ⟨A, cap, h6, h7, h8, h9, h10⟩, h11⟩ := hc
    rw [add_none] at h1 h2 h6
    refine ⟨by simpa [kidE] using h1, by simpa [kidE] using h2, h4, h5, A, cap, by simpa [kidE] using h6, A, cap, rfl, h7, h8, h9, h10⟩
  | .cons nm k d s nx, ab, ao, i + 1, hc, h, hlt => by
    obtain ⟨h0, h1, h2, h3, h4, h5, h6, h11⟩ := hc
    rw [add_none] at h11
    have ih := kid_at (i := i) h11 (by simp [Es.len] at h; omega) hlt
    have e : ∀ j, ao + 4 + i * 4 + j = ao + (i + 1) * 4 + j := fun j => by omega
    rw [e, e, e] at ih
    exact ih
/-- The cells of a node. -/
def ndCells (k : Nat) (d : ByteArray) (v : Value) : Obj := .cells #[.int .u8 (k : Int), .string d, v] 26 (0, 0)
theorem nd_box {W : World} {g k : Nat} {d : ByteArray} {v : Value} (h : W.heap[g]? = some (ndCells k d v)) : W.cell? ⟨g, 0, none⟩ = some (.int .u8 (k : Int)) ∧ W.cell? ⟨g, 1, none⟩ = some (.string d) ∧ W.cell? ⟨g, 2, none⟩ = some v ∧ W.frozen? ⟨g, 0, none⟩ = false ∧ W.frozen? ⟨g, 1, none⟩ = false ∧ W.frozen? ⟨g, 2, none⟩ = false := by
  unfold ndCells at h
  refine ⟨?_, ?_, ?_, frozen_of_row _ _ _ _ _ h, frozen_of_row _ _ _ _ _ h, frozen_of_row _ _ _ _ _ h⟩ <;> (rw [cell_of_row _ _ _ _ _ _ h]; rfl)
/-- Two results: a node in a box, and a code. -/
theorem node_results {fn : Func} {p u : Tmp} (hfn : fn.results = #[.cell p 26, .tmp u]) {W : World} {g : Nat} {cs : Array Value} {t : Array Value} (hcs : cs.size = 3) (h : W.heap[g]? = some (.cells cs 26 (0, 0))) (hp : t.getD p undef = .pointer (some ⟨g, 0, none⟩)) :
    (results fn t).run Tryd.prog W = .ok (.tuple #[.agg cs, t.getD u undef]) W := by
  have hi : (Tryd.prog.info? 26).map (·.size) = some cs.size := by rw [hcs]; kernel_rfl
  exact results_cell_tmp hfn t W g _ cs (0, 0) _ _ hp rfl h Tryd.underlying26 (by rfl) hi
theorem tx_keep {W W' : World} {b : Nat} {v : Value} {l : List ByteArray} (h : TxAt W b v l) (hk : ∀ g, b ≤ g → g < W.heap.size → W'.heap[g]? = W.heap[g]?) : TxAt W' b v l := by
  rcases h with h | ⟨g, h1, h2, h3⟩
  · exact .inl h
  · exact .inr ⟨g, h1, h2, (hk g h1 (Array.getElem?_eq_some_iff.1 h3).1).trans h3⟩
theorem tx_cell {W : World} {b : Nat} {v : Value} {l : List ByteArray} (h : TxAt W b v l) {i : Nat} {x : ByteArray} (hx : l[i]? = some x) : ∃ g, b ≤ g ∧ v = .slice (some ⟨g, 0, none⟩) l.length l.length ∧ W.cell? ⟨g, i, none⟩ = some (.string x) := by
  rcases h with ⟨rfl, _⟩ | ⟨g, h1, h2, h3⟩
  · simp at hx
  · refine ⟨g, h1, h2, ?_⟩
    rw [cell_of_row _ _ _ _ _ _ h3]
    simp [hx]
theorem rowN_len {s : ByteArray} {l : List ByteArray} (h : rowN s = some l) : l.length ≤ s.size + 1 := by
  unfold rowN at h
  split at h
  · cases h; simp
  · split at h
    · cases h; exact pieces_le 47 s
    · cases h
/-- Between two rounds of At. -/
structure AtInv (w : World) (B : Nat) (nd : Nd) (l : List ByteArray) (gr : Option Addr) (i : Nat) (cur : Nd) (A' : Option Addr) (c' : Nat) (W : World) : Prop where
  box : W.heap[w.heap.size]? = some (.cells #[.int .u8 (cur.k : Int), .string cur.d, .slice A' cur.es.len c'] 26 (0, 0))
  res : W.heap[w.heap.size + 1]? = some (.cells #[.int .u8 0, .string ⟨#[]⟩, .slice none 0 0] 26 (0, 0))
  es : EsAt W B (.slice A' cur.es.len c') cur.es
  dz : cur.d.size ≤ maxLen
  kz : cur.k < 256
  row : TxAt W (w.heap.size + 2) (.slice gr l.length l.length) l
  below : Below w.heap.size w W
  at' : atN nd l = atN cur (l.drop i)
theorem AtInv.keep {w : World} {B : Nat} {nd : Nd} {l : List ByteArray} {gr : Option Addr} {i : Nat} {cur : Nd} {A' : Option Addr} {c' : Nat} {W W' : World} (h : AtInv w B nd l gr i cur A' c' W) (hB : B ≤ w.heap.size) (hb : Below W.heap.size W W') : AtInv w B nd l gr i cur A' c' W' := by
  have h1 := (Array.getElem?_eq_some_iff.1 h.res).1
  exact ⟨(hb.block _ (by omega)).trans h.box, (hb.block _ h1).trans h.res, h.es.keep (hb.mono (by omega)), h.dz, h.kz, tx_keep h.row (fun g _ hg => hb.block g hg), h.below.trans (hb.mono (by omega)), h.at'⟩
def AtPost (w : World) (B : Nat) (nd : Nd) (s : ByteArray) (e : Ending) (W : World) : Prop :=
  Below w.heap.size w W ∧ ∃ v, e = .returned (.tuple #[v, .int .i64 ((atR nd s).1 : Int)]) ∧ NdV W B v (atR nd s).2
set_option maxRecDepth 1000000 in
set_option maxRecDepth 100000 in
set_option maxHeartbeats 4000000 in
theorem at_any (w : World) (B : Nat) (hB : B ≤ w.heap.size) (v : Value) (nd : Nd) (hv : NdV w B v nd) (s : ByteArray) (hs : s.size < 4294967281) :
    Calls Tryd.prog 24 #[v, .string s] w (AtPost w B nd s) := by
  obtain ⟨ev, rfl, hes, hd, hk⟩ := hv
  obtain ⟨A, c, rfl, hlc, hcm⟩ := hes.form
  go_enter Tryd.func24, Tryd.ntmps24
  have HROW := Lib.hid (fun w => row_any s hs w)
  have hrz : ((w.alloc (ndCells nd.k nd.d (.slice A nd.es.len c))).alloc (ndCells 0 ⟨#[]⟩ (.slice none 0 0))).heap[w.heap.size + 1]? = some (.cells #[.int .u8 0, .string ⟨#[]⟩, .slice none 0 0] 26 (0, 0)) := heap_alloc2_new w _ _
  have hnz : ((w.alloc (ndCells nd.k nd.d (.slice A nd.es.len c))).alloc (ndCells 0 ⟨#[]⟩ (.slice none 0 0))).heap[w.heap.size]? = some (ndCells nd.k nd.d (.slice A nd.es.len c)) := (old_block _ _ _ (by simp)).trans (heap_alloc_new _ _)
  have hbz : Below w.heap.size w ((w.alloc (ndCells nd.k nd.d (.slice A nd.es.len c))).alloc (ndCells 0 ⟨#[]⟩ (.slice none 0 0))) := ((Below.refl _ w).alloc (Nat.le_refl _) _).alloc (by simp) _
  have hsz : ((w.alloc (ndCells nd.k nd.d (.slice A nd.es.len c))).alloc (ndCells 0 ⟨#[]⟩ (.slice none 0 0))).heap.size = w.heap.size + 2 := by simp
  have HZ := Lib.hid (And.intro hrz (And.intro hnz (And.intro hbz hsz)))
  clear hrz hnz hbz hsz
  unfold ndCells at HZ
  cases hr : rowN s with
  | none =>
    have HRN := Lib.hid (show atR nd s = (2, zNd) by unfold atR; rw [hr])
    have HRM := Lib.hid hr
    clear hr
    go_wp2_with (first
      | (go_at_call 43; refine (HROW.out _).mono ?_; rintro e W ⟨hb, he⟩; rw [HRM.out] at he; simp only at he; subst he
         have hrb := (hb.block (w.heap.size + 1) (by simp)).trans HZ.out.1)
      | (refine wpList_store_row rfl _ _ _ rfl _ _ rfl rfl _ _ hrb (by kernel_rfl) (by rfl) (by simp [Value.oneCell']) ?_))
    have hbw : Below w.heap.size w (W.setRow (w.heap.size + 1) #[.int .u8 0, .string ⟨#[]⟩, .slice none 0 0]) := below_setRow (HZ.out.2.2.1.trans (hb.mono (by simp; omega))) (by omega) _
    refine bodyPost_ret (node_results rfl (cs := #[.int .u8 0, .string ⟨#[]⟩, .slice none 0 0]) rfl (setRow_heap _ _ _ _ _ _ hrb) rfl) rfl ⟨hbw, ?_⟩
    rw [HRN.out]
    exact ⟨_, rfl, _, rfl, EsAt.nil _ _, by decide, by decide⟩
  | some l =>
    have HRN := Lib.hid (show atR nd s = (match atN nd l with | none => (5, zNd) | some x => (0, x)) by unfold atR; rw [hr])
    have HRM := Lib.hid hr
    clear hr
    go_wp2_with (first
      | (go_at_call 43; refine (HROW.out _).mono ?_; rintro e W ⟨hb, he⟩; rw [HRM.out] at he; obtain ⟨vr, rfl, htx⟩ := he
         have hvr : ∃ gr, vr = .slice gr l.length l.length := by
           rcases htx with ⟨rfl, rfl⟩ | ⟨g, _, rfl, _⟩
           · exact ⟨_, rfl⟩
           · exact ⟨_, rfl⟩
         obtain ⟨gr, rfl⟩ := hvr)
      | (refine wpList_store_row rfl _ _ _ rfl _ _ rfl rfl _ _ hrb (by kernel_rfl) (by rfl) (by simp [Value.oneCell']) ?_))
    have hW0 : AtInv w B nd l gr 0 nd A c W := by
      have hz := hb.size
      simp at hz
      refine ⟨(hb.block _ (by simp; omega)).trans HZ.out.2.1, (hb.block _ (by simp)).trans HZ.out.1, hes.keep ((HZ.out.2.2.1.trans (hb.mono (by simp; omega))).mono hB), hd, hk, ?_, HZ.out.2.2.1.trans (hb.mono (by simp; omega)), by simp⟩
      rw [show w.heap.size + 2 = w.heap.size + 1 + 1 from rfl]
      simpa using htx
    have HW0 := Lib.hid hW0
    clear hW0 htx hb hes hd hk hlc hcm
    go_loopg [9, 10, 11, 22] l.length (fun g _ _ _ u22 wx => ∃ (i : Nat) (cur : Nd) (A' : Option Addr) (c' : Nat), u22 = .int .i64 (i : Int) ∧ i + g = l.length ∧ Hid (AtInv w B nd l gr i cur A' c' wx))
    case atStart => exact ⟨0, nd, A, c, rfl, by omega, HW0.out⟩
    case round =>
      clear HW0
      obtain ⟨i, cur, A', c', rfl, hig, HI⟩ := hrel
      cases gk with
      | zero =>
        obtain rfl : i = l.length := by omega
        obtain ⟨hn0, hn1, hn2, _⟩ := nd_box (W := wr) (k := cur.k) (d := cur.d) (v := .slice A' cur.es.len c') HI.out.box
        have hrb := HI.out.res
        have HRB := Lib.hid hrb
        go_wp2_with (refine wpList_store_row rfl _ _ _ rfl _ _ rfl rfl _ _ hrb (by kernel_rfl) (by rfl) (by simp [Value.oneCell']) ?_)
        have hbw : Below w.heap.size w (wr.setRow (w.heap.size + 1) #[.int .u8 (cur.k : Int), .string cur.d, .slice A' cur.es.len c']) := below_setRow HI.out.below (by omega) _
        refine bodyPost_ret (node_results rfl (cs := #[.int .u8 (cur.k : Int), .string cur.d, .slice A' cur.es.len c']) rfl (setRow_heap _ _ _ _ _ _ HRB.out) rfl) rfl ⟨hbw, ?_⟩
        have he : atN nd l = some cur := by rw [HI.out.at', List.drop_eq_nil_of_le (Nat.le_refl _)]; rfl
        rw [HRN.out, he]
        exact ⟨_, rfl, _, rfl, HI.out.es.keep (below_setRow (Below.refl _ _) (by omega) _), HI.out.dz, HI.out.kz⟩
      | succ g =>
        have hil : i < l.length := by omega
        obtain ⟨x, hx⟩ : ∃ x, l[i]? = some x := ⟨_, List.getElem?_eq_getElem hil⟩
        obtain ⟨gq, hgq, hge, hcell⟩ := tx_cell HI.out.row hx
        injection hge with hge1 _ _
        subst hge1
        obtain ⟨hn0, hn1, hn2, _⟩ := nd_box (W := wr) (k := cur.k) (d := cur.d) (v := .slice A' cur.es.len c') HI.out.box
        have hdrop : l.drop i = x :: l.drop (i + 1) := by
          rw [List.drop_eq_getElem_cons hil]
          rw [List.getElem?_eq_getElem hil] at hx
          rw [Option.some.inj hx]
        have hat : atN nd l = if (placeN cur x).2 then atN (kidE cur.es (placeN cur x).1) (l.drop (i + 1)) else none := by rw [HI.out.at', hdrop]; rfl
        have HAT := Lib.hid hat
        have HPL := Lib.hid (place_any wr B (Nat.le_trans hB HI.out.below.size) _ cur ⟨_, rfl, HI.out.es, HI.out.dz, HI.out.kz⟩ x)
        have hll := rowN_len HRM.out
        have hw1 : IntKind.i64.wrap ((i : Int) + 1) = (i : Int) + 1 := IntWalk.i64_in _ (by omega)
        clear hx hdrop hat hll
        cases hp : (placeN cur x).2 with
        | false =>
          rw [hp] at HAT HPL
          have HE := Lib.hid (show atR nd s = (5, zNd) by rw [HRN.out, HAT.out]; rfl)
          generalize (placeN cur x).1 = pi at *
          clear hp
          go_wp2_with (first
            | (go_at_call 44; refine HPL.out.mono ?_; rintro e W2 ⟨rfl, hb2⟩
               have hI2 := HI.out.keep hB hb2
               have hrb := hI2.res)
            | (refine wpList_store_row rfl _ _ _ rfl _ _ rfl rfl _ _ hrb (by kernel_rfl) (by rfl) (by simp [Value.oneCell']) ?_))
          have hbw : Below w.heap.size w (W2.setRow (w.heap.size + 1) #[.int .u8 0, .string ⟨#[]⟩, .slice none 0 0]) := below_setRow hI2.below (by omega) _
          refine bodyPost_ret (node_results rfl (cs := #[.int .u8 0, .string ⟨#[]⟩, .slice none 0 0]) rfl (setRow_heap _ _ _ _ _ _ hrb) rfl) rfl ⟨hbw, ?_⟩
          rw [HE.out]
          exact ⟨_, rfl, _, rfl, EsAt.nil _ _, by decide, by decide⟩
        | true =>
          have hpl := placeN_lt hp
          rw [hp] at HAT HPL
          obtain ⟨ab, ao, rfl, hlt, hcs⟩ := es_addr HI.out.es (by omega)
          obtain ⟨hk1, hk2, hk3, hk4, A2, c2, hk5, hk6⟩ := kid_at hcs hpl hlt
          generalize (placeN cur x).1 = pi at *
          have HK := Lib.hid (And.intro hk1 (And.intro hk2 (And.intro hk3 (And.intro hk4 (And.intro hk5 hk6)))))
          clear hp hcs hk1 hk2 hk3 hk4 hk5 hk6
          go_wp2_with (first
            | (go_at_call 44; refine HPL.out.mono ?_; rintro e W2 ⟨rfl, hb2⟩
               have hI2 := HI.out.keep hB hb2
               have hnb := hI2.box
               have hm2 := (nd_box (W := W2) (k := cur.k) (d := cur.d) (v := .slice (some ⟨ab, ao, none⟩) cur.es.len c') hI2.box).2.2.1
               have hBr : B ≤ wr.heap.size := Nat.le_trans hB HI.out.below.size
               have hq1 : W2.cell? ⟨ab, ao + pi * 4 + 1, none⟩ = _ := (hb2.cell (p := ⟨ab, ao + pi * 4 + 1, none⟩) (by show ab < _; omega)).trans HK.out.1
               have hq2 : W2.cell? ⟨ab, ao + pi * 4 + 2, none⟩ = _ := (hb2.cell (p := ⟨ab, ao + pi * 4 + 2, none⟩) (by show ab < _; omega)).trans HK.out.2.1
               have hq3 : W2.cell? ⟨ab, ao + pi * 4 + 3, none⟩ = _ := (hb2.cell (p := ⟨ab, ao + pi * 4 + 3, none⟩) (by show ab < _; omega)).trans HK.out.2.2.2.2.1)
            | (refine wpList_store_row rfl _ _ _ rfl _ _ rfl rfl _ _ hnb (by kernel_rfl) (by rfl) (by simp [Value.oneCell']) ?_))
          go_roundg g
          case measure => omega
          case rel =>
            have hbs : Below B W2 (W2.setRow w.heap.size #[.int .u8 ((kidE cur.es pi).k : Int), .string (kidE cur.es pi).d, .slice A2 (kidE cur.es pi).es.len c2]) := below_setRow (Below.refl _ _) hB _
            refine ⟨i + 1, kidE cur.es pi, A2, c2, by simp, by omega, ⟨setRow_heap _ _ _ _ _ _ hI2.box, (setRow_other _ _ _ _ (by omega)).trans hI2.res, (HK.out.2.2.2.2.2.keep (hb2.mono hBr)).keep hbs, HK.out.2.2.1, HK.out.2.2.2.1, tx_keep hI2.row (fun g hg _ => setRow_other _ _ _ _ (by omega)), below_setRow hI2.below (Nat.le_refl _) _, by rw [HAT.out]; rfl⟩⟩
end Go.Proofs.YtmcafiihicanfaaDoor
