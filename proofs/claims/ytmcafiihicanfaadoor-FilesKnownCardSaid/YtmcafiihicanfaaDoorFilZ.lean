/- files: the reference's At. -/
import Derived.Test.YtmcafiihicanfaaDoorFmU
import Derived.RegionCalls
set_option linter.unusedVariables false
set_option linter.unusedSimpArgs false
namespace Go.Proofs.YtmcafiihicanfaaDoor
open Go Go.RowKit Go.BigFrame
open Fil (Es Nd Sp)

/-- A row of texts, of whatever capacity. -/
def TxC (W : World) (b : Nat) (v : Value) (l : List ByteArray) : Prop :=
  (l = [] ∧ ∃ gr cap, v = .slice gr 0 cap) ∨ ∃ g cap cur, b ≤ g ∧ v = .slice (some ⟨g, 0, none⟩) l.length cap ∧ W.heap[g]? = some (.cells cur 9 (0, 0)) ∧ ∀ (j : Nat) (x : ByteArray), l[j]? = some x → cur[j]? = some (Value.string x)
theorem txc_keep {W W' : World} {b : Nat} {v : Value} {l : List ByteArray} (h : TxC W b v l) (hk : ∀ g, b ≤ g → g < W.heap.size → W'.heap[g]? = W.heap[g]?) : TxC W' b v l := by
  rcases h with h | ⟨g, cap, cur, h1, h2, h3, h4⟩
  · exact .inl h
  · exact .inr ⟨g, cap, cur, h1, h2, (hk g h1 (Array.getElem?_eq_some_iff.1 h3).1).trans h3, h4⟩
theorem txc_cell {W : World} {b : Nat} {v : Value} {l : List ByteArray} (h : TxC W b v l) {i : Nat} {x : ByteArray} (hx : l[i]? = some x) : ∃ g cap, b ≤ g ∧ v = .slice (some ⟨g, 0, none⟩) l.length cap ∧ W.cell? ⟨g, i, none⟩ = some (.string x) := by
  rcases h with ⟨rfl, _⟩ | ⟨g, cap, cur, h1, h2, h3, h4⟩
  · simp at hx
  · exact ⟨g, cap, h1, h2, by rw [cell_of_row _ _ _ _ _ _ h3]; exact h4 i x hx⟩
theorem txc_of_own {W : World} {b : Nat} {v : Value} {l : List ByteArray} (h : W.ownsRow b 9 1 v l.length (l.map Value.string)) : TxC W b v l ∧ ∃ gr cap, v = .slice gr l.length cap := by
  obtain ⟨hl, ⟨h0, h1⟩ | ⟨g, cap, cur, rfl, h1, h2, h3, h4, h5, h6⟩⟩ := h
  · have : l = [] := List.eq_nil_of_length_eq_zero (by simpa using h1)
    subst this
    exact ⟨.inl ⟨rfl, none, 0, by rw [h0]⟩, none, 0, by rw [h0]; rfl⟩
  · refine ⟨.inr ⟨g, cap, cur, h1, rfl, h2, fun j x hx => ?_⟩, _, _, rfl⟩
    have hj : j < l.length := (List.getElem?_eq_some_iff.1 hx).1
    have e := congrArg (fun z => z[j]?) h6
    simp only [List.getElem?_take] at e
    rw [if_pos (by omega)] at e
    simpa [hx] using e
/-- Between two rounds of the reference's At. -/
structure RAtInv (w : World) (B : Nat) (nd : Nd) (l : List ByteArray) (gr : Option Addr) (cap i : Nat) (cur : Nd) (A' : Option Addr) (c' : Nat) (W : World) : Prop where
  box : W.heap[w.heap.size]? = some (.cells #[.int .u8 (cur.k : Int), .string cur.d, .slice A' cur.es.len c'] 26 (0, 0))
  res : W.heap[w.heap.size + 1]? = some (.cells #[.int .u8 0, .string ⟨#[]⟩, .slice none 0 0] 26 (0, 0))
  es : EsAt W B (.slice A' cur.es.len c') cur.es
  dz : cur.d.size ≤ maxLen
  kz : cur.k < 256
  row : TxC W (w.heap.size + 2) (.slice gr l.length cap) l
  below : Below w.heap.size w W
  at' : atN nd l = atN cur (l.drop i)
theorem RAtInv.keep {w : World} {B : Nat} {nd : Nd} {l : List ByteArray} {gr : Option Addr} {cap i : Nat} {cur : Nd} {A' : Option Addr} {c' : Nat} {W W' : World} (h : RAtInv w B nd l gr cap i cur A' c' W) (hB : B ≤ w.heap.size) (hb : Below W.heap.size W W') : RAtInv w B nd l gr cap i cur A' c' W' := by
  have h1 := (Array.getElem?_eq_some_iff.1 h.res).1
  exact ⟨(hb.block _ (by omega)).trans h.box, (hb.block _ h1).trans h.res, h.es.keep (hb.mono (by omega)), h.dz, h.kz, txc_keep h.row (fun g _ hg => hb.block g hg), h.below.trans (hb.mono (by omega)), h.at'⟩
theorem findN_neg {nd : Nd} {nm : ByteArray} (h : (placeN nd nm).2 = false) : findN nd nm = -1 := by unfold findN; rw [h]; rfl
theorem findN_pos {nd : Nd} {nm : ByteArray} (h : (placeN nd nm).2 = true) : findN nd nm = ((placeN nd nm).1 : Int) := by unfold findN; rw [h]; rfl
set_option maxRecDepth 1000000 in
set_option maxRecDepth 100000 in
set_option maxHeartbeats 4000000 in
theorem refAt_any (w : World) (B : Nat) (hB : B ≤ w.heap.size) (v : Value) (nd : Nd) (hv : NdV w B v nd) (s : ByteArray) (hs : s.size ≤ 1000000) :
    Calls Tryd.prog 25 #[v, .string s] w (AtPost w B nd s) := by
  obtain ⟨ev, rfl, hes, hd, hk⟩ := hv
  obtain ⟨A, c, rfl, hlc, hcm⟩ := hes.form
  go_enter Tryd.func25, Tryd.ntmps25
  have HROW := Lib.hid (fun w => names_any s hs w)
  have hrz : ((w.alloc (ndCells nd.k nd.d (.slice A nd.es.len c))).alloc (ndCells 0 ⟨#[]⟩ (.slice none 0 0))).heap[w.heap.size + 1]? = some (.cells #[.int .u8 0, .string ⟨#[]⟩, .slice none 0 0] 26 (0, 0)) := heap_alloc2_new w _ _
  have hnz : ((w.alloc (ndCells nd.k nd.d (.slice A nd.es.len c))).alloc (ndCells 0 ⟨#[]⟩ (.slice none 0 0))).heap[w.heap.size]? = some (ndCells nd.k nd.d (.slice A nd.es.len c)) := (old_block _ _ _ (by simp)).trans (heap_alloc_new _ _)
  have hbz : Below w.heap.size w ((w.alloc (ndCells nd.k nd.d (.slice A nd.es.len c))).alloc (ndCells 0 ⟨#[]⟩ (.slice none 0 0))) := ((Below.refl _ w).alloc (Nat.le_refl _) _).alloc (by simp) _
  have hsz : ((w.alloc (ndCells nd.k nd.d (.slice A nd.es.len c))).alloc (ndCells 0 ⟨#[]⟩ (.slice none 0 0))).heap.size = w.heap.size + 2 := by simp
  have HZ := Lib.hid (And.intro hrz (And.intro hnz (And.intro hbz hsz)))
  clear hrz hnz hbz hsz
  unfold ndCells at HZ
  cases hr : rowN s with
  | none =>
    have HRN := Lib.hid (show atR nd s = (2, zNd) by unfold atR; rw [hr])
    have HRM := Lib.hid hr
    clear hr
    go_wp2_with (first
      | (go_at_call 45; refine (HROW.out _).mono ?_; rintro e W ⟨hb, he⟩; rw [HRM.out] at he; simp only at he; subst he
         have hrb := (hb.block (w.heap.size + 1) (by simp)).trans HZ.out.1)
      | (refine wpList_store_row rfl _ _ _ rfl _ _ rfl rfl _ _ hrb (by kernel_rfl) (by rfl) (by simp [Value.oneCell']) ?_))
    have hbw : Below w.heap.size w (W.setRow (w.heap.size + 1) #[.int .u8 0, .string ⟨#[]⟩, .slice none 0 0]) := below_setRow (HZ.out.2.2.1.trans (hb.mono (by simp; omega))) (by omega) _
    refine bodyPost_ret (node_results rfl (cs := #[.int .u8 0, .string ⟨#[]⟩, .slice none 0 0]) rfl (setRow_heap _ _ _ _ _ _ hrb) rfl) rfl ⟨hbw, ?_⟩
    rw [HRN.out]
    exact ⟨_, rfl, _, rfl, EsAt.nil _ _, by decide, by decide⟩
  | some l =>
    have HRN := Lib.hid (show atR nd s = (match atN nd l with | none => (5, zNd) | some x => (0, x)) by unfold atR; rw [hr]; rfl)
    have HRM := Lib.hid hr
    clear hr
    go_wp2_with (first
      | (go_at_call 45; refine (HROW.out _).mono ?_; rintro e W ⟨hb, he⟩; rw [HRM.out] at he; obtain ⟨vr, rfl, hown⟩ := he
         obtain ⟨htx, gr, cap, rfl⟩ := txc_of_own hown
         clear hown)
      | (refine wpList_store_row rfl _ _ _ rfl _ _ rfl rfl _ _ hrb (by kernel_rfl) (by rfl) (by simp [Value.oneCell']) ?_))
    have hW0 : RAtInv w B nd l gr cap 0 nd A c W := by
      have hz := hb.size
      simp at hz
      refine ⟨(hb.block _ (by simp; omega)).trans HZ.out.2.1, (hb.block _ (by simp)).trans HZ.out.1, hes.keep ((HZ.out.2.2.1.trans (hb.mono (by simp; omega))).mono hB), hd, hk, ?_, HZ.out.2.2.1.trans (hb.mono (by simp; omega)), by simp⟩
      rw [show w.heap.size + 2 = w.heap.size + 1 + 1 from rfl]
      simpa using htx
    have HW0 := Lib.hid hW0
    clear hW0 htx hb hes hd hk hlc hcm
    go_loopg [8, 9] l.length (fun g u8 _ wx => ∃ (i : Nat) (cur : Nd) (A' : Option Addr) (c' : Nat), u8 = .int .i64 (i : Int) ∧ i + g = l.length ∧ Hid (RAtInv w B nd l gr cap i cur A' c' wx))
    case atStart => exact ⟨0, nd, A, c, rfl, by omega, HW0.out⟩
    case round =>
      clear HW0
      obtain ⟨i, cur, A', c', rfl, hig, HI⟩ := hrel
      cases gk with
      | zero =>
        obtain rfl : i = l.length := by omega
        obtain ⟨hn0, hn1, hn2, _⟩ := nd_box (W := wr) (k := cur.k) (d := cur.d) (v := .slice A' cur.es.len c') HI.out.box
        have hrb := HI.out.res
        have HRB := Lib.hid hrb
        go_wp2_with (refine wpList_store_row rfl _ _ _ rfl _ _ rfl rfl _ _ hrb (by kernel_rfl) (by rfl) (by simp [Value.oneCell']) ?_)
        have hbw : Below w.heap.size w (wr.setRow (w.heap.size + 1) #[.int .u8 (cur.k : Int), .string cur.d, .slice A' cur.es.len c']) := below_setRow HI.out.below (by omega) _
        refine bodyPost_ret (node_results rfl (cs := #[.int .u8 (cur.k : Int), .string cur.d, .slice A' cur.es.len c']) rfl (setRow_heap _ _ _ _ _ _ HRB.out) rfl) rfl ⟨hbw, ?_⟩
        have he : atN nd l = some cur := by rw [HI.out.at', List.drop_eq_nil_of_le (Nat.le_refl _)]; rfl
        rw [HRN.out, he]
        exact ⟨_, rfl, _, rfl, HI.out.es.keep (below_setRow (Below.refl _ _) (by omega) _), HI.out.dz, HI.out.kz⟩
      | succ g =>
        have hil : i < l.length := by omega
        obtain ⟨x, hx⟩ : ∃ x, l[i]? = some x := ⟨_, List.getElem?_eq_getElem hil⟩
        obtain ⟨gq, cap2, hgq, hge, hcell⟩ := txc_cell HI.out.row hx
        injection hge with hge1 _ hge2
        subst hge1
        subst hge2
        obtain ⟨hn0, hn1, hn2, _⟩ := nd_box (W := wr) (k := cur.k) (d := cur.d) (v := .slice A' cur.es.len c') HI.out.box
        have hdrop : l.drop i = x :: l.drop (i + 1) := by
          rw [List.drop_eq_getElem_cons hil]
          rw [List.getElem?_eq_getElem hil] at hx
          rw [Option.some.inj hx]
        have hat : atN nd l = if (placeN cur x).2 then atN (kidE cur.es (placeN cur x).1) (l.drop (i + 1)) else none := by rw [HI.out.at', hdrop]; rfl
        have HAT := Lib.hid hat
        have HPL := Lib.hid (fun (W' : World) (hb' : Below wr.heap.size wr W') => find_any W' B (Nat.le_trans hB (Nat.le_trans HI.out.below.size hb'.size)) _ cur ⟨_, rfl, HI.out.es.keep (hb'.mono (Nat.le_trans hB HI.out.below.size)), HI.out.dz, HI.out.kz⟩ x)
        have hll := rowN_len HRM.out
        have hw1 : IntKind.i64.wrap ((i : Int) + 1) = (i : Int) + 1 := IntWalk.i64_in _ (by omega)
        clear hx hdrop hat hll
        cases hp : (placeN cur x).2 with
        | false =>
          rw [hp] at HAT
          rw [findN_neg hp] at HPL
          have HE := Lib.hid (show atR nd s = (5, zNd) by rw [HRN.out, HAT.out]; rfl)
          clear hp
          have hmo : Tryd.prog.follows .mixedOrders = true := by kernel_rfl
          go_wp2
          go_region_with (go_at_call 46; refine (HPL.out wr.drew ⟨rfl, rfl, rfl, Nat.le_refl _, fun _ _ => rfl⟩).mono ?_; rintro e W2 ⟨rfl, hb2'⟩; have hb2 : Below wr.heap.size wr W2 := ⟨hb2'.os, hb2'.tape, hb2'.output, hb2'.size, hb2'.block⟩; clear hb2')
          all_goals
            have hI2 := HI.out.keep hB hb2
            have hrb := hI2.res
            go_wp2_with (refine wpList_store_row rfl _ _ _ rfl _ _ rfl rfl _ _ hrb (by kernel_rfl) (by rfl) (by simp [Value.oneCell']) ?_)
            have hbw : Below w.heap.size w (W2.setRow (w.heap.size + 1) #[.int .u8 0, .string ⟨#[]⟩, .slice none 0 0]) := below_setRow hI2.below (by omega) _
            refine bodyPost_ret (node_results rfl (cs := #[.int .u8 0, .string ⟨#[]⟩, .slice none 0 0]) rfl (setRow_heap _ _ _ _ _ _ hrb) rfl) rfl ⟨hbw, ?_⟩
            rw [HE.out]
            exact ⟨_, rfl, _, rfl, EsAt.nil _ _, by decide, by decide⟩
        | true =>
          have hpl := placeN_lt hp
          rw [hp] at HAT
          rw [findN_pos hp] at HPL
          have hmo : Tryd.prog.follows .mixedOrders = true := by kernel_rfl
          obtain ⟨ab, ao, rfl, hlt, hcs⟩ := es_addr HI.out.es (by omega)
          obtain ⟨hk1, hk2, hk3, hk4, A2, c2, hk5, hk6⟩ := kid_at hcs hpl hlt
          generalize (placeN cur x).1 = pi at *
          have HK := Lib.hid (And.intro hk1 (And.intro hk2 (And.intro hk3 (And.intro hk4 (And.intro hk5 hk6)))))
          clear hp hcs hk1 hk2 hk3 hk4 hk5 hk6
          go_wp2
          go_region_with (go_at_call 46; refine (HPL.out wr.drew ⟨rfl, rfl, rfl, Nat.le_refl _, fun _ _ => rfl⟩).mono ?_; rintro e W2 ⟨rfl, hb2'⟩; have hb2 : Below wr.heap.size wr W2 := ⟨hb2'.os, hb2'.tape, hb2'.output, hb2'.size, hb2'.block⟩; clear hb2')
          all_goals
            have hI2 := HI.out.keep hB hb2
            have hnb := hI2.box
            have hm2 := (nd_box (W := W2) (k := cur.k) (d := cur.d) (v := .slice (some ⟨ab, ao, none⟩) cur.es.len c') hI2.box).2.2.1
            have hBr : B ≤ wr.heap.size := Nat.le_trans hB HI.out.below.size
            have hq1 : W2.cell? ⟨ab, ao + pi * 4 + 1, none⟩ = _ := (hb2.cell (p := ⟨ab, ao + pi * 4 + 1, none⟩) (by show ab < _; omega)).trans HK.out.1
            have hq2 : W2.cell? ⟨ab, ao + pi * 4 + 2, none⟩ = _ := (hb2.cell (p := ⟨ab, ao + pi * 4 + 2, none⟩) (by show ab < _; omega)).trans HK.out.2.1
            have hq3 : W2.cell? ⟨ab, ao + pi * 4 + 3, none⟩ = _ := (hb2.cell (p := ⟨ab, ao + pi * 4 + 3, none⟩) (by show ab < _; omega)).trans HK.out.2.2.2.2.1
            go_wp2_with (refine wpList_store_row rfl _ _ _ rfl _ _ rfl rfl _ _ hnb (by kernel_rfl) (by rfl) (by simp [Value.oneCell']) ?_)
            go_roundg g
            case measure => omega
            case rel =>
              have hbs : Below B W2 (W2.setRow w.heap.size #[.int .u8 ((kidE cur.es pi).k : Int), .string (kidE cur.es pi).d, .slice A2 (kidE cur.es pi).es.len c2]) := below_setRow (Below.refl _ _) hB _
              refine ⟨i + 1, kidE cur.es pi, A2, c2, by simp, by omega, ⟨setRow_heap _ _ _ _ _ _ hI2.box, (setRow_other _ _ _ _ (by omega)).trans hI2.res, (HK.out.2.2.2.2.2.keep (hb2.mono hBr)).keep hbs, HK.out.2.2.1, HK.out.2.2.2.1, txc_keep hI2.row (fun g hg _ => setRow_other _ _ _ _ (by omega)), below_setRow hI2.below (Nat.le_refl _) _, by rw [HAT.out]; rfl⟩⟩
end Go.Proofs.YtmcafiihicanfaaDoor
