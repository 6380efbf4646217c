/- files: the reference's put. -/
import Derived.Test.YtmcafiihicanfaaDoorFmSk
import Derived.RegionCalls
import Derived.Deep.RegionHeld3
import Derived.Deep.MidRow
set_option linter.unusedVariables false
set_option linter.unusedSimpArgs false
namespace Go.Proofs.YtmcafiihicanfaaDoor
open Go Go.RowKit Go.BigFrame
open Fil (Es Nd Sp)

def set4 (W : World) (g o : Nat) (a b c d : Value) : World := (((W.setCell ⟨g, o, none⟩ a).setCell ⟨g, o + 1, none⟩ b).setCell ⟨g, o + 2, none⟩ c).setCell ⟨g, o + 3, none⟩ d
theorem set4_block (W : World) (g o : Nat) (a b c d : Value) {k : Nat} (h : k ≠ g) : (set4 W g o a b c d).heap[k]? = W.heap[k]? := (Below.heap_setCell _ _ _ _ h).trans ((Below.heap_setCell _ _ _ _ h).trans ((Below.heap_setCell _ _ _ _ h).trans (Below.heap_setCell _ _ _ _ h)))
theorem set4_cell (W : World) (g o : Nat) (a b c d : Value) {p : Addr} (h : p.block ≠ g) : (set4 W g o a b c d).cell? p = W.cell? p := World.cell?_of_block (set4_block W g o a b c d h)
theorem set4_below {B g : Nat} {w W : World} (h : Below B w W) (o : Nat) (hg : B ≤ g) (a b c d : Value) : Below B w (set4 W g o a b c d) := (((h.setCell (p := ⟨g, o, none⟩) hg a).setCell (p := ⟨g, o + 1, none⟩) hg b).setCell (p := ⟨g, o + 2, none⟩) hg c).setCell (p := ⟨g, o + 3, none⟩) hg d
theorem set4_own {w : World} {base n cap g o : Nat} {e : TypeId} {xs : List Value} {size : Nat} (h : w.ownsRow base e size (.slice (some ⟨g, 0, none⟩) n cap) n xs) (a b c d : Value) (hi : o + 4 ≤ n * size) : (set4 w g o a b c d).ownsRow base e size (.slice (some ⟨g, 0, none⟩) n cap) n ((((xs.set o a).set (o + 1) b).set (o + 2) c).set (o + 3) d) :=
  own_set (own_set (own_set (own_set h a (by omega)) b (by omega)) c (by omega)) d (by omega)
theorem EntL.setn {w : World} {B : Nat} : ∀ {es : Es} {xs : List Value} {i : Nat}, EntL w B es xs → i < es.len → EntL w B es (xs.set (4 * i) (.string (nmE es i)))
  | .nil, _, _, _, h => by simp [Es.len] at h
  | .cons nm k d s nx, _, 0, h, _ => by
    obtain ⟨sv, xs', rfl, a⟩ := h
    exact ⟨sv, xs', rfl, a⟩
  | .cons nm k d s nx, _, i + 1, h, hi => by
    obtain ⟨sv, xs', rfl, a1, a2, a3, a4, a5⟩ := h
    refine ⟨sv, _, ?_, a1, a2, a3, a4, EntL.setn (i := i) a5 (by simp [Es.len] at hi; omega)⟩
    rw [show 4 * (i + 1) = 4 * i + 1 + 1 + 1 + 1 by omega]
    simp only [List.set_cons_succ, nmE]
def RputPost (w : World) (r : Nd × Bool) (e : Ending) (W : World) : Prop :=
  Below w.heap.size w W ∧ ∃ v, e = .returned (.tuple #[v, .bool r.2]) ∧ NdV W W.heap.size v r.1
set_option maxRecDepth 1000000 in
set_option maxRecDepth 100000 in
set_option maxHeartbeats 8000000 in
theorem rput_any : ∀ (l : List ByteArray), (∀ x ∈ l, x.size ≤ maxLen) → ∀ (nd x : Nd), nd.es.count ≤ 1000000 → ∀ (w : World) (B : Nat), B ≤ w.heap.size → ∀ v vl vx, NdV w B v nd → TxS w vl l → NdV w B vx x →
    Calls Tryd.prog 49 #[v, vl, vx] w (RputPost w (putP nd l x))
  | [], hns, nd, x, hct, w, B, hB, v, vl, vx, hv, hl, hvx => by
    obtain ⟨ev, rfl, hes, hd, hk⟩ := hv
    obtain ⟨A, c, rfl, hlc, hcm⟩ := hes.form
    obtain ⟨ex, rfl, hex, hdx, hkx⟩ := hvx
    obtain ⟨Ax, cx, rfl, hlcx, hcmx⟩ := hex.form
    obtain ⟨Al, cl, rfl, hll, hlm, hlr⟩ := hl
    go_enter Tryd.func49, Tryd.ntmps49
    obtain ⟨w3, e3, hb0, hb1, hb2, hbw, hsz⟩ := rows3 w (.cells #[.int .u8 (nd.k : Int), .string nd.d, .slice A nd.es.len c] 26) (.cells #[.int .u8 (x.k : Int), .string x.d, .slice Ax x.es.len cx] 26) (.cells #[.int .u8 0, .string ⟨#[]⟩, .slice none 0 0] 26)
    have HE := Lib.hid (And.intro hes hex)
    have H3 := Lib.hid (And.intro hb0 (And.intro hb1 (And.intro hb2 (And.intro hbw hsz))))
    clear hes hex
    go_upto_region 1 with (fail)
    rw [← e3]
    clear e3
    obtain ⟨hn0, hn1, hn2, _⟩ := nd_box (W := w3) (k := nd.k) (d := nd.d) (v := .slice A nd.es.len c) hb0
    obtain ⟨hm0, hm1, hm2, _⟩ := nd_box (W := w3) (k := x.k) (d := x.d) (v := .slice Ax x.es.len cx) hb1
    clear hlr hb0 hb1 hn0 hn1 hn2
    go_wp2_with (refine wpList_store_row rfl _ _ _ rfl _ _ rfl rfl _ _ hb2 (by kernel_rfl) (by rfl) (by simp [Value.oneCell']) ?_)
    refine bodyPost_ret (node_results rfl (cs := #[.int .u8 (x.k : Int), .string x.d, .slice Ax x.es.len cx]) rfl (setRow_heap _ _ _ _ _ _ H3.out.2.2.1) rfl) rfl ⟨below_setRow H3.out.2.2.2.1 (by omega) _, _, rfl, _, rfl, ?_, hdx, hkx⟩
    have hz : B ≤ w.heap.size := hB
    exact (HE.out.2.keep ((below_setRow H3.out.2.2.2.1 (show w.heap.size ≤ w.heap.size + 2 by omega) _).mono hB)).more (by simp; omega)
  | nm :: l, hns, nd, x, hct, w, B, hB, v, vl, vx, hv, hl, hvx => by
    obtain ⟨ev, rfl, hes, hd, hk⟩ := hv
    obtain ⟨A, c, rfl, hlc, hcm⟩ := hes.form
    obtain ⟨ex, rfl, hex, hdx, hkx⟩ := hvx
    obtain ⟨Ax, cx, rfl, hlcx, hcmx⟩ := hex.form
    obtain ⟨Al, cl, rfl, hll, hlm, hlr⟩ := hl
    go_enter Tryd.func49, Tryd.ntmps49
    obtain ⟨w3, e3, hb0, hb1, hb2, hbw, hsz⟩ := rows3 w (.cells #[.int .u8 (nd.k : Int), .string nd.d, .slice A nd.es.len c] 26) (.cells #[.int .u8 (x.k : Int), .string x.d, .slice Ax x.es.len cx] 26) (.cells #[.int .u8 0, .string ⟨#[]⟩, .slice none 0 0] 26)
    have HE := Lib.hid (And.intro hes hex)
    have H3 := Lib.hid (And.intro hb0 (And.intro hb1 (And.intro hb2 (And.intro hbw hsz))))
    clear hes hex
    go_upto_region 1 with (fail)
    rw [← e3]
    clear e3
    obtain ⟨hn0, hn1, hn2, _⟩ := nd_box (W := w3) (k := nd.k) (d := nd.d) (v := .slice A nd.es.len c) hb0
    obtain ⟨hm0, hm1, hm2, _⟩ := nd_box (W := w3) (k := x.k) (d := x.d) (v := .slice Ax x.es.len cx) hb1
    obtain ⟨lb, lo, rfl, hlb, hlc2⟩ := hlr (by simp)
    have hl0 : w3.cell? ⟨lb, lo, none⟩ = some (.string nm) := (H3.out.2.2.2.1.cell (p := ⟨lb, lo, none⟩) hlb).trans (hlc2 0 nm rfl)
    have HL := Lib.hid (And.intro hlb hlc2)
    have IH := Lib.hid (rput_any l (fun y hy => hns y (List.mem_cons_of_mem _ hy)))
    have HNM := Lib.hid (hns nm List.mem_cons_self)
    have HCT := Lib.hid (And.intro hct (len_le_count nd.es))
    have hlen : (nm :: l).length = l.length + 1 := rfl
    rw [hlen] at hll
    clear hlr hlb hlc2 hct hns
    by_cases h4 : nd.k = 4
    rotate_left
    · have e4 : ((nd.k : Int) != 4) = true := bne_iff_ne.2 (by omega)
      have HR := Lib.hid (show putP nd (nm :: l) x = (nd, false) by unfold putP; rw [if_neg h4])
      have hz0 : (((l.length : Int) + 1) == 0) = false := beq_eq_false_iff_ne.2 (by omega)
      clear h4 hb0 hb1 hl0 hm0 hm1 hm2
      go_wp2_with (refine wpList_store_row rfl _ _ _ rfl _ _ rfl rfl _ _ hb2 (by kernel_rfl) (by rfl) (by simp [Value.oneCell']) ?_)
      refine bodyPost_ret (node_results rfl (cs := #[.int .u8 (nd.k : Int), .string nd.d, .slice A nd.es.len c]) rfl (setRow_heap _ _ _ _ _ _ hb2) rfl) rfl ⟨below_setRow H3.out.2.2.2.1 (by omega) _, ?_⟩
      rw [HR.out]
      exact ⟨_, rfl, _, rfl, (HE.out.1.keep ((below_setRow H3.out.2.2.2.1 (show w.heap.size ≤ w.heap.size + 2 by omega) _).mono hB)).more (by simp; omega), hd, hk⟩
    have e4 : ((nd.k : Int) != 4) = false := by rw [h4]; rfl
    have hz0 : (((l.length : Int) + 1) == 0) = false := beq_eq_false_iff_ne.2 (by omega)
    have HR := Lib.hid (show putP nd (nm :: l) x = (if (placeN nd nm).2 then (⟨nd.k, nd.d, setE nd.es (placeN nd nm).1 (putP (kidE nd.es (placeN nd nm).1) l x).1⟩, (putP (kidE nd.es (placeN nd nm).1) l x).2) else if l = [] then (⟨nd.k, nd.d, insE nm x nd.es⟩, true) else (nd, false)) by rw [putP, if_pos h4])
    have H4 := Lib.hid h4
    have HPL := Lib.hid (fun (w' : World) (h : KeepW w3 w3.heap.size w') => h.calls (find_any w' B (by have := h.2; omega) _ nd ⟨_, rfl, HE.out.1.keep ((below_step hbw h.1 (by omega)).mono hB), hd, hk⟩ nm))
    have HK0 := Lib.hid (KeepW.start (Nat.le_refl w3.heap.size))
    have HCL := Lib.hid (fun (w' : World) (h : KeepW w3 w3.heap.size w') => show w'.cell? ⟨w.heap.size, 0, none⟩ = some (.int .u8 (nd.k : Int)) ∧ w'.cell? ⟨w.heap.size, 1, none⟩ = some (.string nd.d) ∧ w'.cell? ⟨w.heap.size, 2, none⟩ = some (.slice A nd.es.len c) ∧ w'.cell? ⟨lb, lo, none⟩ = some (.string nm) ∧ KeepW w3 w3.heap.size w' from
      ⟨(h.1.cell (p := ⟨w.heap.size, 0, none⟩) (by show w.heap.size < _; omega)).trans hn0, (h.1.cell (p := ⟨w.heap.size, 1, none⟩) (by show w.heap.size < _; omega)).trans hn1, (h.1.cell (p := ⟨w.heap.size, 2, none⟩) (by show w.heap.size < _; omega)).trans hn2, (h.1.cell (p := ⟨lb, lo, none⟩) (by show lb < _; have := HL.out.1; omega)).trans hl0, h⟩)
    clear h4 hb0 hb1 hb2 hbw
    go_wp2
    go_region_held3 (fun w' => w'.cell? ⟨w.heap.size, 0, none⟩ = some (.int .u8 (nd.k : Int)) ∧ w'.cell? ⟨w.heap.size, 1, none⟩ = some (.string nd.d) ∧ w'.cell? ⟨w.heap.size, 2, none⟩ = some (.slice A nd.es.len c) ∧ w'.cell? ⟨lb, lo, none⟩ = some (.string nm) ∧ KeepW w3 w3.heap.size w') (first | exact HCL.out _ (by first | assumption | exact KeepW.drew HK0.out | exact KeepW.drew (by assumption)) | go_keep) (first | (go_at_call 46; refine (HPL.out _ (by first | assumption | exact KeepW.drew HK0.out)).mono ?_; rintro e W2 ⟨rfl, hk2⟩))
    clear hl0 HPL
    have HB2 := Lib.hid (below_step H3.out.2.2.2.1 (show KeepW w3 w3.heap.size W2 by assumption).1 (by omega))
    have HK2 := Lib.hid (show KeepW w3 w3.heap.size W2 by assumption)
    have hsz2 : w.heap.size + 3 ≤ W2.heap.size := by have := HK2.out.2; omega
    have hr2 := (HK2.out.1.block (w.heap.size + 2) (by omega)).trans H3.out.2.2.1
    cases hp : (placeN nd nm).2 with
    | false =>
      rw [hp] at HR
      rw [findN_neg hp]
      cases hl1 : l with
      | cons nm2 l2 =>
        have hz1 : decide ((1 : Int) < (l2.length : Int) + 1 + 1) = true := decide_eq_true (by omega)
        have HRZ := Lib.hid (show putP nd (nm :: l) x = (nd, false) by rw [HR.out, if_neg (by simp), if_neg (by rw [hl1]; simp)])
        obtain ⟨hn0', hn1', hn2', _, _⟩ := HCL.out W2 HK2.out
        clear HR IH hm0 hm1 hm2
        have hlz : (nm2 :: l2).length = l2.length + 1 := rfl
        rw [hlz]
        go_wp2_with (refine wpList_store_row rfl _ _ _ rfl _ _ rfl rfl _ _ hr2 (by kernel_rfl) (by rfl) (by simp [Value.oneCell']) ?_)
        refine bodyPost_ret (node_results rfl (cs := #[.int .u8 (nd.k : Int), .string nd.d, .slice A nd.es.len c]) rfl (setRow_heap _ _ _ _ _ _ hr2) rfl) rfl ⟨below_setRow HB2.out (by omega) _, ?_⟩
        rw [HRZ.out]
        exact ⟨_, rfl, _, rfl, (HE.out.1.keep ((below_setRow HB2.out (show w.heap.size ≤ w.heap.size + 2 by omega) _).mono hB)).more (by simp; omega), hd, hk⟩
      | nil =>
        subst hl1
        have hlz : ([] : List ByteArray).length = 0 := rfl
        have HRZ := Lib.hid (show putP nd [nm] x = (⟨nd.k, nd.d, insE nm x nd.es⟩, true) by rw [HR.out, if_neg (by simp), if_pos rfl])
        obtain ⟨i0, hi0, hy0, hy1, hyb⟩ := info_parts infoEnt
        rw [hlz] at hz0 hll
        have hle1 := HCT.out.1
        have hle2 := HCT.out.2
        rw [hlz]
        have hzz : decide ((1 : Int) < ((0 : Nat) : Int) + 1) = false := by decide
        have HC2 := Lib.hid (fun (w' : World) (h : KeepW W2 W2.heap.size w') => HCL.out w' ⟨below_step HK2.out.1 h.1 (by omega), by have := h.2; have := HK2.out.2; omega⟩)
        have HX2 := Lib.hid (fun (w' : World) (h : KeepW W2 W2.heap.size w') => nd_box (W := w') (k := x.k) (d := x.d) (v := .slice Ax x.es.len cx) (((below_step HK2.out.1 h.1 (show w3.heap.size ≤ W2.heap.size from HK2.out.2)).block (w.heap.size + 1) (by omega)).trans H3.out.2.1))
        have HBN := Lib.hid (fun (w' : World) (h : KeepW W2 W2.heap.size w') => show w'.heap[w.heap.size]? = some (ndCells nd.k nd.d (.slice A nd.es.len c)) from ((below_step HK2.out.1 h.1 HK2.out.2).block w.heap.size (by omega)).trans H3.out.1)
        have HR5 := Lib.hid (fun (w' : World) (h : KeepW W2 W2.heap.size w') => (h.1.block (w.heap.size + 2) (by omega)).trans hr2)
        clear HR IH hm0 hm1 hm2
        go_wp2
        go_loopg [12] nd.es.len (fun g u12 wx => ∃ i : Nat, u12 = .int .i64 (i : Int) ∧ i + g = nd.es.len ∧ Hid (KeepW W2 W2.heap.size wx) ∧ Hid (i ≤ aheadE nm nd.es))
        case atStart => exact ⟨0, rfl, by omega, KeepW.start (Nat.le_refl _), Nat.zero_le _⟩
        case round =>
          obtain ⟨i, rfl, hig, HW, HI⟩ := hrel
          obtain ⟨_, _, hc2, hcl, _⟩ := HC2.out wr HW.out
          cases gk with
          | zero =>
            obtain rfl : i = nd.es.len := by omega
            have HA := Lib.hid (show aheadE nm nd.es = nd.es.len by have := aheadE_le nm nd.es; have := HI.out; omega)
            go_wp2
            go_quiet (fail)
            have HW3 := Lib.hid (HW.out.drewN nq)
            clear hc2 hcl HW
            generalize wr.drewN nq = W3 at *
            have HRW := Lib.hid (below_step HB2.out HW3.out.1 (by omega))
            have HROW := Lib.hid (es_row (HE.out.1.keep (HRW.out.mono hB)))
            obtain ⟨xs, hx1, hx2, hx3, hx4⟩ := HROW.out
            have hxl : xs.length = 4 * nd.es.len := hx1.len
            have hbh := row_behind (i := nd.es.len) (c := c) (by omega) hx3 hx4 (by omega)
            have HX := Lib.hid (And.intro hx1 (And.intro hx2 (And.intro hx3 (And.intro hx4 (And.intro hxl hbh)))))
            have HL2 := Lib.hid hxl
            clear hx1 hx2 hx3 hx4 hbh HROW hxl
            obtain ⟨_, _, hd2, hdl, _⟩ := HC2.out W3 HW3.out
            go_wp2_with (at_builtin; refine wpList_app_opt rfl _ _ 24 rfl W3.heap.size 48 i0 _ 4 64 Tryd.underlying24 hi0 hy0 hy1 hyb rfl (by decide) _ 0 [] rfl (World.ownsRow_nil _ _ _ _) _ nd.es.len _ (xs.take (4 * nd.es.len)) rfl HX.out.2.2.2.1 (by omega) (by rw [List.length_take]; have := HL2.out; omega) (fun ad e j u hu => HX.out.2.2.1 ad e j u (take_get hu)) (fun u hu => HX.out.1.one u (List.mem_of_mem_take hu)) (by unfold maxLen; omega) (by omega) (Nat.le_refl _) ?_)
            intro v5 w5 hown5 hg5
            have hb5 : Below W3.heap.size W3 w5 := (Below.refl _ _).grown hg5 (Nat.le_refl _) (fun k e => by cases e)
            have hk5 : KeepW W2 W2.heap.size w5 := HW3.out.step hb5
            obtain ⟨g5, c5, hv5⟩ : ∃ A5 c5, v5 = .slice A5 nd.es.len c5 := by
              rcases hown5.2 with ⟨h, h0⟩ | ⟨gq, capq, cur, h, _⟩
              · exact ⟨none, 0, by rw [h, h0]⟩
              · exact ⟨_, _, h⟩
            subst hv5
            obtain ⟨_, _, _, hql, _⟩ := HC2.out w5 hk5
            obtain ⟨hp0, hp1, hp2, _⟩ := HX2.out w5 hk5
            have HO5 := Lib.hid ((hown5.alloc (.cells #[.string nm, .int .u8 (x.k : Int), .string x.d, .slice Ax x.es.len cx] 48)).drew)
            have hnz : ((w5.alloc (.cells #[.string nm, .int .u8 (x.k : Int), .string x.d, .slice Ax x.es.len cx] 48)).drew).heap[w5.heap.size]? = some (.cells #[.string nm, .int .u8 (x.k : Int), .string x.d, .slice Ax x.es.len cx] 48) := heap_alloc_new w5 _
            have HNZ := Lib.hid (World.news_of_block hnz)
            have hb5z := hb5.size
            have HBZ := Lib.hid ((hb5.alloc hb5z (.cells #[.string nm, .int .u8 (x.k : Int), .string x.d, .slice Ax x.es.len cx] 48)).drew)
            have HO := Lib.hid hown5
            clear hd2 hdl hnz hown5 hb5 hk5 hg5
            go_wp2
            go_region_law ((refine step_append_lies _ (by rfl) _ _ _ (by rfl) W3.heap.size 48 i0 _ 4 64 Tryd.underlying24 hi0 hy0 hy1 hyb rfl (by omega) (.slice g5 nd.es.len c5) nd.es.len _ (by rfl) HO5.out ⟨w5.heap.size, 0, none⟩ 1 1 [.string nm, .int .u8 (x.k : Int), .string x.d, .slice Ax x.es.len cx] (by rfl) (by rfl) HNZ.out (by intro u hu; simp at hu; rcases hu with rfl | rfl | rfl | rfl <;> rfl) (by omega) (by unfold maxLen; omega) (by omega) (by have := HBZ.out.size; exact this) (w5.heap.size + 1) (by simp) ?_; intro gg c6 w6 hown6 hgr6 hat6 hlt6))
            all_goals
              have hb6 : Below W3.heap.size W3 w6 := HBZ.out.grown hgr6 HBZ.out.size (fun k e => (HO.out.lt k e).1)
              have hk6 : KeepW W2 W2.heap.size w6 := HW3.out.step hb6
              obtain ⟨_, _, hd2, _, _⟩ := HC2.out w6 hk6
              have H6 := Lib.hid (And.intro hown6 (And.intro hb6 hk6))
              clear hown6 hgr6 hat6 hlt6 hb6 hk6 HO5 HNZ HBZ HO hql hp0 hp1 hp2
              rcases Nat.eq_or_lt_of_le hlc with hci | hci
              · subst hci
                go_wp2_with (at_builtin; refine wpList_app_opt rfl _ _ 24 rfl W3.heap.size 48 i0 _ 4 64 Tryd.underlying24 hi0 hy0 hy1 hyb rfl (by decide) _ _ _ rfl H6.out.1 A _ _ (xs.drop (4 * nd.es.len)) rfl (by intro _; rfl) (by omega) (by have := HL2.out; (try simp only [List.length_drop]); omega) (by exact fun ad e j u hu => by have h0 := (List.getElem?_eq_some_iff.1 hu).1; (try simp only [List.length_drop] at h0); have := HL2.out; omega) (fun u hu => HX.out.1.one u (List.mem_of_mem_drop hu)) (by unfold maxLen; omega) (by omega) H6.out.2.1.size ?_)
                intro v7 w7 hown7 hg7
                have hb7 : Below W3.heap.size W3 w7 := H6.out.2.1.grown hg7 H6.out.2.1.size (fun k e => (H6.out.1.lt k e).1)
                have hk7 : KeepW W2 W2.heap.size w7 := HW3.out.step hb7
                obtain ⟨g7, c7, rfl⟩ := own_at4 hown7 (by omega)
                obtain ⟨hq0, hq1, hq2, _, _, hq5⟩ := nd_box (HBN.out w7 hk7)
                have hr7 := HR5.out w7 hk7
                have hz7 : w.heap.size + 3 ≤ W3.heap.size := Nat.le_trans hsz2 HW3.out.2
                have HI7 := Lib.hid (show insE nm x nd.es = appE (takeE nd.es.len nd.es) (.cons nm x.k x.d x.es (dropE nd.es.len nd.es)) by unfold insE; rw [HA.out])
                have hlen7 : (nd.es.len + 1) = (insE nm x nd.es).len := by rw [HI7.out, app_len, take_len _ _ (by omega)]; show _ = _ + ((dropE nd.es.len nd.es).len + 1); rw [drop_len _ _ (by omega)]; omega
                have hrb : (w7.setCell ⟨w.heap.size, 2, none⟩ (.slice (some ⟨g7, 0, none⟩) (nd.es.len + 1) c7)).heap[w.heap.size + 2]? = some (.cells #[.int .u8 0, .string ⟨#[]⟩, .slice none 0 0] 26 (0, 0)) := (heap_setCell_other _ _ _ _ (by show w.heap.size + 2 ≠ w.heap.size; omega)).trans hr7
                have H7 := Lib.hid (And.intro hown7 (And.intro hb7 (And.intro hz7 hlen7)))
                clear hown7 hb7 hz7 hlen7 hg7 hr7 hk7
                go_wp2_with (refine wpList_store_row rfl _ _ _ rfl _ _ rfl rfl _ _ hrb (by kernel_rfl) (by rfl) (by simp [Value.oneCell']) ?_)
                have hch : Ch w7 ((w7.setCell ⟨w.heap.size, 2, none⟩ (.slice (some ⟨g7, 0, none⟩) (nd.es.len + 1) c7)).setRow (w.heap.size + 2) #[.int .u8 (nd.k : Int), .string nd.d, .slice (some ⟨g7, 0, none⟩) (nd.es.len + 1) c7]) (fun k => k < w.heap.size + 3 ∧ w.heap.size ≤ k) := by
                  have h1 := (Ch.refl w7 (fun k => k < w.heap.size + 3 ∧ w.heap.size ≤ k)).setCell (p := ⟨w.heap.size, 2, none⟩) ⟨by show w.heap.size < _; omega, Nat.le_refl _⟩ (.slice (some ⟨g7, 0, none⟩) (nd.es.len + 1) c7)
                  exact ⟨h1.os, h1.tape, h1.output, by simp, fun k hk hn => (setRow_other _ _ _ _ (by omega)).trans (h1.block k hk hn)⟩
                have hbl : Below w.heap.size W3 ((w7.setCell ⟨w.heap.size, 2, none⟩ (.slice (some ⟨g7, 0, none⟩) (nd.es.len + 1) c7)).setRow (w.heap.size + 2) #[.int .u8 (nd.k : Int), .string nd.d, .slice (some ⟨g7, 0, none⟩) (nd.es.len + 1) c7]) :=
                  (H7.out.2.1.mono (by have := H7.out.2.2.1; omega)).trans (hch.below (by have := H7.out.2.2.1; have := H7.out.2.1.size; omega) (fun k h => h.2))
                have hown := hch.own H7.out.1 (fun b hb h => by have := (H7.out.1.lt b hb).1; have := H7.out.2.2.1; omega)
                have hE := ownE_cells hown H7.out.2.2.2 (B := B) (by
                  rw [HI7.out]
                  try rw [List.append_assoc]
                  exact ((HX.out.1.take nd.es.len).app (show EntL W3 B (.cons nm x.k x.d x.es (dropE nd.es.len nd.es)) _ from ⟨_, _, rfl, HNM.out, hdx, hkx, HE.out.2.keep (HRW.out.mono hB), HX.out.1.drop nd.es.len⟩)).keep (hbl.mono hB)) (by have := hch.size; have := H7.out.2.2.1; have := H7.out.2.1.size; omega) (by unfold maxLen; omega)
                refine bodyPost_ret (node_results rfl (cs := #[.int .u8 (nd.k : Int), .string nd.d, .slice (some ⟨g7, 0, none⟩) (nd.es.len + 1) c7]) rfl (setRow_heap _ _ _ _ _ _ hrb) rfl) rfl ⟨HRW.out.trans hbl, ?_⟩
                rw [HRZ.out]
                exact ⟨_, rfl, _, rfl, hE, hd, hk⟩
              · have hcn : ¬ c = nd.es.len := by omega
                go_wp2_with (at_builtin; refine wpList_app_opt rfl _ _ 24 rfl W3.heap.size 48 i0 _ 4 64 Tryd.underlying24 hi0 hy0 hy1 hyb rfl (by decide) _ _ _ rfl H6.out.1 (A.map (fun x => x.add (nd.es.len * 4))) _ _ (xs.drop (4 * nd.es.len)) rfl (by have h := HX.out.2.2.2.2.2.2; rw [if_neg (by omega)] at h; exact h) (by omega) (by have := HL2.out; (try simp only [List.length_drop]); omega) (by have h := HX.out.2.2.2.2.2.1; rw [if_neg (by omega)] at h; exact fun ad e j u hu => (H6.out.2.1.cell (p := ad.add j) (by rw [add_block]; exact Nat.lt_of_lt_of_le (behind_lt HX.out.2.1 e (by have h0 := (List.getElem?_eq_some_iff.1 hu).1; rw [List.length_drop] at h0; have := HL2.out; omega) hB) (Nat.le_trans hsz2 HW3.out.2))).trans (h ad e j u hu)) (fun u hu => HX.out.1.one u (List.mem_of_mem_drop hu)) (by unfold maxLen; omega) (by omega) H6.out.2.1.size ?_)
                intro v7 w7 hown7 hg7
                have hb7 : Below W3.heap.size W3 w7 := H6.out.2.1.grown hg7 H6.out.2.1.size (fun k e => (H6.out.1.lt k e).1)
                have hk7 : KeepW W2 W2.heap.size w7 := HW3.out.step hb7
                obtain ⟨g7, c7, rfl⟩ := own_at4 hown7 (by omega)
                obtain ⟨hq0, hq1, hq2, _, _, hq5⟩ := nd_box (HBN.out w7 hk7)
                have hr7 := HR5.out w7 hk7
                have hz7 : w.heap.size + 3 ≤ W3.heap.size := Nat.le_trans hsz2 HW3.out.2
                have HI7 := Lib.hid (show insE nm x nd.es = appE (takeE nd.es.len nd.es) (.cons nm x.k x.d x.es (dropE nd.es.len nd.es)) by unfold insE; rw [HA.out])
                have hlen7 : (nd.es.len + 1) = (insE nm x nd.es).len := by rw [HI7.out, app_len, take_len _ _ (by omega)]; show _ = _ + ((dropE nd.es.len nd.es).len + 1); rw [drop_len _ _ (by omega)]; omega
                have hrb : (w7.setCell ⟨w.heap.size, 2, none⟩ (.slice (some ⟨g7, 0, none⟩) (nd.es.len + 1) c7)).heap[w.heap.size + 2]? = some (.cells #[.int .u8 0, .string ⟨#[]⟩, .slice none 0 0] 26 (0, 0)) := (heap_setCell_other _ _ _ _ (by show w.heap.size + 2 ≠ w.heap.size; omega)).trans hr7
                have H7 := Lib.hid (And.intro hown7 (And.intro hb7 (And.intro hz7 hlen7)))
                clear hown7 hb7 hz7 hlen7 hg7 hr7 hk7
                go_wp2_with (refine wpList_store_row rfl _ _ _ rfl _ _ rfl rfl _ _ hrb (by kernel_rfl) (by rfl) (by simp [Value.oneCell']) ?_)
                have hch : Ch w7 ((w7.setCell ⟨w.heap.size, 2, none⟩ (.slice (some ⟨g7, 0, none⟩) (nd.es.len + 1) c7)).setRow (w.heap.size + 2) #[.int .u8 (nd.k : Int), .string nd.d, .slice (some ⟨g7, 0, none⟩) (nd.es.len + 1) c7]) (fun k => k < w.heap.size + 3 ∧ w.heap.size ≤ k) := by
                  have h1 := (Ch.refl w7 (fun k => k < w.heap.size + 3 ∧ w.heap.size ≤ k)).setCell (p := ⟨w.heap.size, 2, none⟩) ⟨by show w.heap.size < _; omega, Nat.le_refl _⟩ (.slice (some ⟨g7, 0, none⟩) (nd.es.len + 1) c7)
                  exact ⟨h1.os, h1.tape, h1.output, by simp, fun k hk hn => (setRow_other _ _ _ _ (by omega)).trans (h1.block k hk hn)⟩
                have hbl : Below w.heap.size W3 ((w7.setCell ⟨w.heap.size, 2, none⟩ (.slice (some ⟨g7, 0, none⟩) (nd.es.len + 1) c7)).setRow (w.heap.size + 2) #[.int .u8 (nd.k : Int), .string nd.d, .slice (some ⟨g7, 0, none⟩) (nd.es.len + 1) c7]) :=
                  (H7.out.2.1.mono (by have := H7.out.2.2.1; omega)).trans (hch.below (by have := H7.out.2.2.1; have := H7.out.2.1.size; omega) (fun k h => h.2))
                have hown := hch.own H7.out.1 (fun b hb h => by have := (H7.out.1.lt b hb).1; have := H7.out.2.2.1; omega)
                have hE := ownE_cells hown H7.out.2.2.2 (B := B) (by
                  rw [HI7.out]
                  try rw [List.append_assoc]
                  exact ((HX.out.1.take nd.es.len).app (show EntL W3 B (.cons nm x.k x.d x.es (dropE nd.es.len nd.es)) _ from ⟨_, _, rfl, HNM.out, hdx, hkx, HE.out.2.keep (HRW.out.mono hB), HX.out.1.drop nd.es.len⟩)).keep (hbl.mono hB)) (by have := hch.size; have := H7.out.2.2.1; have := H7.out.2.1.size; omega) (by unfold maxLen; omega)
                refine bodyPost_ret (node_results rfl (cs := #[.int .u8 (nd.k : Int), .string nd.d, .slice (some ⟨g7, 0, none⟩) (nd.es.len + 1) c7]) rfl (setRow_heap _ _ _ _ _ _ hrb) rfl) rfl ⟨HRW.out.trans hbl, ?_⟩
                rw [HRZ.out]
                exact ⟨_, rfl, _, rfl, hE, hd, hk⟩
          | succ g =>
            have hil : i < nd.es.len := by omega
            obtain ⟨ab, ao, rfl, hlt, hcs⟩ := es_addr HE.out.1 (by omega)
            obtain ⟨nm', k', d', s', hdr, hkd⟩ := drop_head nd.es i hil
            have hbw2 : Below w.heap.size w wr := below_step HB2.out HW.out.1 (by omega)
            have hc0 : wr.cell? ⟨ab, ao + i * 4, none⟩ = some (.string nm') := by
              rw [hbw2.cell (p := ⟨ab, ao + i * 4, none⟩) (by show ab < _; omega)]
              have := cells_drop i hcs
              rw [hdr] at this
              exact this.1
            have hw2 : IntKind.i64.wrap ((i : Int) + 1) = (i : Int) + 1 := IntWalk.i64_in _ (by omega)
            have hilI : (i : Int) < (nd.es.len : Int) := by omega
            have HDR := Lib.hid hdr
            clear hcs hdr hkd hbw2
            rcases Bool.eq_false_or_eq_true (Op.bytesLess nm'.toList nm.toList) with hq | hq
            · have HN := Lib.hid (show i + 1 ≤ aheadE nm nd.es by
                rw [ahead_drop nm nd.es i HI.out, HDR.out]
                have : aheadE nm (.cons nm' k' d' s' (dropE (i + 1) nd.es)) = aheadE nm (dropE (i + 1) nd.es) + 1 := by show (if _ then _ else _) = _; rw [if_pos hq]
                omega)
              go_wp2
              go_quiet (fail)
              have HW3 := Lib.hid (HW.out.drewN nq)
              clear hc2 hcl hc0 HW
              generalize wr.drewN nq = W3 at *
              go_wp2
              go_roundg g
              case measure => omega
              case rel => exact ⟨i + 1, by simp, by omega, HW3, HN⟩
            · have HA := Lib.hid (show aheadE nm nd.es = i by
                rw [ahead_drop nm nd.es i HI.out, HDR.out]
                have : aheadE nm (.cons nm' k' d' s' (dropE (i + 1) nd.es)) = 0 := by show (if _ then _ else _) = _; rw [if_neg (by rw [hq]; exact Bool.false_ne_true)]
                omega)
              go_wp2
              go_quiet (fail)
              have HW3 := Lib.hid (HW.out.drewN nq)
              clear hc2 hcl hc0 HW
              generalize wr.drewN nq = W3 at *
              have HRW := Lib.hid (below_step HB2.out HW3.out.1 (by omega))
              have HROW := Lib.hid (es_row (HE.out.1.keep (HRW.out.mono hB)))
              obtain ⟨xs, hx1, hx2, hx3, hx4⟩ := HROW.out
              have hxl : xs.length = 4 * nd.es.len := hx1.len
              have hbh := row_behind (i := i) (c := c) (by omega) hx3 hx4 (by omega)
              have HX := Lib.hid (And.intro hx1 (And.intro hx2 (And.intro hx3 (And.intro hx4 (And.intro hxl hbh)))))
              have HL2 := Lib.hid hxl
              clear hx1 hx2 hx3 hx4 hbh HROW hxl
              obtain ⟨_, _, hd2, hdl, _⟩ := HC2.out W3 HW3.out
              go_wp2_with (at_builtin; refine wpList_app_opt rfl _ _ 24 rfl W3.heap.size 48 i0 _ 4 64 Tryd.underlying24 hi0 hy0 hy1 hyb rfl (by decide) _ 0 [] rfl (World.ownsRow_nil _ _ _ _) _ i _ (xs.take (4 * i)) rfl HX.out.2.2.2.1 (by omega) (by rw [List.length_take]; have := HL2.out; omega) (fun ad e j u hu => HX.out.2.2.1 ad e j u (take_get hu)) (fun u hu => HX.out.1.one u (List.mem_of_mem_take hu)) (by unfold maxLen; omega) (by omega) (Nat.le_refl _) ?_)
              intro v5 w5 hown5 hg5
              have hb5 : Below W3.heap.size W3 w5 := (Below.refl _ _).grown hg5 (Nat.le_refl _) (fun k e => by cases e)
              have hk5 : KeepW W2 W2.heap.size w5 := HW3.out.step hb5
              obtain ⟨g5, c5, hv5⟩ : ∃ A5 c5, v5 = .slice A5 i c5 := by
                rcases hown5.2 with ⟨h, h0⟩ | ⟨gq, capq, cur, h, _⟩
                · exact ⟨none, 0, by rw [h, h0]⟩
                · exact ⟨_, _, h⟩
              subst hv5
              obtain ⟨_, _, _, hql, _⟩ := HC2.out w5 hk5
              obtain ⟨hp0, hp1, hp2, _⟩ := HX2.out w5 hk5
              have HO5 := Lib.hid ((hown5.alloc (.cells #[.string nm, .int .u8 (x.k : Int), .string x.d, .slice Ax x.es.len cx] 48)).drew)
              have hnz : ((w5.alloc (.cells #[.string nm, .int .u8 (x.k : Int), .string x.d, .slice Ax x.es.len cx] 48)).drew).heap[w5.heap.size]? = some (.cells #[.string nm, .int .u8 (x.k : Int), .string x.d, .slice Ax x.es.len cx] 48) := heap_alloc_new w5 _
              have HNZ := Lib.hid (World.news_of_block hnz)
              have hb5z := hb5.size
              have HBZ := Lib.hid ((hb5.alloc hb5z (.cells #[.string nm, .int .u8 (x.k : Int), .string x.d, .slice Ax x.es.len cx] 48)).drew)
              have HO := Lib.hid hown5
              clear hd2 hdl hnz hown5 hb5 hk5 hg5
              go_wp2
              go_region_law ((refine step_append_lies _ (by rfl) _ _ _ (by rfl) W3.heap.size 48 i0 _ 4 64 Tryd.underlying24 hi0 hy0 hy1 hyb rfl (by omega) (.slice g5 i c5) i _ (by rfl) HO5.out ⟨w5.heap.size, 0, none⟩ 1 1 [.string nm, .int .u8 (x.k : Int), .string x.d, .slice Ax x.es.len cx] (by rfl) (by rfl) HNZ.out (by intro u hu; simp at hu; rcases hu with rfl | rfl | rfl | rfl <;> rfl) (by omega) (by unfold maxLen; omega) (by omega) (by have := HBZ.out.size; exact this) (w5.heap.size + 1) (by simp) ?_; intro gg c6 w6 hown6 hgr6 hat6 hlt6))
              all_goals
                have hb6 : Below W3.heap.size W3 w6 := HBZ.out.grown hgr6 HBZ.out.size (fun k e => (HO.out.lt k e).1)
                have hk6 : KeepW W2 W2.heap.size w6 := HW3.out.step hb6
                obtain ⟨_, _, hd2, _, _⟩ := HC2.out w6 hk6
                have H6 := Lib.hid (And.intro hown6 (And.intro hb6 hk6))
                clear hown6 hgr6 hat6 hlt6 hb6 hk6 HO5 HNZ HBZ HO hql hp0 hp1 hp2
                have hcn : ¬ c = i := by omega
                go_wp2_with (at_builtin; refine wpList_app_opt rfl _ _ 24 rfl W3.heap.size 48 i0 _ 4 64 Tryd.underlying24 hi0 hy0 hy1 hyb rfl (by decide) _ _ _ rfl H6.out.1 (some ⟨ab, ao + i * 4, none⟩) _ _ (xs.drop (4 * i)) rfl (by intro e; cases e) (by omega) (by have := HL2.out; (try simp only [List.length_drop]); omega) (by have h := HX.out.2.2.2.2.2.1; rw [if_neg (by omega), Option.map_some, add_none] at h; exact fun ad e j u hu => (H6.out.2.1.cell (p := ad.add j) (by rw [add_block]; cases e; show ab < _; have := HW3.out.2; omega)).trans (h ad e j u hu)) (fun u hu => HX.out.1.one u (List.mem_of_mem_drop hu)) (by unfold maxLen; omega) (by omega) H6.out.2.1.size ?_)
                intro v7 w7 hown7 hg7
                have hb7 : Below W3.heap.size W3 w7 := H6.out.2.1.grown hg7 H6.out.2.1.size (fun k e => (H6.out.1.lt k e).1)
                have hk7 : KeepW W2 W2.heap.size w7 := HW3.out.step hb7
                obtain ⟨g7, c7, rfl⟩ := own_at4 hown7 (by omega)
                obtain ⟨hq0, hq1, hq2, _, _, hq5⟩ := nd_box (HBN.out w7 hk7)
                have hr7 := HR5.out w7 hk7
                have hz7 : w.heap.size + 3 ≤ W3.heap.size := Nat.le_trans hsz2 HW3.out.2
                have HI7 := Lib.hid (show insE nm x nd.es = appE (takeE i nd.es) (.cons nm x.k x.d x.es (dropE i nd.es)) by unfold insE; rw [HA.out])
                have hlen7 : (i + 1 + (nd.es.len - i)) = (insE nm x nd.es).len := by rw [HI7.out, app_len, take_len _ _ (by omega)]; show _ = _ + ((dropE i nd.es).len + 1); rw [drop_len _ _ (by omega)]; omega
                have hrb : (w7.setCell ⟨w.heap.size, 2, none⟩ (.slice (some ⟨g7, 0, none⟩) (i + 1 + (nd.es.len - i)) c7)).heap[w.heap.size + 2]? = some (.cells #[.int .u8 0, .string ⟨#[]⟩, .slice none 0 0] 26 (0, 0)) := (heap_setCell_other _ _ _ _ (by show w.heap.size + 2 ≠ w.heap.size; omega)).trans hr7
                have H7 := Lib.hid (And.intro hown7 (And.intro hb7 (And.intro hz7 hlen7)))
                clear hown7 hb7 hz7 hlen7 hg7 hr7 hk7
                go_wp2_with (refine wpList_store_row rfl _ _ _ rfl _ _ rfl rfl _ _ hrb (by kernel_rfl) (by rfl) (by simp [Value.oneCell']) ?_)
                have hch : Ch w7 ((w7.setCell ⟨w.heap.size, 2, none⟩ (.slice (some ⟨g7, 0, none⟩) (i + 1 + (nd.es.len - i)) c7)).setRow (w.heap.size + 2) #[.int .u8 (nd.k : Int), .string nd.d, .slice (some ⟨g7, 0, none⟩) (i + 1 + (nd.es.len - i)) c7]) (fun k => k < w.heap.size + 3 ∧ w.heap.size ≤ k) := by
                  have h1 := (Ch.refl w7 (fun k => k < w.heap.size + 3 ∧ w.heap.size ≤ k)).setCell (p := ⟨w.heap.size, 2, none⟩) ⟨by show w.heap.size < _; omega, Nat.le_refl _⟩ (.slice (some ⟨g7, 0, none⟩) (i + 1 + (nd.es.len - i)) c7)
                  exact ⟨h1.os, h1.tape, h1.output, by simp, fun k hk hn => (setRow_other _ _ _ _ (by omega)).trans (h1.block k hk hn)⟩
                have hbl : Below w.heap.size W3 ((w7.setCell ⟨w.heap.size, 2, none⟩ (.slice (some ⟨g7, 0, none⟩) (i + 1 + (nd.es.len - i)) c7)).setRow (w.heap.size + 2) #[.int .u8 (nd.k : Int), .string nd.d, .slice (some ⟨g7, 0, none⟩) (i + 1 + (nd.es.len - i)) c7]) :=
                  (H7.out.2.1.mono (by have := H7.out.2.2.1; omega)).trans (hch.below (by have := H7.out.2.2.1; have := H7.out.2.1.size; omega) (fun k h => h.2))
                have hown := hch.own H7.out.1 (fun b hb h => by have := (H7.out.1.lt b hb).1; have := H7.out.2.2.1; omega)
                have hE := ownE_cells hown H7.out.2.2.2 (B := B) (by
                  rw [HI7.out]
                  try rw [List.append_assoc]
                  exact ((HX.out.1.take i).app (show EntL W3 B (.cons nm x.k x.d x.es (dropE i nd.es)) _ from ⟨_, _, rfl, HNM.out, hdx, hkx, HE.out.2.keep (HRW.out.mono hB), HX.out.1.drop i⟩)).keep (hbl.mono hB)) (by have := hch.size; have := H7.out.2.2.1; have := H7.out.2.1.size; omega) (by unfold maxLen; omega)
                refine bodyPost_ret (node_results rfl (cs := #[.int .u8 (nd.k : Int), .string nd.d, .slice (some ⟨g7, 0, none⟩) (i + 1 + (nd.es.len - i)) c7]) rfl (setRow_heap _ _ _ _ _ _ hrb) rfl) rfl ⟨HRW.out.trans hbl, ?_⟩
                rw [HRZ.out]
                exact ⟨_, rfl, _, rfl, hE, hd, hk⟩
    | true =>
      rw [findN_pos hp]
      have hpl := placeN_lt hp
      rw [hp] at HR
      obtain ⟨ab, ao, rfl, hlt, hcs⟩ := es_addr HE.out.1 (by omega)
      obtain ⟨hk1, hk2, hk3, hk4, A2, c2, hk5, hk6⟩ := kid_at hcs hpl hlt
      have HKC := Lib.hid (kid_count nd.es _ hpl)
      have hpn := place_name hp
      generalize hpi : (placeN nd nm).1 = pi at *
      have HPN := Lib.hid hpn
      clear hpn
      obtain ⟨kd, hkd⟩ : ∃ kd, kd = kidE nd.es pi := ⟨_, rfl⟩
      rw [← hkd] at hk1 hk2 hk3 hk4 hk5 hk6 HKC HR
      have HKD := Lib.hid hkd
      have HPI := Lib.hid hpi
      have HK := Lib.hid (And.intro hk1 (And.intro hk2 (And.intro hk3 (And.intro hk4 (And.intro hk5 hk6)))))
      have HX := Lib.hid (And.intro hcs hlt)
      have HCM := Lib.hid (fun (w' : World) (h : KeepW W2 W2.heap.size w') => (show (w'.cell? ⟨w.heap.size, 2, none⟩ = some (.slice (some ⟨ab, ao, none⟩) nd.es.len c) ∧ w'.cell? ⟨ab, ao + pi * 4 + 1, none⟩ = some (.int .u8 (kd.k : Int)) ∧ w'.cell? ⟨ab, ao + pi * 4 + 2, none⟩ = some (.string kd.d) ∧ w'.cell? ⟨ab, ao + pi * 4 + 3, none⟩ = some (.slice A2 kd.es.len c2)) ∧ w'.cell? ⟨w.heap.size + 1, 0, none⟩ = some (.int .u8 (x.k : Int)) ∧ w'.cell? ⟨w.heap.size + 1, 1, none⟩ = some (.string x.d) ∧ w'.cell? ⟨w.heap.size + 1, 2, none⟩ = some (.slice Ax x.es.len cx) from by
        have h3 : KeepW w3 w3.heap.size w' := ⟨below_step HK2.out.1 h.1 (by omega), by have := h.2; have := HK2.out.2; omega⟩
        have h0 : Below w.heap.size w w' := below_step HB2.out h.1 (by omega)
        obtain ⟨_, _, a3, _, _⟩ := HCL.out w' h3
        obtain ⟨b1, b2, b3, _⟩ := nd_box (W := w') (k := x.k) (d := x.d) (v := .slice Ax x.es.len cx) ((h3.1.block (w.heap.size + 1) (by omega)).trans H3.out.2.1)
        exact ⟨⟨a3, (h0.cell (p := ⟨ab, ao + pi * 4 + 1, none⟩) (by show ab < _; omega)).trans hk1, (h0.cell (p := ⟨ab, ao + pi * 4 + 2, none⟩) (by show ab < _; omega)).trans hk2, (h0.cell (p := ⟨ab, ao + pi * 4 + 3, none⟩) (by show ab < _; omega)).trans hk5⟩, b1, b2, b3⟩))
      have HTX := Lib.hid (fun (w' : World) (h : KeepW W2 W2.heap.size w') (cc : Nat) (h1 : l.length ≤ cc) (h2 : cc ≤ maxLen) => (show TxS w' (.slice (some ⟨lb, lo + 1, none⟩) l.length cc) l from by
        have h0 : Below w.heap.size w w' := below_step HB2.out h.1 (by omega)
        refine ⟨_, cc, rfl, h1, h2, fun _ => ⟨lb, lo + 1, rfl, by have := HL.out.1; have := h0.size; omega, fun i y hy => ?_⟩⟩
        have := HL.out.2 (i + 1) y (by simpa using hy)
        rw [show lo + 1 + i = lo + (i + 1) by omega]
        exact (h0.cell (p := ⟨lb, lo + (i + 1), none⟩) HL.out.1).trans this))
      have HTN := Lib.hid (fun (w' : World) (hl0 : l = []) => (show TxS w' (.slice (some ⟨lb, lo, none⟩) l.length 0) l from ⟨_, 0, rfl, by rw [hl0]; exact Nat.le_refl _, Nat.zero_le _, fun h => by rw [hl0] at h; exact absurd h (Nat.lt_irrefl 0)⟩))
      have HIH := Lib.hid (fun (w' : World) (h : KeepW W2 W2.heap.size w') (vl : Value) (hl : TxS w' vl l) => (IH.out kd x (by have := HKC.out; have := HCT.out; omega) w' B (by have := h.2; omega) _ vl _ ⟨_, rfl, hk6.keep ((below_step HB2.out h.1 (by omega)).mono hB), hk3, hk4⟩ hl ⟨_, rfl, HE.out.2.keep ((below_step HB2.out h.1 (by omega)).mono hB), hdx, hkx⟩).mono (fun e W hq => (show KeepW W2 W2.heap.size W ∧ Below w'.heap.size w' W ∧ RputPost w' (putP kd l x) e W from ⟨h.step hq.1, hq.1, hq⟩)))
      have HK0 := Lib.hid (KeepW.start (Nat.le_refl W2.heap.size))
      have hpi0 : pi < nd.es.len := hpl
      clear hk1 hk2 hk3 hk4 hk5 hk6 hcs hkd hpi hpl IH hm0 hm1 hm2 HCL
      have HR5 := Lib.hid (fun (w' : World) (h : KeepW W2 W2.heap.size w') => (h.1.block (w.heap.size + 2) (by omega)).trans hr2)
      have hs1 : (1 : Int) ≤ (l.length : Int) + 1 := by omega
      obtain ⟨y, ok, hw⟩ : ∃ y ok, putP kd l x = (y, ok) := ⟨_, _, rfl⟩
      rcases Nat.eq_or_lt_of_le (show 1 ≤ cl by omega) with hcl | hcl
      · subst hcl
        have hl0 : l = [] := List.eq_nil_of_length_eq_zero (by omega)
        subst hl0
        have hlz : ([] : List ByteArray).length = 0 := rfl
        rw [hlz] at hs1 hz0 hll
        rw [hlz]
        have HT0 := Lib.hid (fun (w' : World) (A : Option Addr) (c : Nat) (hc : c ≤ maxLen) => (show TxS w' (.slice A 0 c) [] from ⟨A, c, rfl, Nat.zero_le _, hc, fun h => absurd h (Nat.lt_irrefl 0)⟩))
        clear HTX HTN
        obtain ⟨i0, hi0, hz0, hz1, hzb⟩ := info_parts infoEnt
        have HRZ := Lib.hid (show putP nd (nm :: []) x = (⟨nd.k, nd.d, setE nd.es pi y⟩, ok) by rw [HR.out, if_pos rfl, hw])
        clear HR
        go_wp2
        go_region_held3 (fun w' => (w'.cell? ⟨w.heap.size, 2, none⟩ = some (.slice (some ⟨ab, ao, none⟩) nd.es.len c) ∧ w'.cell? ⟨ab, ao + pi * 4 + 1, none⟩ = some (.int .u8 (kd.k : Int)) ∧ w'.cell? ⟨ab, ao + pi * 4 + 2, none⟩ = some (.string kd.d) ∧ w'.cell? ⟨ab, ao + pi * 4 + 3, none⟩ = some (.slice A2 kd.es.len c2)) ∧ w'.cell? ⟨w.heap.size + 1, 0, none⟩ = some (.int .u8 (x.k : Int)) ∧ w'.cell? ⟨w.heap.size + 1, 1, none⟩ = some (.string x.d) ∧ w'.cell? ⟨w.heap.size + 1, 2, none⟩ = some (.slice Ax x.es.len cx)) (first | exact HCM.out _ (by first | exact KeepW.set3 hk4 (Nat.le_refl _) _ _ _ | exact KeepW.set3 (KeepW.alloc hk4 _) hk4.2 _ _ _) | exact HCM.out _ (by first | assumption | exact KeepW.drew HK0.out | exact KeepW.drew (by assumption) | exact KeepW.alloc (by assumption) _ | exact KeepW.alloc (KeepW.drew HK0.out) _) | go_keep) (first | (go_at_call 49; refine (HIH.out _ (by first | assumption | exact KeepW.drew HK0.out | exact KeepW.alloc (by assumption) _ | exact KeepW.alloc (KeepW.drew HK0.out) _) _ (HT0.out _ _ _ (by unfold maxLen; omega))).mono ?_; rintro e W4 ⟨hk4, hb4, hpo⟩; rw [hw] at hpo; obtain ⟨_, v4, rfl, hv4⟩ := hpo; dsimp only at hv4; obtain ⟨ev4, rfl, hes4, hd4, hkk4⟩ := hv4; obtain ⟨A4, c4, rfl, hlc4, hcm4⟩ := hes4.form; (first | (have hnw : W4.heap[W2.heap.size]? = some (.cells #[.int .u8 0, .string ⟨#[]⟩, .slice none 0 0] 26 (0, 0)) := (hb4.block W2.heap.size (by simp)).trans (heap_alloc_new W2.drew _); obtain ⟨hy0, hy1, hy2, hy3, hy4, hy5⟩ := nd_box (W := W4) (k := 0) (d := ⟨#[]⟩) (v := .slice none 0 0) hnw) | skip)))
        all_goals
          first
          | (obtain ⟨W5, e5⟩ : ∃ W5, W5 = set3 W4 W2.heap.size (.int .u8 (y.k : Int)) (.string y.d) (.slice A4 y.es.len c4) := ⟨_, rfl⟩
             obtain ⟨g10, e10⟩ : ∃ g, g = W2.heap.size := ⟨_, rfl⟩
             have hr10 : W5.heap[g10]? = some (.cells #[.int .u8 (y.k : Int), .string y.d, .slice A4 y.es.len c4] 26 (0, 0)) := by rw [e5, e10]; exact set3_row _ _ _ hnw
             have hk5 : KeepW W2 W2.heap.size W5 := by rw [e5]; exact KeepW.set3 hk4 (Nat.le_refl _) _ _ _
             have hes5 : EsAt W5 W5.heap.size (.slice A4 y.es.len c4) y.es := by rw [e5]; exact (hes4.box hnw (fun k hk => set3_block W4 W2.heap.size _ _ _ hk)).more (by simp [set3])
             have hg10 : W2.heap.size ≤ g10 := by omega
             unfold set3 at e5
             rw [← e5, ← e10]
             clear e5 e10)
          | (obtain ⟨W5, e5⟩ : ∃ W5, W5 = W4.alloc (.cells #[.int .u8 (y.k : Int), .string y.d, .slice A4 y.es.len c4] 26) := ⟨_, rfl⟩
             obtain ⟨g10, e10⟩ : ∃ g, g = W4.heap.size := ⟨_, rfl⟩
             have hr10 : W5.heap[g10]? = some (.cells #[.int .u8 (y.k : Int), .string y.d, .slice A4 y.es.len c4] 26 (0, 0)) := by rw [e5, e10]; exact heap_alloc_new W4 _
             have hk5 : KeepW W2 W2.heap.size W5 := by rw [e5]; exact KeepW.alloc hk4 _
             have hes5 : EsAt W5 W5.heap.size (.slice A4 y.es.len c4) y.es := by rw [e5]; exact (hes4.keep ((Below.refl _ _).alloc (Nat.le_refl _) _)).more (by simp)
             have hg10 : W2.heap.size ≤ g10 := by have := hk4.2; omega
             rw [← e5, ← e10]
             clear e5 e10)
          have hgz := block_lt hr10
          have hb5 : Below w.heap.size w W5 := below_step HB2.out hk5.1 (by omega)
          obtain ⟨xs, hx1, hx2, hx3, hx4⟩ := es_row (HE.out.1.keep (hb5.mono hB))
          have hxl : xs.length = 4 * nd.es.len := hx1.len
          have hn5 := (HCM.out W5 hk5).1.1
          have HL5 := Lib.hid hxl
          have H5 := Lib.hid (And.intro hk5 (And.intro hr10 (And.intro hes5 (And.intro hb5 (And.intro hx1 (And.intro hx3 hx4))))))
          clear hk5 hr10 hes5 hb5 hx1 hx2 hx3 hx4 hxl
          go_wp2_with (at_builtin; refine wpList_app_opt rfl _ _ 24 rfl W5.heap.size 48 i0 _ 4 64 Tryd.underlying24 hi0 hz0 hz1 hzb rfl (by decide) _ 0 [] rfl (World.ownsRow_nil _ _ _ _) _ _ _ xs rfl H5.out.2.2.2.2.2.2 (by omega) (by have := HL5.out; omega) H5.out.2.2.2.2.2.1 (fun u hu => H5.out.2.2.2.2.1.one u hu) (by unfold maxLen; have := HCT.out; omega) (by have := HCT.out; omega) (Nat.le_refl _) ?_)
          intro v6 w6 hown6 hgr6
          have hb6 : Below W5.heap.size W5 w6 := (Below.refl _ _).grown hgr6 (Nat.le_refl _) (fun k e => by cases e)
          obtain ⟨g6, c6, rfl⟩ := own_at4 hown6 (by omega)
          have hg6 : W5.heap.size ≤ g6 := (hown6.lt g6 rfl).1
          have hz5 : w.heap.size + 3 ≤ W5.heap.size := by have := H5.out.1.2; omega
          have hbx6 : w6.heap[w.heap.size]? = some (.cells #[.int .u8 (nd.k : Int), .string nd.d, .slice (some ⟨ab, ao, none⟩) nd.es.len c] 26 (0, 0)) := (hb6.block w.heap.size (by omega)).trans ((H5.out.1.1.block w.heap.size (by omega)).trans ((HK2.out.1.block w.heap.size (by omega)).trans H3.out.1))
          have hr6 : w6.heap[g10]? = some (.cells #[.int .u8 (y.k : Int), .string y.d, .slice A4 y.es.len c4] 26 (0, 0)) := (hb6.block _ hgz).trans H5.out.2.1
          have hz6 : w6.heap[w.heap.size + 2]? = some (.cells #[.int .u8 0, .string ⟨#[]⟩, .slice none 0 0] 26 (0, 0)) := (hb6.block _ (by omega)).trans (HR5.out _ H5.out.1)
          have hlb6 : w6.cell? ⟨lb, lo, none⟩ = some (.string nm) := (hb6.cell (p := ⟨lb, lo, none⟩) (by show lb < _; have := HL.out.1; omega)).trans ((H5.out.2.2.2.1.cell (p := ⟨lb, lo, none⟩) HL.out.1).trans (HL.out.2 0 nm rfl))
          have hth : w6.there g6 (pi * 4) 4 := own_there hown6 (by omega)
          obtain ⟨u0, hu0⟩ := Option.isSome_iff_exists.1 (hth 0 (by omega)).1
          obtain ⟨u1, hu1⟩ := Option.isSome_iff_exists.1 (hth 1 (by omega)).1
          obtain ⟨u2, hu2⟩ := Option.isSome_iff_exists.1 (hth 2 (by omega)).1
          obtain ⟨u3, hu3⟩ := Option.isSome_iff_exists.1 (hth 3 (by omega)).1
          have hf0 := (hth 0 (by omega)).2
          have hf1 := (hth 1 (by omega)).2
          have hf2 := (hth 2 (by omega)).2
          have hf3 := (hth 3 (by omega)).2
          rw [Nat.add_zero] at hu0 hf0
          obtain ⟨hy0, hy1, hy2, _, _, _⟩ := nd_box (W := w6) (k := y.k) (d := y.d) (v := .slice A4 y.es.len c4) hr6
          have hpiI : (pi : Int) < (nd.es.len : Int) := by omega
          have HS0 := Lib.hid (show w6.drew.cell? ⟨lb, lo, none⟩ = some (.string nm) ∧ w6.drew.cell? ⟨g10, 0, none⟩ = some (.int .u8 (y.k : Int)) ∧ w6.drew.cell? ⟨g10, 1, none⟩ = some (.string y.d) ∧ w6.drew.cell? ⟨g10, 2, none⟩ = some (.slice A4 y.es.len c4) from ⟨hlb6, hy0, hy1, hy2⟩)
          have HS4 := Lib.hid (fun (a b c' d' : Value) => show (set4 w6.drew g6 (pi * 4) a b c' d').cell? ⟨lb, lo, none⟩ = some (.string nm) ∧ (set4 w6.drew g6 (pi * 4) a b c' d').cell? ⟨g10, 0, none⟩ = some (.int .u8 (y.k : Int)) ∧ (set4 w6.drew g6 (pi * 4) a b c' d').cell? ⟨g10, 1, none⟩ = some (.string y.d) ∧ (set4 w6.drew g6 (pi * 4) a b c' d').cell? ⟨g10, 2, none⟩ = some (.slice A4 y.es.len c4) from by
            refine ⟨?_, ?_, ?_, ?_⟩
            · rw [set4_cell _ _ _ _ _ _ _ (by show lb ≠ g6; have := HL.out.1; omega)]; exact hlb6
            · rw [set4_cell _ _ _ _ _ _ _ (by show g10 ≠ g6; omega)]; exact hy0
            · rw [set4_cell _ _ _ _ _ _ _ (by show g10 ≠ g6; omega)]; exact hy1
            · rw [set4_cell _ _ _ _ _ _ _ (by show g10 ≠ g6; omega)]; exact hy2)
          have H6 := Lib.hid (And.intro hown6 (And.intro hb6 (And.intro hbx6 hz6)))
          clear hown6 hgr6 hb6 hbx6 hr6 hz6 hlb6 hth hy0 hy1 hy2 hn5
          go_upto_region 10 with (fail)
          go_region_held3 (fun w' => w'.cell? ⟨lb, lo, none⟩ = some (.string nm) ∧ w'.cell? ⟨g10, 0, none⟩ = some (.int .u8 (y.k : Int)) ∧ w'.cell? ⟨g10, 1, none⟩ = some (.string y.d) ∧ w'.cell? ⟨g10, 2, none⟩ = some (.slice A4 y.es.len c4)) (first | exact HS0.out | exact HS4.out _ _ _ _ | go_keep) (fail)
          all_goals
            obtain ⟨W7, e7⟩ : ∃ W7, W7 = (set4 w6 g6 (pi * 4) (.string nm) (.int .u8 (y.k : Int)) (.string y.d) (.slice A4 y.es.len c4)).drew := ⟨_, rfl⟩
            have hown7 : W7.ownsRow W5.heap.size 48 4 (.slice (some ⟨g6, 0, none⟩) nd.es.len c6) nd.es.len ((((xs.set (pi * 4) (.string nm)).set (pi * 4 + 1) (.int .u8 (y.k : Int))).set (pi * 4 + 2) (.string y.d)).set (pi * 4 + 3) (.slice A4 y.es.len c4)) := by rw [e7]; exact (set4_own H6.out.1 _ _ _ _ (by omega) : (set4 w6 g6 (pi * 4) _ _ _ _).ownsRow _ _ _ _ _ _)
            have hb7 : Below W5.heap.size W5 W7 := by rw [e7]; exact (set4_below H6.out.2.1 _ hg6 _ _ _ _).drew
            have hm7 : W7.heap[w.heap.size]? = some (.cells #[.int .u8 (nd.k : Int), .string nd.d, .slice (some ⟨ab, ao, none⟩) nd.es.len c] 26 (0, 0)) := by rw [e7]; exact (set4_block _ _ _ _ _ _ _ (by omega)).trans H6.out.2.2.1
            have hz7 : W7.heap[w.heap.size + 2]? = some (.cells #[.int .u8 0, .string ⟨#[]⟩, .slice none 0 0] 26 (0, 0)) := by rw [e7]; exact (set4_block _ _ _ _ _ _ _ (by omega)).trans H6.out.2.2.2
            unfold set4 at e7
            rw [← e7]
            clear e7
            obtain ⟨hv0, hv1, hv2, hw0, hw1, hw2⟩ := nd_box (W := W7) (k := nd.k) (d := nd.d) (v := .slice (some ⟨ab, ao, none⟩) nd.es.len c) hm7
            have H7 := Lib.hid (And.intro hm7 (And.intro hz7 (And.intro hown7 hb7)))
            clear hm7 hz7 hown7 hb7 hu0 hu1 hu2 hu3 hf0 hf1 hf2 hf3 hi0 hz0 hz1 hzb
            go_upto_region 12 with (fail)
            obtain ⟨W8, e8⟩ : ∃ W8, W8 = W7.setCell ⟨w.heap.size, 2, none⟩ (.slice (some ⟨g6, 0, none⟩) nd.es.len c6) := ⟨_, rfl⟩
            have hm8 : W8.heap[w.heap.size]? = some (.cells #[.int .u8 (nd.k : Int), .string nd.d, .slice (some ⟨g6, 0, none⟩) nd.es.len c6] 26 (0, 0)) := by rw [e8]; exact blk_set H7.out.1 2 _
            have hz8 : W8.heap[w.heap.size + 2]? = some (.cells #[.int .u8 0, .string ⟨#[]⟩, .slice none 0 0] 26 (0, 0)) := by rw [e8]; exact (heap_setCell_other _ _ _ _ (by show w.heap.size + 2 ≠ w.heap.size; omega)).trans H7.out.2.1
            have hown8 : W8.ownsRow W5.heap.size 48 4 (.slice (some ⟨g6, 0, none⟩) nd.es.len c6) nd.es.len ((((xs.set (pi * 4) (.string nm)).set (pi * 4 + 1) (.int .u8 (y.k : Int))).set (pi * 4 + 2) (.string y.d)).set (pi * 4 + 3) (.slice A4 y.es.len c4)) := by rw [e8]; exact ownsRow_setCell_below H7.out.2.2.1 (by show w.heap.size < _; omega) _
            have hb8 : Below w.heap.size W5 W8 := by rw [e8]; exact (H7.out.2.2.2.mono (show w.heap.size ≤ W5.heap.size by omega)).setCell (Nat.le_refl _) _
            have hes8 : EsAt W8 W5.heap.size (.slice A4 y.es.len c4) y.es := by rw [e8]; exact (H5.out.2.2.1.keep H7.out.2.2.2).box H7.out.1 (fun k hk => heap_setCell_other _ _ _ _ hk)
            rw [← e8]
            clear e8 hv0 hv1 hv2 hw0 hw1 hw2
            obtain ⟨hv0, hv1, hv2, _, _, _⟩ := nd_box (W := W8) (k := nd.k) (d := nd.d) (v := .slice (some ⟨g6, 0, none⟩) nd.es.len c6) hm8
            have H8 := Lib.hid (And.intro hm8 (And.intro hz8 (And.intro hown8 (And.intro hb8 hes8))))
            clear hm8 hown8 hb8 hes8
            go_wp2_with (refine wpList_store_row rfl _ _ _ rfl _ _ rfl rfl _ _ hz8 (by kernel_rfl) (by rfl) (by simp [Value.oneCell']) ?_)
            have hb9 : Below w.heap.size W5 (W8.setRow (w.heap.size + 2) #[.int .u8 (nd.k : Int), .string nd.d, .slice (some ⟨g6, 0, none⟩) nd.es.len c6]) := below_setRow H8.out.2.2.2.1 (by omega) _
            have hch : Ch W8 (W8.setRow (w.heap.size + 2) #[.int .u8 (nd.k : Int), .string nd.d, .slice (some ⟨g6, 0, none⟩) nd.es.len c6]) (fun k => k = w.heap.size + 2) := ⟨rfl, rfl, rfl, by simp, fun k hk hn => setRow_other _ _ _ _ hn⟩
            have hown9 := hch.own H8.out.2.2.1 (fun b hb h => by cases hb; have h2 : g6 = w.heap.size + 2 := h; omega)
            have hes9 := H8.out.2.2.2.2.box hz8 (w' := W8.setRow (w.heap.size + 2) #[.int .u8 (nd.k : Int), .string nd.d, .slice (some ⟨g6, 0, none⟩) nd.es.len c6]) (fun k hk => setRow_other _ _ _ _ hk)
            have hz9 := hb9.size
            have hent0 := EntL.setn (i := pi) ((H5.out.2.2.2.2.1.keep (hb9.mono hB)).more (show B ≤ (W8.setRow (w.heap.size + 2) #[.int .u8 (nd.k : Int), .string nd.d, .slice (some ⟨g6, 0, none⟩) nd.es.len c6]).heap.size by omega)) hpi0
            rw [HPN.out] at hent0
            have hent := EntL.set (i := pi) hent0 hpi0 (hes9.more hz9) hd4 hkk4
            rw [show 4 * pi + 1 = pi * 4 + 1 by omega, show 4 * pi + 2 = pi * 4 + 2 by omega, show 4 * pi + 3 = pi * 4 + 3 by omega, show 4 * pi = pi * 4 by omega] at hent
            refine bodyPost_ret (node_results rfl (cs := #[.int .u8 (nd.k : Int), .string nd.d, .slice (some ⟨g6, 0, none⟩) nd.es.len c6]) rfl (setRow_heap _ _ _ _ _ _ hz8) rfl) rfl ⟨H5.out.2.2.2.1.trans hb9, ?_⟩
            rw [HRZ.out]
            exact ⟨_, rfl, _, rfl, ownE_cells hown9 (set_len _ _ _).symm hent (Nat.le_refl _) (by unfold maxLen; have := HCT.out; omega), hd, hk⟩
      · have hcn : ¬ cl = 1 := by omega
        obtain ⟨i0, hi0, hz0, hz1, hzb⟩ := info_parts infoEnt
        have HRZ := Lib.hid (show putP nd (nm :: l) x = (⟨nd.k, nd.d, setE nd.es pi y⟩, ok) by rw [HR.out, if_pos rfl, hw])
        clear HR
        go_wp2
        go_region_held3 (fun w' => (w'.cell? ⟨w.heap.size, 2, none⟩ = some (.slice (some ⟨ab, ao, none⟩) nd.es.len c) ∧ w'.cell? ⟨ab, ao + pi * 4 + 1, none⟩ = some (.int .u8 (kd.k : Int)) ∧ w'.cell? ⟨ab, ao + pi * 4 + 2, none⟩ = some (.string kd.d) ∧ w'.cell? ⟨ab, ao + pi * 4 + 3, none⟩ = some (.slice A2 kd.es.len c2)) ∧ w'.cell? ⟨w.heap.size + 1, 0, none⟩ = some (.int .u8 (x.k : Int)) ∧ w'.cell? ⟨w.heap.size + 1, 1, none⟩ = some (.string x.d) ∧ w'.cell? ⟨w.heap.size + 1, 2, none⟩ = some (.slice Ax x.es.len cx)) (first | exact HCM.out _ (by first | exact KeepW.set3 hk4 (Nat.le_refl _) _ _ _ | exact KeepW.set3 (KeepW.alloc hk4 _) hk4.2 _ _ _) | exact HCM.out _ (by first | assumption | exact KeepW.drew HK0.out | exact KeepW.drew (by assumption) | exact KeepW.alloc (by assumption) _ | exact KeepW.alloc (KeepW.drew HK0.out) _) | go_keep) (first | (go_at_call 49; refine (HIH.out _ (by first | assumption | exact KeepW.drew HK0.out | exact KeepW.alloc (by assumption) _ | exact KeepW.alloc (KeepW.drew HK0.out) _) _ (HTX.out _ (by first | assumption | exact KeepW.drew HK0.out | exact KeepW.alloc (by assumption) _ | exact KeepW.alloc (KeepW.drew HK0.out) _) _ (by omega) (by omega))).mono ?_; rintro e W4 ⟨hk4, hb4, hpo⟩; rw [hw] at hpo; obtain ⟨_, v4, rfl, hv4⟩ := hpo; dsimp only at hv4; obtain ⟨ev4, rfl, hes4, hd4, hkk4⟩ := hv4; obtain ⟨A4, c4, rfl, hlc4, hcm4⟩ := hes4.form; (first | (have hnw : W4.heap[W2.heap.size]? = some (.cells #[.int .u8 0, .string ⟨#[]⟩, .slice none 0 0] 26 (0, 0)) := (hb4.block W2.heap.size (by simp)).trans (heap_alloc_new W2.drew _); obtain ⟨hy0, hy1, hy2, hy3, hy4, hy5⟩ := nd_box (W := W4) (k := 0) (d := ⟨#[]⟩) (v := .slice none 0 0) hnw) | skip)))
        all_goals
          first
          | (obtain ⟨W5, e5⟩ : ∃ W5, W5 = set3 W4 W2.heap.size (.int .u8 (y.k : Int)) (.string y.d) (.slice A4 y.es.len c4) := ⟨_, rfl⟩
             obtain ⟨g10, e10⟩ : ∃ g, g = W2.heap.size := ⟨_, rfl⟩
             have hr10 : W5.heap[g10]? = some (.cells #[.int .u8 (y.k : Int), .string y.d, .slice A4 y.es.len c4] 26 (0, 0)) := by rw [e5, e10]; exact set3_row _ _ _ hnw
             have hk5 : KeepW W2 W2.heap.size W5 := by rw [e5]; exact KeepW.set3 hk4 (Nat.le_refl _) _ _ _
             have hes5 : EsAt W5 W5.heap.size (.slice A4 y.es.len c4) y.es := by rw [e5]; exact (hes4.box hnw (fun k hk => set3_block W4 W2.heap.size _ _ _ hk)).more (by simp [set3])
             have hg10 : W2.heap.size ≤ g10 := by omega
             unfold set3 at e5
             rw [← e5, ← e10]
             clear e5 e10)
          | (obtain ⟨W5, e5⟩ : ∃ W5, W5 = W4.alloc (.cells #[.int .u8 (y.k : Int), .string y.d, .slice A4 y.es.len c4] 26) := ⟨_, rfl⟩
             obtain ⟨g10, e10⟩ : ∃ g, g = W4.heap.size := ⟨_, rfl⟩
             have hr10 : W5.heap[g10]? = some (.cells #[.int .u8 (y.k : Int), .string y.d, .slice A4 y.es.len c4] 26 (0, 0)) := by rw [e5, e10]; exact heap_alloc_new W4 _
             have hk5 : KeepW W2 W2.heap.size W5 := by rw [e5]; exact KeepW.alloc hk4 _
             have hes5 : EsAt W5 W5.heap.size (.slice A4 y.es.len c4) y.es := by rw [e5]; exact (hes4.keep ((Below.refl _ _).alloc (Nat.le_refl _) _)).more (by simp)
             have hg10 : W2.heap.size ≤ g10 := by have := hk4.2; omega
             rw [← e5, ← e10]
             clear e5 e10)
          have hgz := block_lt hr10
          have hb5 : Below w.heap.size w W5 := below_step HB2.out hk5.1 (by omega)
          obtain ⟨xs, hx1, hx2, hx3, hx4⟩ := es_row (HE.out.1.keep (hb5.mono hB))
          have hxl : xs.length = 4 * nd.es.len := hx1.len
          have hn5 := (HCM.out W5 hk5).1.1
          have HL5 := Lib.hid hxl
          have H5 := Lib.hid (And.intro hk5 (And.intro hr10 (And.intro hes5 (And.intro hb5 (And.intro hx1 (And.intro hx3 hx4))))))
          clear hk5 hr10 hes5 hb5 hx1 hx2 hx3 hx4 hxl
          go_wp2_with (at_builtin; refine wpList_app_opt rfl _ _ 24 rfl W5.heap.size 48 i0 _ 4 64 Tryd.underlying24 hi0 hz0 hz1 hzb rfl (by decide) _ 0 [] rfl (World.ownsRow_nil _ _ _ _) _ _ _ xs rfl H5.out.2.2.2.2.2.2 (by omega) (by have := HL5.out; omega) H5.out.2.2.2.2.2.1 (fun u hu => H5.out.2.2.2.2.1.one u hu) (by unfold maxLen; have := HCT.out; omega) (by have := HCT.out; omega) (Nat.le_refl _) ?_)
          intro v6 w6 hown6 hgr6
          have hb6 : Below W5.heap.size W5 w6 := (Below.refl _ _).grown hgr6 (Nat.le_refl _) (fun k e => by cases e)
          obtain ⟨g6, c6, rfl⟩ := own_at4 hown6 (by omega)
          have hg6 : W5.heap.size ≤ g6 := (hown6.lt g6 rfl).1
          have hz5 : w.heap.size + 3 ≤ W5.heap.size := by have := H5.out.1.2; omega
          have hbx6 : w6.heap[w.heap.size]? = some (.cells #[.int .u8 (nd.k : Int), .string nd.d, .slice (some ⟨ab, ao, none⟩) nd.es.len c] 26 (0, 0)) := (hb6.block w.heap.size (by omega)).trans ((H5.out.1.1.block w.heap.size (by omega)).trans ((HK2.out.1.block w.heap.size (by omega)).trans H3.out.1))
          have hr6 : w6.heap[g10]? = some (.cells #[.int .u8 (y.k : Int), .string y.d, .slice A4 y.es.len c4] 26 (0, 0)) := (hb6.block _ hgz).trans H5.out.2.1
          have hz6 : w6.heap[w.heap.size + 2]? = some (.cells #[.int .u8 0, .string ⟨#[]⟩, .slice none 0 0] 26 (0, 0)) := (hb6.block _ (by omega)).trans (HR5.out _ H5.out.1)
          have hlb6 : w6.cell? ⟨lb, lo, none⟩ = some (.string nm) := (hb6.cell (p := ⟨lb, lo, none⟩) (by show lb < _; have := HL.out.1; omega)).trans ((H5.out.2.2.2.1.cell (p := ⟨lb, lo, none⟩) HL.out.1).trans (HL.out.2 0 nm rfl))
          have hth : w6.there g6 (pi * 4) 4 := own_there hown6 (by omega)
          obtain ⟨u0, hu0⟩ := Option.isSome_iff_exists.1 (hth 0 (by omega)).1
          obtain ⟨u1, hu1⟩ := Option.isSome_iff_exists.1 (hth 1 (by omega)).1
          obtain ⟨u2, hu2⟩ := Option.isSome_iff_exists.1 (hth 2 (by omega)).1
          obtain ⟨u3, hu3⟩ := Option.isSome_iff_exists.1 (hth 3 (by omega)).1
          have hf0 := (hth 0 (by omega)).2
          have hf1 := (hth 1 (by omega)).2
          have hf2 := (hth 2 (by omega)).2
          have hf3 := (hth 3 (by omega)).2
          rw [Nat.add_zero] at hu0 hf0
          obtain ⟨hy0, hy1, hy2, _, _, _⟩ := nd_box (W := w6) (k := y.k) (d := y.d) (v := .slice A4 y.es.len c4) hr6
          have hpiI : (pi : Int) < (nd.es.len : Int) := by omega
          have HS0 := Lib.hid (show w6.drew.cell? ⟨lb, lo, none⟩ = some (.string nm) ∧ w6.drew.cell? ⟨g10, 0, none⟩ = some (.int .u8 (y.k : Int)) ∧ w6.drew.cell? ⟨g10, 1, none⟩ = some (.string y.d) ∧ w6.drew.cell? ⟨g10, 2, none⟩ = some (.slice A4 y.es.len c4) from ⟨hlb6, hy0, hy1, hy2⟩)
          have HS4 := Lib.hid (fun (a b c' d' : Value) => show (set4 w6.drew g6 (pi * 4) a b c' d').cell? ⟨lb, lo, none⟩ = some (.string nm) ∧ (set4 w6.drew g6 (pi * 4) a b c' d').cell? ⟨g10, 0, none⟩ = some (.int .u8 (y.k : Int)) ∧ (set4 w6.drew g6 (pi * 4) a b c' d').cell? ⟨g10, 1, none⟩ = some (.string y.d) ∧ (set4 w6.drew g6 (pi * 4) a b c' d').cell? ⟨g10, 2, none⟩ = some (.slice A4 y.es.len c4) from by
            refine ⟨?_, ?_, ?_, ?_⟩
            · rw [set4_cell _ _ _ _ _ _ _ (by show lb ≠ g6; have := HL.out.1; omega)]; exact hlb6
            · rw [set4_cell _ _ _ _ _ _ _ (by show g10 ≠ g6; omega)]; exact hy0
            · rw [set4_cell _ _ _ _ _ _ _ (by show g10 ≠ g6; omega)]; exact hy1
            · rw [set4_cell _ _ _ _ _ _ _ (by show g10 ≠ g6; omega)]; exact hy2)
          have H6 := Lib.hid (And.intro hown6 (And.intro hb6 (And.intro hbx6 hz6)))
          clear hown6 hgr6 hb6 hbx6 hr6 hz6 hlb6 hth hy0 hy1 hy2 hn5
          go_upto_region 10 with (fail)
          go_region_held3 (fun w' => w'.cell? ⟨lb, lo, none⟩ = some (.string nm) ∧ w'.cell? ⟨g10, 0, none⟩ = some (.int .u8 (y.k : Int)) ∧ w'.cell? ⟨g10, 1, none⟩ = some (.string y.d) ∧ w'.cell? ⟨g10, 2, none⟩ = some (.slice A4 y.es.len c4)) (first | exact HS0.out | exact HS4.out _ _ _ _ | go_keep) (fail)
          all_goals
            obtain ⟨W7, e7⟩ : ∃ W7, W7 = (set4 w6 g6 (pi * 4) (.string nm) (.int .u8 (y.k : Int)) (.string y.d) (.slice A4 y.es.len c4)).drew := ⟨_, rfl⟩
            have hown7 : W7.ownsRow W5.heap.size 48 4 (.slice (some ⟨g6, 0, none⟩) nd.es.len c6) nd.es.len ((((xs.set (pi * 4) (.string nm)).set (pi * 4 + 1) (.int .u8 (y.k : Int))).set (pi * 4 + 2) (.string y.d)).set (pi * 4 + 3) (.slice A4 y.es.len c4)) := by rw [e7]; exact (set4_own H6.out.1 _ _ _ _ (by omega) : (set4 w6 g6 (pi * 4) _ _ _ _).ownsRow _ _ _ _ _ _)
            have hb7 : Below W5.heap.size W5 W7 := by rw [e7]; exact (set4_below H6.out.2.1 _ hg6 _ _ _ _).drew
            have hm7 : W7.heap[w.heap.size]? = some (.cells #[.int .u8 (nd.k : Int), .string nd.d, .slice (some ⟨ab, ao, none⟩) nd.es.len c] 26 (0, 0)) := by rw [e7]; exact (set4_block _ _ _ _ _ _ _ (by omega)).trans H6.out.2.2.1
            have hz7 : W7.heap[w.heap.size + 2]? = some (.cells #[.int .u8 0, .string ⟨#[]⟩, .slice none 0 0] 26 (0, 0)) := by rw [e7]; exact (set4_block _ _ _ _ _ _ _ (by omega)).trans H6.out.2.2.2
            unfold set4 at e7
            rw [← e7]
            clear e7
            obtain ⟨hv0, hv1, hv2, hw0, hw1, hw2⟩ := nd_box (W := W7) (k := nd.k) (d := nd.d) (v := .slice (some ⟨ab, ao, none⟩) nd.es.len c) hm7
            have H7 := Lib.hid (And.intro hm7 (And.intro hz7 (And.intro hown7 hb7)))
            clear hm7 hz7 hown7 hb7 hu0 hu1 hu2 hu3 hf0 hf1 hf2 hf3 hi0 hz0 hz1 hzb
            go_upto_region 12 with (fail)
            obtain ⟨W8, e8⟩ : ∃ W8, W8 = W7.setCell ⟨w.heap.size, 2, none⟩ (.slice (some ⟨g6, 0, none⟩) nd.es.len c6) := ⟨_, rfl⟩
            have hm8 : W8.heap[w.heap.size]? = some (.cells #[.int .u8 (nd.k : Int), .string nd.d, .slice (some ⟨g6, 0, none⟩) nd.es.len c6] 26 (0, 0)) := by rw [e8]; exact blk_set H7.out.1 2 _
            have hz8 : W8.heap[w.heap.size + 2]? = some (.cells #[.int .u8 0, .string ⟨#[]⟩, .slice none 0 0] 26 (0, 0)) := by rw [e8]; exact (heap_setCell_other _ _ _ _ (by show w.heap.size + 2 ≠ w.heap.size; omega)).trans H7.out.2.1
            have hown8 : W8.ownsRow W5.heap.size 48 4 (.slice (some ⟨g6, 0, none⟩) nd.es.len c6) nd.es.len ((((xs.set (pi * 4) (.string nm)).set (pi * 4 + 1) (.int .u8 (y.k : Int))).set (pi * 4 + 2) (.string y.d)).set (pi * 4 + 3) (.slice A4 y.es.len c4)) := by rw [e8]; exact ownsRow_setCell_below H7.out.2.2.1 (by show w.heap.size < _; omega) _
            have hb8 : Below w.heap.size W5 W8 := by rw [e8]; exact (H7.out.2.2.2.mono (show w.heap.size ≤ W5.heap.size by omega)).setCell (Nat.le_refl _) _
            have hes8 : EsAt W8 W5.heap.size (.slice A4 y.es.len c4) y.es := by rw [e8]; exact (H5.out.2.2.1.keep H7.out.2.2.2).box H7.out.1 (fun k hk => heap_setCell_other _ _ _ _ hk)
            rw [← e8]
            clear e8 hv0 hv1 hv2 hw0 hw1 hw2
            obtain ⟨hv0, hv1, hv2, _, _, _⟩ := nd_box (W := W8) (k := nd.k) (d := nd.d) (v := .slice (some ⟨g6, 0, none⟩) nd.es.len c6) hm8
            have H8 := Lib.hid (And.intro hm8 (And.intro hz8 (And.intro hown8 (And.intro hb8 hes8))))
            clear hm8 hown8 hb8 hes8
            go_wp2_with (refine wpList_store_row rfl _ _ _ rfl _ _ rfl rfl _ _ hz8 (by kernel_rfl) (by rfl) (by simp [Value.oneCell']) ?_)
            have hb9 : Below w.heap.size W5 (W8.setRow (w.heap.size + 2) #[.int .u8 (nd.k : Int), .string nd.d, .slice (some ⟨g6, 0, none⟩) nd.es.len c6]) := below_setRow H8.out.2.2.2.1 (by omega) _
            have hch : Ch W8 (W8.setRow (w.heap.size + 2) #[.int .u8 (nd.k : Int), .string nd.d, .slice (some ⟨g6, 0, none⟩) nd.es.len c6]) (fun k => k = w.heap.size + 2) := ⟨rfl, rfl, rfl, by simp, fun k hk hn => setRow_other _ _ _ _ hn⟩
            have hown9 := hch.own H8.out.2.2.1 (fun b hb h => by cases hb; have h2 : g6 = w.heap.size + 2 := h; omega)
            have hes9 := H8.out.2.2.2.2.box hz8 (w' := W8.setRow (w.heap.size + 2) #[.int .u8 (nd.k : Int), .string nd.d, .slice (some ⟨g6, 0, none⟩) nd.es.len c6]) (fun k hk => setRow_other _ _ _ _ hk)
            have hz9 := hb9.size
            have hent0 := EntL.setn (i := pi) ((H5.out.2.2.2.2.1.keep (hb9.mono hB)).more (show B ≤ (W8.setRow (w.heap.size + 2) #[.int .u8 (nd.k : Int), .string nd.d, .slice (some ⟨g6, 0, none⟩) nd.es.len c6]).heap.size by omega)) hpi0
            rw [HPN.out] at hent0
            have hent := EntL.set (i := pi) hent0 hpi0 (hes9.more hz9) hd4 hkk4
            rw [show 4 * pi + 1 = pi * 4 + 1 by omega, show 4 * pi + 2 = pi * 4 + 2 by omega, show 4 * pi + 3 = pi * 4 + 3 by omega, show 4 * pi = pi * 4 by omega] at hent
            refine bodyPost_ret (node_results rfl (cs := #[.int .u8 (nd.k : Int), .string nd.d, .slice (some ⟨g6, 0, none⟩) nd.es.len c6]) rfl (setRow_heap _ _ _ _ _ _ hz8) rfl) rfl ⟨H5.out.2.2.2.1.trans hb9, ?_⟩
            rw [HRZ.out]
            exact ⟨_, rfl, _, rfl, ownE_cells hown9 (set_len _ _ _).symm hent (Nat.le_refl _) (by unfold maxLen; have := HCT.out; omega), hd, hk⟩
end Go.Proofs.YtmcafiihicanfaaDoor
