/- files: the reference's Put. -/
import Derived.Test.YtmcafiihicanfaaDoorFilSm
import Derived.Test.YtmcafiihicanfaaDoorFilSi
set_option linter.unusedVariables false
set_option linter.unusedSimpArgs false
namespace Go.Proofs.YtmcafiihicanfaaDoor
open Go Go.RowKit Go.BigFrame
open Fil (Es Nd Sp)

theorem TxS.own {w : World} {base : Nat} {v : Value} {l : List ByteArray} (h : w.ownsRow base 9 1 v l.length (l.map Value.string)) : TxS w v l := by
  rcases h.2 with ⟨rfl, h0⟩ | ⟨g, cap, cur, rfl, hg, hgg, hnc, hcm, hcs, htk⟩
  · exact ⟨none, 0, by rw [h0], by omega, Nat.zero_le _, fun hp => by omega⟩
  · refine ⟨_, _, rfl, hnc, hcm, fun _ => ⟨g, 0, rfl, block_lt hgg, fun i x hx => ?_⟩⟩
    have := h.cells (g := g) rfl i (.string x) (by rw [List.getElem?_map, hx]; rfl)
    rw [add_none] at this
    exact this
theorem putP_count (l : List ByteArray) (nd x : Nd) : (putP nd l x).1.es.count ≤ nd.es.count + 1 + x.es.count := by
  induction l generalizing nd with
  | nil => show x.es.count ≤ _; omega
  | cons nm l ih =>
    unfold putP
    split
    · split
      · rename_i hp
        have h1 := ih (kidE nd.es (placeN nd nm).1)
        have h2 := set_count nd.es _ (putP (kidE nd.es (placeN nd nm).1) l x).1 (placeN_lt hp)
        show (setE nd.es _ _).count ≤ _
        omega
      · split
        · show (insE nm x nd.es).count ≤ _
          rw [ins_count]; omega
        · show nd.es.count ≤ _; omega
    · show nd.es.count ≤ _; omega
set_option maxRecDepth 1000000 in
set_option maxRecDepth 100000 in
set_option maxHeartbeats 4000000 in
theorem refPut_any (w : World) (B : Nat) (hB : B ≤ w.heap.size) (v vx : Value) (nd x : Nd) (hv : NdV w B v nd) (hvx : NdV w B vx x) (s : ByteArray) (hs : s.size ≤ 1000000) (hc : nd.es.count ≤ 400000) (hcx : x.es.count ≤ 400000) :
    Calls Tryd.prog 28 #[v, .string s, vx] w (PutPost w (putR nd s x)) := by
  obtain ⟨ev, rfl, hes, hd, hk⟩ := hv
  obtain ⟨A, c, rfl, hlc, hcm⟩ := hes.form
  obtain ⟨ex, rfl, hex, hdx, hkx⟩ := hvx
  obtain ⟨Ax, cx, rfl, hlcx, hcmx⟩ := hex.form
  go_enter Tryd.func28, Tryd.ntmps28
  obtain ⟨w3, e3, hb0, hb1, hb2, hbw, hsz⟩ := rows3 w (.cells #[.int .u8 (nd.k : Int), .string nd.d, .slice A nd.es.len c] 26) (.cells #[.int .u8 (x.k : Int), .string x.d, .slice Ax x.es.len cx] 26) (.cells #[.int .u8 0, .string ⟨#[]⟩, .slice none 0 0] 26)
  have HE := Lib.hid (And.intro hes hex)
  have H3 := Lib.hid (And.intro hb0 (And.intro hb1 (And.intro hb2 (And.intro hbw hsz))))
  have HNV := Lib.hid (fun (w' : World) (h : KeepW w3 w3.heap.size w') => show NdV w' B (.agg #[.int .u8 (nd.k : Int), .string nd.d, .slice A nd.es.len c]) nd from ⟨_, rfl, hes.keep ((below_step hbw h.1 (by omega)).mono hB), hd, hk⟩)
  have HXV := Lib.hid (fun (w' : World) (h : KeepW w3 w3.heap.size w') => show NdV w' B (.agg #[.int .u8 (x.k : Int), .string x.d, .slice Ax x.es.len cx]) x from ⟨_, rfl, hex.keep ((below_step hbw h.1 (by omega)).mono hB), hdx, hkx⟩)
  have HBN := Lib.hid (fun (w' : World) (h : KeepW w3 w3.heap.size w') => nd_box (W := w') (k := nd.k) (d := nd.d) (v := .slice A nd.es.len c) ((h.1.block w.heap.size (by omega)).trans hb0))
  have HBX := Lib.hid (fun (w' : World) (h : KeepW w3 w3.heap.size w') => nd_box (W := w') (k := x.k) (d := x.d) (v := .slice Ax x.es.len cx) ((h.1.block (w.heap.size + 1) (by omega)).trans hb1))
  have HBZ := Lib.hid (fun (w' : World) (h : KeepW w3 w3.heap.size w') => (h.1.block (w.heap.size + 2) (by omega)).trans hb2)
  have HBL := Lib.hid (fun (w' : World) (h : KeepW w3 w3.heap.size w') => below_step hbw h.1 (by omega))
  have HK0 := Lib.hid (KeepW.start (Nat.le_refl w3.heap.size))
  have HRN := Lib.hid (fun (w' : World) (h : KeepW w3 w3.heap.size w') => h.calls (refRight_any w' B (by have := h.2; omega) _ nd (HNV.out w' h) (by omega)))
  have HRX := Lib.hid (fun (w' : World) (h : KeepW w3 w3.heap.size w') => h.calls (refRight_any w' B (by have := h.2; omega) _ x (HXV.out w' h) (by omega)))
  have HROW := Lib.hid (fun w' => names_any s hs w')
  clear hes hex hb0 hb1 hb2 hbw
  go_upto_region 1 with (fail)
  rw [← e3]
  clear e3
  have H := Lib.hid (KeepW.start (Nat.le_refl w3.heap.size))
  obtain ⟨hn0, hn1, hn2, _⟩ := HBN.out w3 H.out
  cases hr1 : nd.right with
  | false =>
    have HP := Lib.hid (show putR nd s x = (70, zNd) by unfold putR; rw [hr1]; rfl)
    rw [hr1] at HRN
    go_wp2_with fail
    refine (HRN.out w3 H.out).mono ?_
    rintro e W1 ⟨rfl, hk1⟩
    have HK1 := Lib.hid hk1
    clear hk1 hn0 hn1 hn2
    go_wp2_with (refine wpList_store_row rfl _ _ _ rfl _ _ rfl rfl _ _ (HBZ.out _ HK1.out) (by kernel_rfl) (by rfl) (by simp [Value.oneCell']) ?_)
    refine bodyPost_ret (node_results rfl (cs := #[.int .u8 0, .string ⟨#[]⟩, .slice none 0 0]) rfl (setRow_heap _ _ _ _ _ _ (HBZ.out _ HK1.out)) rfl) rfl ⟨below_setRow (HBL.out _ HK1.out) (by omega) _, ?_⟩
    rw [HP.out]
    exact ⟨_, rfl, _, rfl, EsAt.nil _ _, by decide, by decide⟩
  | true =>
    rw [hr1] at HRN
    go_wp2_with fail
    refine (HRN.out w3 H.out).mono ?_
    rintro e W1 ⟨rfl, hk1⟩
    have HK1 := Lib.hid hk1
    clear hk1 hn0 hn1 hn2
    obtain ⟨hm0, hm1, hm2, _⟩ := HBX.out W1 HK1.out
    cases hr2 : x.right with
    | false =>
      have HP := Lib.hid (show putR nd s x = (70, zNd) by unfold putR; rw [hr1, hr2]; rfl)
      rw [hr2] at HRX
      go_wp2_with fail
      refine (HRX.out W1 HK1.out).mono ?_
      rintro e W2 ⟨rfl, hk2⟩
      have HK2 := Lib.hid hk2
      clear hk2 hm0 hm1 hm2
      go_wp2_with (refine wpList_store_row rfl _ _ _ rfl _ _ rfl rfl _ _ (HBZ.out _ HK2.out) (by kernel_rfl) (by rfl) (by simp [Value.oneCell']) ?_)
      refine bodyPost_ret (node_results rfl (cs := #[.int .u8 0, .string ⟨#[]⟩, .slice none 0 0]) rfl (setRow_heap _ _ _ _ _ _ (HBZ.out _ HK2.out)) rfl) rfl ⟨below_setRow (HBL.out _ HK2.out) (by omega) _, ?_⟩
      rw [HP.out]
      exact ⟨_, rfl, _, rfl, EsAt.nil _ _, by decide, by decide⟩
    | true =>
      have HP := Lib.hid (fun l (hrow : rowN s = some l) => putR_ref nd x s l hr1 hr2 hrow)
      have HPN := Lib.hid (fun (hrow : rowN s = none) => show putR nd s x = (2, zNd) by unfold putR; rw [hr1, hr2, hrow]; rfl)
      rw [hr2] at HRX
      go_wp2_with fail
      refine (HRX.out W1 HK1.out).mono ?_
      rintro e W2 ⟨rfl, hk2⟩
      have HK2 := Lib.hid hk2
      clear hk2 hm0 hm1 hm2
      cases hrow : rowN s with
      | none =>
        have HP2 := Lib.hid (HPN.out hrow)
        go_wp2_with fail
        refine (HROW.out W2).mono ?_
        rintro e W3 ⟨hb3, he⟩
        rw [hrow] at he
        simp only at he
        subst he
        have HK3 := Lib.hid (HK2.out.step hb3)
        clear hb3
        go_wp2_with (refine wpList_store_row rfl _ _ _ rfl _ _ rfl rfl _ _ (HBZ.out _ HK3.out) (by kernel_rfl) (by rfl) (by simp [Value.oneCell']) ?_)
        refine bodyPost_ret (node_results rfl (cs := #[.int .u8 0, .string ⟨#[]⟩, .slice none 0 0]) rfl (setRow_heap _ _ _ _ _ _ (HBZ.out _ HK3.out)) rfl) rfl ⟨below_setRow (HBL.out _ HK3.out) (by omega) _, ?_⟩
        rw [HP2.out]
        exact ⟨_, rfl, _, rfl, EsAt.nil _ _, by decide, by decide⟩
      | some l =>
        go_wp2_with fail
        refine (HROW.out W2).mono ?_
        rintro e W3 ⟨hb3, he⟩
        rw [hrow] at he
        obtain ⟨vr, rfl, htx⟩ := he
        have HK3 := Lib.hid (HK2.out.step hb3)
        have HTX := Lib.hid (TxS.own htx)
        have HNS := Lib.hid (row_names hrow)
        clear hb3 htx
        obtain ⟨hn0, hn1, hn2, _⟩ := HBN.out W3 HK3.out
        obtain ⟨hm0, hm1, hm2, _⟩ := HBX.out W3 HK3.out
        obtain ⟨A2, c2, rfl⟩ : ∃ A2 c2, vr = .slice A2 l.length c2 := by obtain ⟨A2, c2, e, _⟩ := HTX.out; exact ⟨A2, c2, e⟩
        have HW := Lib.hid (rput_any l (fun y hy => Nat.le_trans (HNS.out y hy) (by decide)) nd x (by omega) W3 B (by have := HK3.out.2; omega) _ _ _ (HNV.out W3 HK3.out) HTX.out (HXV.out W3 HK3.out))
        have hct := putP_count l nd x
        have HPP := Lib.hid (HP.out l hrow)
        obtain ⟨y, ok, hw⟩ : ∃ y ok, putP nd l x = (y, ok) := ⟨_, _, rfl⟩
        rw [hw] at HW HPP hct
        clear hw HP HPN
        go_wp2_with fail
        refine HW.out.mono ?_
        rintro e W4 ⟨hb4, v4, rfl, ev4, rfl, hes4, hd4, hkk4⟩
        obtain ⟨A4, c4, rfl, hlc4, hcm4⟩ := hes4.form
        obtain ⟨W5, e5, hb5, hn5, hz5⟩ : ∃ W5, W5 = W4.alloc (.cells #[.int .u8 (y.k : Int), .string y.d, .slice A4 y.es.len c4] 26) ∧ Below W4.heap.size W4 W5 ∧ W5.heap[W4.heap.size]? = some (.cells #[.int .u8 (y.k : Int), .string y.d, .slice A4 y.es.len c4] 26 (0, 0)) ∧ W4.heap.size < W5.heap.size := ⟨_, rfl, (Below.refl _ _).alloc (Nat.le_refl _) _, heap_alloc_new _ _, by simp⟩
        have HK5 := Lib.hid ((HK3.out.step hb4).step hb5)
        have HYV := Lib.hid (show NdV W5 W5.heap.size _ y from ⟨_, rfl, (hes4.keep hb5).more hb5.size, hd4, hkk4⟩)
        have HRY := Lib.hid (refRight_any W5 W5.heap.size (Nat.le_refl _) _ y HYV.out (by omega))
        have HN5 := Lib.hid hn5
        clear hb4 hb5 hes4 hn0 hn1 hn2 hm0 hm1 hm2 hct
        go_upto_region 7 with (fail)
        rw [← e5]
        clear e5
        obtain ⟨hy0, hy1, hy2, _⟩ := nd_box (W := W5) (k := y.k) (d := y.d) (v := .slice A4 y.es.len c4) hn5
        clear hn5
        generalize W4.heap.size = g4 at *
        cases hok : ok with
        | false =>
          have HP2 := Lib.hid (show putR nd s x = (5, zNd) by rw [HPP.out, hok]; rfl)
          clear hy0 hy1 hy2
          go_wp2_with (refine wpList_store_row rfl _ _ _ rfl _ _ rfl rfl _ _ (HBZ.out _ HK5.out) (by kernel_rfl) (by rfl) (by simp [Value.oneCell']) ?_)
          refine bodyPost_ret (node_results rfl (cs := #[.int .u8 0, .string ⟨#[]⟩, .slice none 0 0]) rfl (setRow_heap _ _ _ _ _ _ (HBZ.out _ HK5.out)) rfl) rfl ⟨below_setRow (HBL.out _ HK5.out) (by omega) _, ?_⟩
          rw [HP2.out]
          exact ⟨_, rfl, _, rfl, EsAt.nil _ _, by decide, by decide⟩
        | true =>
          cases hr3 : y.right with
          | false =>
            have HP2 := Lib.hid (show putR nd s x = (70, zNd) by rw [HPP.out, hok]; simp only [hr3]; rfl)
            rw [hr3] at HRY
            go_wp2_with fail
            refine HRY.out.mono ?_
            rintro e W6 ⟨rfl, hb6⟩
            have HK6 := Lib.hid (HK5.out.step hb6)
            clear hb6 hy0 hy1 hy2
            go_wp2_with (refine wpList_store_row rfl _ _ _ rfl _ _ rfl rfl _ _ (HBZ.out _ HK6.out) (by kernel_rfl) (by rfl) (by simp [Value.oneCell']) ?_)
            refine bodyPost_ret (node_results rfl (cs := #[.int .u8 0, .string ⟨#[]⟩, .slice none 0 0]) rfl (setRow_heap _ _ _ _ _ _ (HBZ.out _ HK6.out)) rfl) rfl ⟨below_setRow (HBL.out _ HK6.out) (by omega) _, ?_⟩
            rw [HP2.out]
            exact ⟨_, rfl, _, rfl, EsAt.nil _ _, by decide, by decide⟩
          | true =>
            have HP2 := Lib.hid (show putR nd s x = (0, y) by rw [HPP.out, hok]; simp only [hr3]; rfl)
            rw [hr3] at HRY
            go_wp2_with fail
            refine HRY.out.mono ?_
            rintro e W6 ⟨rfl, hb6⟩
            have HK6 := Lib.hid (HK5.out.step hb6)
            have HYW := Lib.hid (HYV.out.below hb6)
            obtain ⟨hz0, hz1, hz2, _⟩ := nd_box (W := W6) (k := y.k) (d := y.d) (v := .slice A4 y.es.len c4) ((hb6.block g4 hz5).trans HN5.out)
            clear hb6 hy0 hy1 hy2
            go_wp2_with (refine wpList_store_row rfl _ _ _ rfl _ _ rfl rfl _ _ (HBZ.out _ HK6.out) (by kernel_rfl) (by rfl) (by simp [Value.oneCell']) ?_)
            refine bodyPost_ret (node_results rfl (cs := #[.int .u8 (y.k : Int), .string y.d, .slice A4 y.es.len c4]) rfl (setRow_heap _ _ _ _ _ _ (HBZ.out _ HK6.out)) rfl) rfl ⟨below_setRow (HBL.out _ HK6.out) (by omega) _, ?_⟩
            rw [HP2.out]
            obtain ⟨ev6, e6, hes6, hd6, hk6⟩ := HYW.out
            obtain rfl : ev6 = .slice A4 y.es.len c4 := by simpa using e6.symm
            exact ⟨_, rfl, _, rfl, (hes6.box (HBZ.out _ HK6.out) (fun k hk => setRow_other _ _ _ _ hk)).more (by simp), hd6, hk6⟩
end Go.Proofs.YtmcafiihicanfaaDoor
