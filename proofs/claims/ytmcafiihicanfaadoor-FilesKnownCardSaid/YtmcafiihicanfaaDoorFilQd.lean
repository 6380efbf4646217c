/- files: Put. -/
import Derived.Test.YtmcafiihicanfaaDoorFilQc
import Derived.Test.YtmcafiihicanfaaDoorFilPb
set_option linter.unusedVariables false
set_option linter.unusedSimpArgs false
namespace Go.Proofs.YtmcafiihicanfaaDoor
open Go Go.RowKit Go.BigFrame
open Fil (Es Nd Sp)

theorem app_count : ∀ a b : Es, (appE a b).count = a.count + b.count
  | .nil, b => by simp [appE, Es.count]
  | .cons _ _ _ s nx, b => by simp only [appE, Es.count, app_count nx b]; omega
theorem cut_count : ∀ (es : Es) (i : Nat), (takeE i es).count + (dropE i es).count = es.count
  | es, 0 => by simp [takeE, dropE, Es.count]
  | .nil, i + 1 => by simp [takeE, dropE, Es.count]
  | .cons _ _ _ s nx, i + 1 => by have := cut_count nx i; simp only [takeE, dropE, Es.count]; omega
theorem ins_count (nm : ByteArray) (x : Nd) (es : Es) : (insE nm x es).count = es.count + 1 + x.es.count := by
  have := cut_count es (aheadE nm es)
  unfold insE
  rw [app_count]
  simp only [Es.count]
  omega
theorem set_count : ∀ (es : Es) (i : Nat) (y : Nd), i < es.len → (setE es i y).count + (kidE es i).es.count = es.count + y.es.count
  | .nil, _, _, h => by simp [Es.len] at h
  | .cons _ k d s nx, 0, y, _ => by simp only [setE, kidE, Es.count]; omega
  | .cons _ _ _ s nx, i + 1, y, h => by have := set_count nx i y (by simp [Es.len] at h; omega); simp only [setE, kidE, Es.count]; omega
theorem with_count : ∀ (l : List ByteArray) (nd x y : Nd), withN nd l x = some y → y.es.count ≤ nd.es.count + 1 + x.es.count
  | [], nd, x, y, h => by
    unfold withN at h
    cases h
    omega
  | nm :: l, nd, x, y, h => by
    unfold withN at h
    split at h
    · split at h
      · rename_i hp
        split at h
        · rename_i z hz
          cases h
          have h1 := with_count l _ x z hz
          have h2 := set_count nd.es _ z (placeN_lt hp)
          show (setE nd.es (placeN nd nm).1 z).count ≤ _
          omega
        · cases h
      · split at h
        · cases h
          show (insE nm x nd.es).count ≤ _
          rw [ins_count]; omega
        · cases h
    · cases h
/-- What Put answers. -/
def putR (nd : Nd) (s : ByteArray) (x : Nd) : Nat × Nd :=
  if nd.right && x.right then
    (match rowN s with
    | none => (2, zNd)
    | some l => match withN nd l x with
      | none => (5, zNd)
      | some y => if y.right then (0, y) else (70, zNd))
  else (70, zNd)
def PutPost (w : World) (r : Nat × Nd) (e : Ending) (W : World) : Prop :=
  Below w.heap.size w W ∧ ∃ v, e = .returned (.tuple #[v, .int .i64 (r.1 : Int)]) ∧ NdV W W.heap.size v r.2
theorem TxS.of {w : World} {b : Nat} {v : Value} {l : List ByteArray} (h : TxAt w b v l) (hl : l.length ≤ maxLen) : TxS w v l := by
  rcases h with ⟨rfl, rfl⟩ | ⟨g, h1, rfl, h2⟩
  · exact ⟨none, 0, rfl, Nat.le_refl _, Nat.zero_le _, fun h => absurd h (Nat.lt_irrefl 0)⟩
  · refine ⟨_, _, rfl, Nat.le_refl _, hl, fun _ => ⟨g, 0, rfl, block_lt h2, fun i x hx => ?_⟩⟩
    rw [Nat.zero_add, cell_of_row _ _ _ _ _ _ h2]
    simp [hx]
theorem row_names {s : ByteArray} {l : List ByteArray} (h : rowN s = some l) : ∀ x ∈ l, x.size ≤ 255 := by
  unfold rowN at h
  split at h
  · cases h; intro x hx; cases hx
  · split at h
    · rename_i ha
      cases h
      intro x hx
      rw [List.all_eq_true] at ha
      exact Fil.nameB_size (ha x hx)
    · cases h
theorem right_calls (v : Value) (nd : Nd) (w : World) (hv : NdV w w.heap.size v nd) (hN : nd.es.count ≤ 100000000) : Calls Tryd.prog 14 #[v] w fun e W => e = .returned (.bool nd.right) ∧ Below w.heap.size w W :=
  callsIn_wide.1 (right_any 5 (Nat.le_refl _) v nd w hv (by rw [Fil.Nd.flat_len]; unfold Fil.Nd.count; omega))
set_option maxRecDepth 1000000 in
set_option maxRecDepth 100000 in
set_option maxHeartbeats 4000000 in
theorem put_any (w : World) (B : Nat) (hB : B ≤ w.heap.size) (v vx : Value) (nd x : Nd) (hv : NdV w B v nd) (hvx : NdV w B vx x) (s : ByteArray) (hs : s.size ≤ 1000000) (hc : nd.es.count ≤ 1000000) (hcx : x.es.count ≤ 1000000) :
    Calls Tryd.prog 27 #[v, .string s, vx] w (PutPost w (putR nd s x)) := by
  obtain ⟨ev, rfl, hes, hd, hk⟩ := hv
  obtain ⟨A, c, rfl, hlc, hcm⟩ := hes.form
  obtain ⟨ex, rfl, hex, hdx, hkx⟩ := hvx
  obtain ⟨Ax, cx, rfl, hlcx, hcmx⟩ := hex.form
  go_enter Tryd.func27, Tryd.ntmps27
  obtain ⟨w3, e3, hb0, hb1, hb2, hbw, hsz⟩ := rows3 w (.cells #[.int .u8 (nd.k : Int), .string nd.d, .slice A nd.es.len c] 26) (.cells #[.int .u8 (x.k : Int), .string x.d, .slice Ax x.es.len cx] 26) (.cells #[.int .u8 0, .string ⟨#[]⟩, .slice none 0 0] 26)
  have HE := Lib.hid (And.intro hes hex)
  have H3 := Lib.hid (And.intro hb0 (And.intro hb1 (And.intro hb2 (And.intro hbw hsz))))
  have HNV := Lib.hid (fun (w' : World) (h : KeepW w3 w3.heap.size w') => show NdV w' B (.agg #[.int .u8 (nd.k : Int), .string nd.d, .slice A nd.es.len c]) nd from ⟨_, rfl, hes.keep ((below_step hbw h.1 (by omega)).mono hB), hd, hk⟩)
  have HXV := Lib.hid (fun (w' : World) (h : KeepW w3 w3.heap.size w') => show NdV w' B (.agg #[.int .u8 (x.k : Int), .string x.d, .slice Ax x.es.len cx]) x from ⟨_, rfl, hex.keep ((below_step hbw h.1 (by omega)).mono hB), hdx, hkx⟩)
  have HBN := Lib.hid (fun (w' : World) (h : KeepW w3 w3.heap.size w') => nd_box (W := w') (k := nd.k) (d := nd.d) (v := .slice A nd.es.len c) ((h.1.block w.heap.size (by omega)).trans hb0))
  have HBX := Lib.hid (fun (w' : World) (h : KeepW w3 w3.heap.size w') => nd_box (W := w') (k := x.k) (d := x.d) (v := .slice Ax x.es.len cx) ((h.1.block (w.heap.size + 1) (by omega)).trans hb1))
  have HBZ := Lib.hid (fun (w' : World) (h : KeepW w3 w3.heap.size w') => (h.1.block (w.heap.size + 2) (by omega)).trans hb2)
  have HBL := Lib.hid (fun (w' : World) (h : KeepW w3 w3.heap.size w') => below_step hbw h.1 (by omega))
  have HK0 := Lib.hid (KeepW.start (Nat.le_refl w3.heap.size))
  have HRN := Lib.hid (fun (w' : World) (h : KeepW w3 w3.heap.size w') => h.calls (right_calls _ nd w' ((HNV.out w' h).more (by have := h.2; omega)) (by omega)))
  have HRX := Lib.hid (fun (w' : World) (h : KeepW w3 w3.heap.size w') => h.calls (right_calls _ x w' ((HXV.out w' h).more (by have := h.2; omega)) (by omega)))
  have HROW := Lib.hid (fun w' => row_any s (by omega) w')
  clear hes hex hb0 hb1 hb2 hbw
  go_upto_region 1 with (fail)
  rw [← e3]
  clear e3
  have H := Lib.hid (KeepW.start (Nat.le_refl w3.heap.size))
  obtain ⟨hn0, hn1, hn2, _⟩ := HBN.out w3 H.out
  cases hr1 : nd.right with
  | false =>
    have HP := Lib.hid (show putR nd s x = (70, zNd) by unfold putR; rw [hr1]; rfl)
    rw [hr1] at HRN
    go_wp2_with fail
    refine (HRN.out w3 H.out).mono ?_
    rintro e W1 ⟨rfl, hk1⟩
    have HK1 := Lib.hid hk1
    clear hk1 hn0 hn1 hn2
    go_wp2_with (refine wpList_store_row rfl _ _ _ rfl _ _ rfl rfl _ _ (HBZ.out _ HK1.out) (by kernel_rfl) (by rfl) (by simp [Value.oneCell']) ?_)
    refine bodyPost_ret (node_results rfl (cs := #[.int .u8 0, .string ⟨#[]⟩, .slice none 0 0]) rfl (setRow_heap _ _ _ _ _ _ (HBZ.out _ HK1.out)) rfl) rfl ⟨below_setRow (HBL.out _ HK1.out) (by omega) _, ?_⟩
    rw [HP.out]
    exact ⟨_, rfl, _, rfl, EsAt.nil _ _, by decide, by decide⟩
  | true =>
    rw [hr1] at HRN
    go_wp2_with fail
    refine (HRN.out w3 H.out).mono ?_
    rintro e W1 ⟨rfl, hk1⟩
    have HK1 := Lib.hid hk1
    clear hk1 hn0 hn1 hn2
    obtain ⟨hm0, hm1, hm2, _⟩ := HBX.out W1 HK1.out
    cases hr2 : x.right with
    | false =>
      have HP := Lib.hid (show putR nd s x = (70, zNd) by unfold putR; rw [hr1, hr2]; rfl)
      rw [hr2] at HRX
      go_wp2_with fail
      refine (HRX.out W1 HK1.out).mono ?_
      rintro e W2 ⟨rfl, hk2⟩
      have HK2 := Lib.hid hk2
      clear hk2 hm0 hm1 hm2
      go_wp2_with (refine wpList_store_row rfl _ _ _ rfl _ _ rfl rfl _ _ (HBZ.out _ HK2.out) (by kernel_rfl) (by rfl) (by simp [Value.oneCell']) ?_)
      refine bodyPost_ret (node_results rfl (cs := #[.int .u8 0, .string ⟨#[]⟩, .slice none 0 0]) rfl (setRow_heap _ _ _ _ _ _ (HBZ.out _ HK2.out)) rfl) rfl ⟨below_setRow (HBL.out _ HK2.out) (by omega) _, ?_⟩
      rw [HP.out]
      exact ⟨_, rfl, _, rfl, EsAt.nil _ _, by decide, by decide⟩
    | true =>
      have HP := Lib.hid (show putR nd s x = (match rowN s with | none => (2, zNd) | some l => match withN nd l x with | none => (5, zNd) | some y => if y.right then (0, y) else (70, zNd)) by unfold putR; rw [hr1, hr2]; rfl)
      rw [hr2] at HRX
      go_wp2_with fail
      refine (HRX.out W1 HK1.out).mono ?_
      rintro e W2 ⟨rfl, hk2⟩
      have HK2 := Lib.hid hk2
      clear hk2 hm0 hm1 hm2
      cases hrow : rowN s with
      | none =>
        have HP2 := Lib.hid (show putR nd s x = (2, zNd) by rw [HP.out, hrow])
        go_wp2_with fail
        refine (HROW.out W2).mono ?_
        rintro e W3 ⟨hb3, he⟩
        rw [hrow] at he
        simp only at he
        subst he
        have HK3 := Lib.hid (HK2.out.step hb3)
        clear hb3
        go_wp2_with (refine wpList_store_row rfl _ _ _ rfl _ _ rfl rfl _ _ (HBZ.out _ HK3.out) (by kernel_rfl) (by rfl) (by simp [Value.oneCell']) ?_)
        refine bodyPost_ret (node_results rfl (cs := #[.int .u8 0, .string ⟨#[]⟩, .slice none 0 0]) rfl (setRow_heap _ _ _ _ _ _ (HBZ.out _ HK3.out)) rfl) rfl ⟨below_setRow (HBL.out _ HK3.out) (by omega) _, ?_⟩
        rw [HP2.out]
        exact ⟨_, rfl, _, rfl, EsAt.nil _ _, by decide, by decide⟩
      | some l =>
        go_wp2_with fail
        refine (HROW.out W2).mono ?_
        rintro e W3 ⟨hb3, he⟩
        rw [hrow] at he
        obtain ⟨vr, rfl, htx⟩ := he
        have HK3 := Lib.hid (HK2.out.step hb3)
        have hll := rowN_len hrow
        have HTX := Lib.hid (TxS.of htx (by unfold maxLen; omega))
        have HNS := Lib.hid (row_names hrow)
        clear hb3 htx
        obtain ⟨hn0, hn1, hn2, _⟩ := HBN.out W3 HK3.out
        obtain ⟨hm0, hm1, hm2, _⟩ := HBX.out W3 HK3.out
        obtain ⟨A2, c2, rfl⟩ : ∃ A2 c2, vr = .slice A2 l.length c2 := by obtain ⟨A2, c2, e, _⟩ := HTX.out; exact ⟨A2, c2, e⟩
        have HW := Lib.hid (with_any l (fun y hy => Nat.le_trans (HNS.out y hy) (by decide)) nd x hc W3 B (by have := HK3.out.2; omega) _ _ _ (HNV.out W3 HK3.out) HTX.out (HXV.out W3 HK3.out))
        cases hw : withN nd l x with
        | none =>
          have HP2 := Lib.hid (show putR nd s x = (5, zNd) by rw [HP.out, hrow]; simp only [hw])
          rw [hw] at HW
          go_wp2_with fail
          refine HW.out.mono ?_
          rintro e W4 ⟨hb4, rfl⟩
          have HK4 := Lib.hid (KeepW.alloc (HK3.out.step hb4) (.cells #[.int .u8 0, .string ⟨#[]⟩, .slice none 0 0] 26))
          clear hb4 hn0 hn1 hn2 hm0 hm1 hm2
          go_wp2_with (refine wpList_store_row rfl _ _ _ rfl _ _ rfl rfl _ _ (HBZ.out _ HK4.out) (by kernel_rfl) (by rfl) (by simp [Value.oneCell']) ?_)
          refine bodyPost_ret (node_results rfl (cs := #[.int .u8 0, .string ⟨#[]⟩, .slice none 0 0]) rfl (setRow_heap _ _ _ _ _ _ (HBZ.out _ HK4.out)) rfl) rfl ⟨below_setRow (HBL.out _ HK4.out) (by omega) _, ?_⟩
          rw [HP2.out]
          exact ⟨_, rfl, _, rfl, EsAt.nil _ _, by decide, by decide⟩
        | some y =>
          have hct := with_count l nd x y hw
          rw [hw] at HW
          go_wp2_with fail
          refine HW.out.mono ?_
          rintro e W4 ⟨hb4, v4, rfl, ev4, rfl, hes4, hd4, hkk4⟩
          obtain ⟨A4, c4, rfl, hlc4, hcm4⟩ := hes4.form
          obtain ⟨W5, e5, hb5, hn5, hz5⟩ : ∃ W5, W5 = W4.alloc (.cells #[.int .u8 (y.k : Int), .string y.d, .slice A4 y.es.len c4] 26) ∧ Below W4.heap.size W4 W5 ∧ W5.heap[W4.heap.size]? = some (.cells #[.int .u8 (y.k : Int), .string y.d, .slice A4 y.es.len c4] 26 (0, 0)) ∧ W4.heap.size < W5.heap.size := ⟨_, rfl, (Below.refl _ _).alloc (Nat.le_refl _) _, heap_alloc_new _ _, by simp⟩
          have HK5 := Lib.hid ((HK3.out.step hb4).step hb5)
          have HYV := Lib.hid (show NdV W5 W5.heap.size _ y from ⟨_, rfl, (hes4.keep hb5).more hb5.size, hd4, hkk4⟩)
          have HRY := Lib.hid (right_calls _ y W5 HYV.out (by omega))
          have HN5 := Lib.hid hn5
          clear hb4 hb5 hes4 hn0 hn1 hn2 hm0 hm1 hm2
          go_upto_region 7 with (fail)
          rw [← e5]
          clear e5
          obtain ⟨hy0, hy1, hy2, _⟩ := nd_box (W := W5) (k := y.k) (d := y.d) (v := .slice A4 y.es.len c4) hn5
          clear hn5
          generalize W4.heap.size = g4 at *
          cases hr3 : y.right with
          | false =>
            have HP2 := Lib.hid (show putR nd s x = (70, zNd) by rw [HP.out, hrow]; simp only [hw, hr3]; rfl)
            rw [hr3] at HRY
            go_wp2_with fail
            refine HRY.out.mono ?_
            rintro e W6 ⟨rfl, hb6⟩
            have HK6 := Lib.hid (HK5.out.step hb6)
            clear hb6 hy0 hy1 hy2
            go_wp2_with (refine wpList_store_row rfl _ _ _ rfl _ _ rfl rfl _ _ (HBZ.out _ HK6.out) (by kernel_rfl) (by rfl) (by simp [Value.oneCell']) ?_)
            refine bodyPost_ret (node_results rfl (cs := #[.int .u8 0, .string ⟨#[]⟩, .slice none 0 0]) rfl (setRow_heap _ _ _ _ _ _ (HBZ.out _ HK6.out)) rfl) rfl ⟨below_setRow (HBL.out _ HK6.out) (by omega) _, ?_⟩
            rw [HP2.out]
            exact ⟨_, rfl, _, rfl, EsAt.nil _ _, by decide, by decide⟩
          | true =>
            have HP2 := Lib.hid (show putR nd s x = (0, y) by rw [HP.out, hrow]; simp only [hw, hr3]; rfl)
            rw [hr3] at HRY
            go_wp2_with fail
            refine HRY.out.mono ?_
            rintro e W6 ⟨rfl, hb6⟩
            have HK6 := Lib.hid (HK5.out.step hb6)
            have HYW := Lib.hid (HYV.out.below hb6)
            obtain ⟨hz0, hz1, hz2, _⟩ := nd_box (W := W6) (k := y.k) (d := y.d) (v := .slice A4 y.es.len c4) ((hb6.block g4 hz5).trans HN5.out)
            clear hb6 hy0 hy1 hy2
            go_wp2_with (refine wpList_store_row rfl _ _ _ rfl _ _ rfl rfl _ _ (HBZ.out _ HK6.out) (by kernel_rfl) (by rfl) (by simp [Value.oneCell']) ?_)
            refine bodyPost_ret (node_results rfl (cs := #[.int .u8 (y.k : Int), .string y.d, .slice A4 y.es.len c4]) rfl (setRow_heap _ _ _ _ _ _ (HBZ.out _ HK6.out)) rfl) rfl ⟨below_setRow (HBL.out _ HK6.out) (by omega) _, ?_⟩
            rw [HP2.out]
            obtain ⟨ev6, e6, hes6, hd6, hk6⟩ := HYW.out
            obtain rfl : ev6 = .slice A4 y.es.len c4 := by simpa using e6.symm
            exact ⟨_, rfl, _, rfl, (hes6.box (HBZ.out _ HK6.out) (fun k hk => setRow_other _ _ _ _ hk)).more (by simp), hd6, hk6⟩
end Go.Proofs.YtmcafiihicanfaaDoor
