/- Contract of the reference's Parse. -/
import Derived.Test.YtcnedecmmplmoaaGreatDoorCm15
set_option linter.unusedVariables false
set_option linter.unusedSimpArgs false
namespace Go.Proofs.YtcnedecmmplmoaaGreatDoor
open Go.RowKit Go.BigFrame
open Ver (cmpV BL parts)

theorem RB.yes {s : ByteArray} {w : World} {e : Ending} {w' : World} (h : RB s w e w') (hm : mayB (rawB s) = true) : e = .returned (.tuple #[.agg #[.int .u8 ((rawB s).1 : Int), .string (rawB s).2], .bool true]) ∧ Below w.heap.size w w' := by
  unfold RB at h; rwa [if_pos hm] at h
theorem RB.no {s : ByteArray} {w : World} {e : Ending} {w' : World} (h : RB s w e w') (hm : mayB (rawB s) = false) : e = .returned (.tuple #[.agg #[.int .u8 0, .string ⟨#[]⟩], .bool false]) ∧ Below w.heap.size w w' := by
  unfold RB at h; rwa [hm, if_neg (by simp)] at h
theorem rowsB_bad (s t x : ByteArray) (k m : Nat) (hk : (piecesB 124 s)[k]? = some t) (hm : (piecesB 44 t)[m]? = some x) (hb : mayB (rawB x) = false) : mayR (rowsB s) = false :=
  mayR_row (rowsB s) k (rowB t) (by unfold rowsB; rw [List.getElem?_map, hk]; rfl) (mayRow_bd (rowB t) m (rawB x) (by unfold rowB; rw [List.getElem?_map, hm]; rfl) hb)
theorem rsplit_124 (s : ByteArray) (w : World) (hs : s.size ≤ 1000000) :
    Calls Tryz.prog 89 #[.string s, .int .u8 124] w fun e w' => ∃ v, e = .returned v ∧ RdS w' AllB v (piecesB 124 s).length (strs (piecesB 124 s)) ∧ Below w.heap.size w w' := rsplit_any 124 s w hs
theorem rsplit_44 (s : ByteArray) (w : World) (hs : s.size ≤ 1000000) :
    Calls Tryz.prog 89 #[.string s, .int .u8 44] w fun e w' => ∃ v, e = .returned v ∧ RdS w' AllB v (piecesB 44 s).length (strs (piecesB 44 s)) ∧ Below w.heap.size w w' := rsplit_any 44 s w hs
set_option maxRecDepth 100000 in
set_option maxHeartbeats 4000000 in
theorem refrparse_any (s : ByteArray) (w : World) (hs : s.size ≤ 1000000) : Calls Tryz.prog 55 #[.string s] w (PR s w) := by
  obtain ⟨i0, hi, hz0, hz1, hz2⟩ := info_parts infoBRow
  obtain ⟨i1, hi1, hy0, hy1, hy2⟩ := info_parts infoBound
  have HI := Lib.hid hi
  have HZ0 := Lib.hid hz0
  have HZ1 := Lib.hid hz1
  have HZ2 := Lib.hid hz2
  have HI1 := Lib.hid hi1
  have HY0 := Lib.hid hy0
  have HY1 := Lib.hid hy1
  have HY2 := Lib.hid hy2
  have HSH := Lib.hid (rows_short s hs)
  have hpl := pieces_le 124 s
  have HPM := Lib.hid (piece_le 124 s)
  clear hi hz0 hz1 hz2 hi1 hy0 hy1 hy2
  go_enter Tryz.func55, Tryz.ntmps55
  go_wp2_with (go_at_call 89; refine (rsplit_124 s _ hs).mono ?_; rintro e W1 ⟨v1, rfl, hrd1, hb1⟩)
  obtain ⟨ps, hps⟩ : ∃ ps, ps = piecesB 124 s := ⟨_, rfl⟩
  have HPS := Lib.hid hps
  rw [← hps] at HPM hpl hrd1
  obtain ⟨A0, c0, rfl, hl0, hm0⟩ := hrd1.form
  unfold maxLen at hm0
  have HRD1 := Lib.hid hrd1
  have HB1 := Lib.hid hb1
  have HZW := Lib.hid hb1.size
  clear hrd1 hps hb1
  go_loopw [4, 6] (fun rv i wr => ∃ (k : Nat) (vs : List Value), k ≤ ps.length ∧ i = .int .i64 (k : Int) ∧ Hid (wr.ownsRow W1.heap.size 58 1 rv k vs) ∧ Hid (ItemsS BRow wr (ownS rv.ownBlock) vs ((ps.take k).map rowB)) ∧ Hid (Below W1.heap.size W1 wr)) (fun _ i _ => ps.length - (intOf i).toNat)
  case atStart => exact ⟨0, [], by omega, rfl, Lib.hid (World.ownsRow_nil _ _ _ _), Lib.hid (ItemsS.nil _ _ _), Lib.hid (Below.refl _ _)⟩
  case round =>
    obtain ⟨k, vs, hk, rfl, HOWN, HIT, HB⟩ := hrel
    obtain ⟨A1, cap1, rfl⟩ := own_form HOWN.out
    by_cases hlt : k < ps.length
    · have hltI : (k : Int) < (ps.length : Int) := by omega
      have hk0 : (0 : Int) ≤ (k : Int) := by omega
      obtain ⟨_, _, e', -, -, -, hcs⟩ := HRD1.out.below HB.out
      cases e'
      obtain ⟨ad, rfl, -, -, hc⟩ := hcs (by omega)
      obtain ⟨t, htt⟩ : ∃ t, t = ps.getD k ⟨#[]⟩ := ⟨_, rfl⟩
      have HTK := Lib.hid (show ps[k]? = some t by rw [htt]; exact getD_get ps k _ hlt)
      have hck := hc k (.string t) (by unfold strs; rw [List.getElem?_map, HTK.out]; rfl)
      have htz : t.size ≤ 1000000 := by have := HPM.out t (List.mem_of_getElem? HTK.out); omega
      clear hc hcs htt
      have hpl2 := pieces_le 44 t
      have HPM2 := Lib.hid (piece_le 44 t)
      go_wp2_with (go_at_call 89; refine (rsplit_44 t _ htz).mono ?_; rintro e W2 ⟨v2, rfl, hrd2, hb2⟩)
      obtain ⟨qs, hqs⟩ : ∃ qs, qs = piecesB 44 t := ⟨_, rfl⟩
      have HQS := Lib.hid hqs
      rw [← hqs] at HPM2 hpl2 hrd2
      obtain ⟨A3, c3, rfl, hl3, hm3⟩ := hrd2.form
      unfold maxLen at hm3
      obtain ⟨wo, hwo⟩ : ∃ wo : World, wo = wr := ⟨_, rfl⟩
      rw [← hwo] at HOWN HIT HB hck hb2
      clear hwo wr
      have HRD2 := Lib.hid hrd2
      have HB2 := Lib.hid hb2
      have HZ2W := Lib.hid hb2.size
      clear hrd2 hqs hck hb2
      go_loopw [7, 9] (fun lv j wq => ∃ (m : Nat), m ≤ qs.length ∧ j = .int .i64 (m : Int) ∧ Hid (wq.ownsRow W2.heap.size 57 2 lv m (rowCells ((qs.take m).map rawB))) ∧ Hid (Below W2.heap.size W2 wq)) (fun _ j _ => qs.length - (intOf j).toNat)
      case atStart => exact ⟨0, by omega, rfl, Lib.hid (World.ownsRow_nil _ _ _ _), Lib.hid (Below.refl _ _)⟩
      case round =>
        obtain ⟨m, hm, rfl, HOWI, HBI⟩ := hrel
        obtain ⟨A4, cap4, rfl⟩ := own_form HOWI.out
        by_cases hmt : m < qs.length
        · have hmtI : (m : Int) < (qs.length : Int) := by omega
          have hm0 : (0 : Int) ≤ (m : Int) := by omega
          obtain ⟨_, _, e', -, -, -, hcs⟩ := HRD2.out.below HBI.out
          cases e'
          obtain ⟨ad3, rfl, -, -, hc⟩ := hcs (by omega)
          obtain ⟨x, hxx⟩ : ∃ x, x = qs.getD m ⟨#[]⟩ := ⟨_, rfl⟩
          have HXK := Lib.hid (show qs[m]? = some x by rw [hxx]; exact getD_get qs m _ hmt)
          have hck := hc m (.string x) (by unfold strs; rw [List.getElem?_map, HXK.out]; rfl)
          have hxz : x.size ≤ 1000000 := by have := HPM2.out x (List.mem_of_getElem? HXK.out); omega
          clear hc hcs hxx
          go_wp2_with fail
          refine (rbound_any x hxz _).mono ?_
          rintro e w3 hrb
          cases hmx : mayB (rawB x)
          · obtain ⟨rfl, hb3⟩ := hrb.no hmx
            have HF := Lib.hid (fun e w' (h : PRNo w e w') => (show PR s w e w' by unfold PR; rw [rowsB_bad s t x k m (by rw [← HPS.out]; exact HTK.out) (by rw [← HQS.out]; exact HXK.out) hmx, if_neg (by simp)]; exact h))
            have HBN := Lib.hid (show Below w.heap.size w (w3.alloc (.cells #[.int .u8 0, .string ⟨#[]⟩] 57)) from
              (below_step (below_step (below_step (below_step HB1.out HB.out HB1.out.size) HB2.out (Nat.le_trans HB1.out.size HB.out.size)) HBI.out (Nat.le_trans (Nat.le_trans HB1.out.size HB.out.size) HB2.out.size)) hb3 (Nat.le_trans (Nat.le_trans (Nat.le_trans HB1.out.size HB.out.size) HB2.out.size) HBI.out.size)).alloc (Nat.le_trans (Nat.le_trans (Nat.le_trans (Nat.le_trans HB1.out.size HB.out.size) HB2.out.size) HBI.out.size) hb3.size) _)
            clear hrb hmx hb3 hck
            go_wp2
            go_ret2
            exact HF.out _ _ ⟨rfl, HBN.out⟩
          obtain ⟨rfl, hb3⟩ := hrb.yes hmx
          clear hrb hmx
          obtain ⟨o, tx, hraw⟩ : ∃ o tx, (o, tx) = rawB x := ⟨_, _, rfl⟩
          rw [← hraw]
          dsimp only
          have HRAW := Lib.hid hraw
          go_upto_region 12 with (fail)
          obtain ⟨w4, hw4, hg4, hq4, hz4, hB4⟩ := row_at wr w3 (.cells #[.int .u8 (o : Int), .string tx] 57) hb3
          rw [← hw4]
          obtain ⟨hx0, hx1, _, _⟩ := cell_two hg4
          have HB3 := Lib.hid hB4
          have HOW3 := Lib.hid (own_below HOWI.out hB4 (Nat.le_refl _))
          have HSZ3 := Lib.hid (Nat.le_trans HBI.out.size hB4.size)
          clear hraw hb3 hck hw4 hg4 hq4 hz4 hB4
          go_wp2_with (at_builtin; refine wpList_appK rfl _ _ 58 rfl W2.heap.size 57 i1 _ 2 24 Tryz.underlying58 HI1.out HY0.out HY1.out HY2.out rfl (by decide) _ _ _ rfl (HOW3.out.alloc _) ⟨w4.heap.size, 0, none⟩ 1 1 [.int .u8 (o : Int), .string tx] rfl rfl ?c1 ?c2 ?c3 ?c4 ?c5 ?_)
          case c1 => intro j u hu; exact row_cells (heap_alloc_new _ _) j u (by simpa using hu)
          case c2 => simp [Value.oneCell']
          case c3 => unfold maxLen; omega
          case c4 => omega
          case c5 => have := HSZ3.out; simp; omega
          intro v' w6 hown6 hgrow6 hmov6
          obtain ⟨A6, cap6, rfl⟩ := own_form hown6
          have hb36 : Below wr.heap.size wr (w4.alloc (.cells #[.int .u8 (o : Int), .string tx] 57)) := HB3.out.alloc HB3.out.size _
          have HR5 := Lib.hid ((below_step HBI.out hb36 HBI.out.size).grown hgrow6 (by have := HSZ3.out; simp; omega) fun g hg => (HOW3.out.lt g hg).1)
          have HR1 := Lib.hid (show w6.ownsRow W2.heap.size 57 2 (.slice A6 (m + 1) cap6) (m + 1) (rowCells ((qs.take (m + 1)).map rawB)) by
            rw [take_map_next rawB qs m x HXK.out, rowCells_snoc, ← HRAW.out, List.map_take]; exact hown6)
          clear hown6 hgrow6 hmov6 hb36
          go_wp2
          go_roundw
          case rel => exact ⟨m + 1, by omega, by go_num, HR1, HR5⟩
          case measure => simp [intOf]; omega
        · have hme : m = qs.length := by omega
          subst hme
          have hmtI : ¬ (qs.length : Int) < (qs.length : Int) := by omega
          have hrow : (qs.take qs.length).map rawB = rowB t := by rw [List.take_length, HQS.out]; rfl
          have hrl : (rowB t).length = qs.length := by rw [← hrow]; simp
          have howi := HOWI.out
          rw [hrow] at howi
          have hbo : Below wo.heap.size wo wr := HB2.out.trans (HBI.out.mono (by have := HZ2W.out; omega))
          have hown2 := own_below HOWN.out hbo (Nat.le_refl _)
          have hnew : BRow wr (ownS (Value.slice A1 k cap1).ownBlock) (.slice A4 qs.length cap4) (rowB t) := by
            unfold BRow
            rw [hrl]
            exact (RdS.own howi).weak fun g _ hS e => by have := (HOWN.out.lt g e).2; have := HZ2W.out; omega
          have hit2 := ((HIT.out.keep BRow.keeps (SameS.below hbo _)).snoc hnew).keep BRow.keeps (SameS.below ((Below.refl wr.heap.size wr).alloc (Nat.le_refl _) (.cells #[.slice A4 qs.length cap4] 58)) _)
          rw [← take_map_next rowB ps k t HTK.out] at hit2
          have HIT2 := Lib.hid hit2
          have HOWN2 := Lib.hid hown2
          have hb2 := (HB.out.trans (hbo.mono HB.out.size)).alloc (Nat.le_trans HB.out.size hbo.size) (.cells #[.slice A4 qs.length cap4] 58)
          have HB22 := Lib.hid hb2
          have HZB := Lib.hid (Nat.le_trans HB.out.size hbo.size)
          clear hit2 hnew hown2 hrow hrl howi hb2 hbo
          go_wp2_with (at_builtin; refine wpList_app rfl _ _ 38 rfl W1.heap.size 58 i0 (.slice none 0 0) 24 Tryz.underlying38 HI.out HZ0.out HZ1.out HZ2.out rfl _ k vs rfl (HOWN2.out.alloc _) ⟨wr.heap.size, 0, none⟩ 1 1 [.slice A4 qs.length cap4] rfl rfl ?c1 ?c2 ?c3 ?c4 ?c5 ?_)
          case c2 => simp [Value.oneCell']
          case c3 => unfold maxLen; omega
          case c4 => omega
          case c5 => have := HZB.out; simp; omega
          intro v' w6 hown6 hgrow6 hmov6
          obtain ⟨A6, cap6, rfl⟩ := own_form hown6
          have HR1 := Lib.hid hown6
          have HR2 := Lib.hid (items_moved BRow.keeps HIT2.out (SameS.grown hgrow6) hmov6)
          have HR5 := Lib.hid (HB22.out.grown hgrow6 (by have := HZB.out; simp; omega) fun g hg => (HOWN2.out.lt g hg).1)
          clear hown6 hgrow6 hmov6
          go_wp2
          go_roundw
          case rel => exact ⟨k + 1, _, by omega, by go_num, HR1, HR2, HR5⟩
          case measure => simp [intOf]; omega
    · have hke : k = ps.length := by omega
      subst hke
      have hrows : (ps.take ps.length).map rowB = rowsB s := by rw [List.take_length, HPS.out]; rfl
      have hlen : (rowsB s).length = ps.length := by rw [← hrows]; simp
      have hO : RngAt wr (.slice A1 ps.length cap1) (rowsB s) := ⟨vs, by rw [hlen]; exact (RdS.own HOWN.out).all, by have := HIT.out.weak BRow.keeps (S' := AllB) (fun _ _ _ => trivial); rwa [hrows] at this⟩
      have hbw : Below w.heap.size w wr := HB1.out.trans (HB.out.mono (by have := HZW.out; omega))
      have HO := Lib.hid hO
      have HBW := Lib.hid hbw
      clear hrows hlen hO hbw
      have HT := Lib.hid (may_any _ _ wr HO.out HSH.out)
      cases hm : mayR (rowsB s)
      · rw [hm] at HT
        have HF := Lib.hid (fun e w' (h : PRNo w e w') => (show PR s w e w' by unfold PR; rw [hm, if_neg (by simp)]; exact h))
        clear hm
        go_wp2_with (go_at_call 85; refine HT.out.mono ?_; rintro e w2 ⟨rfl, hb2⟩)
        go_ret2
        exact HF.out _ _ ⟨rfl, below_step HBW.out hb2 HBW.out.size⟩
      · rw [hm] at HT
        have HF := Lib.hid (fun e w' (h : PRYes s w e w') => (show PR s w e w' by unfold PR; rw [if_pos hm]; exact h))
        clear hm
        go_wp2_with (go_at_call 85; refine HT.out.mono ?_; rintro e w2 ⟨rfl, hb2⟩)
        go_ret2
        exact HF.out _ _ ⟨_, rfl, HO.out.below hb2, below_step HBW.out hb2 HBW.out.size⟩
end Go.Proofs.YtcnedecmmplmoaaGreatDoor
