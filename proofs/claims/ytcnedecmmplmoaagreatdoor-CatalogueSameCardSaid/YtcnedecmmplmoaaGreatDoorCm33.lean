/- catalogue: the reference's Wants. -/
import Derived.Test.YtcnedecmmplmoaaGreatDoorCm32
import Derived.Test.YtcnedecmmplmoaaGreatDoorCm25
import Derived.Test.YtcnedecmmplmoaaGreatDoorCm20
set_option linter.unusedVariables false
set_option linter.unusedSimpArgs false
namespace Go.Proofs.YtcnedecmmplmoaaGreatDoor
open Go Go.RowKit Go.BigFrame
open Ver (cmpV BL parts brk)

set_option maxRecDepth 100000 in
set_option maxHeartbeats 4000000 in
theorem refrparse_fr (s : ByteArray) (w : World) (hs : s.size ≤ 1000000) : Calls Tryz.prog 55 #[.string s] w (PF s w) := by
  obtain ⟨i0, hi, hz0, hz1, hz2⟩ := info_parts infoBRow
  obtain ⟨i1, hi1, hy0, hy1, hy2⟩ := info_parts infoBound
  have HI := Lib.hid hi
  have HZ0 := Lib.hid hz0
  have HZ1 := Lib.hid hz1
  have HZ2 := Lib.hid hz2
  have HI1 := Lib.hid hi1
  have HY0 := Lib.hid hy0
  have HY1 := Lib.hid hy1
  have HY2 := Lib.hid hy2
  have HSH := Lib.hid (rows_short s hs)
  have hpl := pieces_le 124 s
  have HPM := Lib.hid (piece_le 124 s)
  clear hi hz0 hz1 hz2 hi1 hy0 hy1 hy2
  go_enter Tryz.func55, Tryz.ntmps55
  go_wp2_with (go_at_call 89; refine (rsplit_124 s _ hs).mono ?_; rintro e W1 ⟨v1, rfl, hrd1, hb1⟩)
  obtain ⟨ps, hps⟩ : ∃ ps, ps = piecesB 124 s := ⟨_, rfl⟩
  have HPS := Lib.hid hps
  rw [← hps] at HPM hpl hrd1
  obtain ⟨A0, c0, rfl, hl0, hm0⟩ := hrd1.form
  unfold maxLen at hm0
  have HRD1 := Lib.hid hrd1
  have HB1 := Lib.hid hb1
  have HZW := Lib.hid hb1.size
  clear hrd1 hps hb1
  go_loopw [4, 6] (fun rv i wr => ∃ (k : Nat) (vs : List Value), k ≤ ps.length ∧ i = .int .i64 (k : Int) ∧ Hid (wr.ownsRow W1.heap.size 58 1 rv k vs) ∧ Hid (ItemsS BRow wr (newS W1.heap.size rv.ownBlock) vs ((ps.take k).map rowB)) ∧ Hid (Below W1.heap.size W1 wr)) (fun _ i _ => ps.length - (intOf i).toNat)
  case atStart => exact ⟨0, [], by omega, rfl, Lib.hid (World.ownsRow_nil _ _ _ _), Lib.hid (ItemsS.nil _ _ _), Lib.hid (Below.refl _ _)⟩
  case round =>
    obtain ⟨k, vs, hk, rfl, HOWN, HIT, HB⟩ := hrel
    obtain ⟨A1, cap1, rfl⟩ := own_form HOWN.out
    by_cases hlt : k < ps.length
    · have hltI : (k : Int) < (ps.length : Int) := by omega
      have hk0 : (0 : Int) ≤ (k : Int) := by omega
      obtain ⟨_, _, e', -, -, -, hcs⟩ := HRD1.out.below HB.out
      cases e'
      obtain ⟨ad, rfl, -, -, hc⟩ := hcs (by omega)
      obtain ⟨t, htt⟩ : ∃ t, t = ps.getD k ⟨#[]⟩ := ⟨_, rfl⟩
      have HTK := Lib.hid (show ps[k]? = some t by rw [htt]; exact getD_get ps k _ hlt)
      have hck := hc k (.string t) (by unfold strs; rw [List.getElem?_map, HTK.out]; rfl)
      have htz : t.size ≤ 1000000 := by have := HPM.out t (List.mem_of_getElem? HTK.out); omega
      clear hc hcs htt
      have hpl2 := pieces_le 44 t
      have HPM2 := Lib.hid (piece_le 44 t)
      go_wp2_with (go_at_call 89; refine (rsplit_44 t _ htz).mono ?_; rintro e W2 ⟨v2, rfl, hrd2, hb2⟩)
      obtain ⟨qs, hqs⟩ : ∃ qs, qs = piecesB 44 t := ⟨_, rfl⟩
      have HQS := Lib.hid hqs
      rw [← hqs] at HPM2 hpl2 hrd2
      obtain ⟨A3, c3, rfl, hl3, hm3⟩ := hrd2.form
      unfold maxLen at hm3
      obtain ⟨wo, hwo⟩ : ∃ wo : World, wo = wr := ⟨_, rfl⟩
      rw [← hwo] at HOWN HIT HB hck hb2
      clear hwo wr
      have HRD2 := Lib.hid hrd2
      have HB2 := Lib.hid hb2
      have HZ2W := Lib.hid hb2.size
      clear hrd2 hqs hck hb2
      go_loopw [7, 9] (fun lv j wq => ∃ (m : Nat), m ≤ qs.length ∧ j = .int .i64 (m : Int) ∧ Hid (wq.ownsRow W2.heap.size 57 2 lv m (rowCells ((qs.take m).map rawB))) ∧ Hid (Below W2.heap.size W2 wq)) (fun _ j _ => qs.length - (intOf j).toNat)
      case atStart => exact ⟨0, by omega, rfl, Lib.hid (World.ownsRow_nil _ _ _ _), Lib.hid (Below.refl _ _)⟩
      case round =>
        obtain ⟨m, hm, rfl, HOWI, HBI⟩ := hrel
        obtain ⟨A4, cap4, rfl⟩ := own_form HOWI.out
        by_cases hmt : m < qs.length
        · have hmtI : (m : Int) < (qs.length : Int) := by omega
          have hm0 : (0 : Int) ≤ (m : Int) := by omega
          obtain ⟨_, _, e', -, -, -, hcs⟩ := HRD2.out.below HBI.out
          cases e'
          obtain ⟨ad3, rfl, -, -, hc⟩ := hcs (by omega)
          obtain ⟨x, hxx⟩ : ∃ x, x = qs.getD m ⟨#[]⟩ := ⟨_, rfl⟩
          have HXK := Lib.hid (show qs[m]? = some x by rw [hxx]; exact getD_get qs m _ hmt)
          have hck := hc m (.string x) (by unfold strs; rw [List.getElem?_map, HXK.out]; rfl)
          have hxz : x.size ≤ 1000000 := by have := HPM2.out x (List.mem_of_getElem? HXK.out); omega
          clear hc hcs hxx
          go_wp2_with fail
          refine (rbound_any x hxz _).mono ?_
          rintro e w3 hrb
          cases hmx : mayB (rawB x)
          · obtain ⟨rfl, hb3⟩ := hrb.no hmx
            have HF := Lib.hid (fun e w' (h : PRNo w e w') => (show PF s w e w' by unfold PF; rw [rowsB_bad s t x k m (by rw [← HPS.out]; exact HTK.out) (by rw [← HQS.out]; exact HXK.out) hmx, if_neg (by simp)]; exact h))
            have HBN := Lib.hid (show Below w.heap.size w (w3.alloc (.cells #[.int .u8 0, .string ⟨#[]⟩] 57)) from
              (below_step (below_step (below_step (below_step HB1.out HB.out HB1.out.size) HB2.out (Nat.le_trans HB1.out.size HB.out.size)) HBI.out (Nat.le_trans (Nat.le_trans HB1.out.size HB.out.size) HB2.out.size)) hb3 (Nat.le_trans (Nat.le_trans (Nat.le_trans HB1.out.size HB.out.size) HB2.out.size) HBI.out.size)).alloc (Nat.le_trans (Nat.le_trans (Nat.le_trans (Nat.le_trans HB1.out.size HB.out.size) HB2.out.size) HBI.out.size) hb3.size) _)
            clear hrb hmx hb3 hck
            go_wp2
            go_ret2
            exact HF.out _ _ ⟨rfl, HBN.out⟩
          obtain ⟨rfl, hb3⟩ := hrb.yes hmx
          clear hrb hmx
          obtain ⟨o, tx, hraw⟩ : ∃ o tx, (o, tx) = rawB x := ⟨_, _, rfl⟩
          rw [← hraw]
          dsimp only
          have HRAW := Lib.hid hraw
          go_upto_region 12 with (fail)
          obtain ⟨w4, hw4, hg4, hq4, hz4, hB4⟩ := row_at wr w3 (.cells #[.int .u8 (o : Int), .string tx] 57) hb3
          rw [← hw4]
          obtain ⟨hx0, hx1, _, _⟩ := cell_two hg4
          have HB3 := Lib.hid hB4
          have HOW3 := Lib.hid (own_below HOWI.out hB4 (Nat.le_refl _))
          have HSZ3 := Lib.hid (Nat.le_trans HBI.out.size hB4.size)
          clear hraw hb3 hck hw4 hg4 hq4 hz4 hB4
          go_wp2_with (at_builtin; refine wpList_appK rfl _ _ 58 rfl W2.heap.size 57 i1 _ 2 24 Tryz.underlying58 HI1.out HY0.out HY1.out HY2.out rfl (by decide) _ _ _ rfl (HOW3.out.alloc _) ⟨w4.heap.size, 0, none⟩ 1 1 [.int .u8 (o : Int), .string tx] rfl rfl ?c1 ?c2 ?c3 ?c4 ?c5 ?_)
          case c1 => intro j u hu; exact row_cells (heap_alloc_new _ _) j u (by simpa using hu)
          case c2 => simp [Value.oneCell']
          case c3 => unfold maxLen; omega
          case c4 => omega
          case c5 => have := HSZ3.out; simp; omega
          intro v' w6 hown6 hgrow6 hmov6
          obtain ⟨A6, cap6, rfl⟩ := own_form hown6
          have hb36 : Below wr.heap.size wr (w4.alloc (.cells #[.int .u8 (o : Int), .string tx] 57)) := HB3.out.alloc HB3.out.size _
          have HR5 := Lib.hid ((below_step HBI.out hb36 HBI.out.size).grown hgrow6 (by have := HSZ3.out; simp; omega) fun g hg => (HOW3.out.lt g hg).1)
          have HR1 := Lib.hid (show w6.ownsRow W2.heap.size 57 2 (.slice A6 (m + 1) cap6) (m + 1) (rowCells ((qs.take (m + 1)).map rawB)) by
            rw [take_map_next rawB qs m x HXK.out, rowCells_snoc, ← HRAW.out, List.map_take]; exact hown6)
          clear hown6 hgrow6 hmov6 hb36
          go_wp2
          go_roundw
          case rel => exact ⟨m + 1, by omega, by go_num, HR1, HR5⟩
          case measure => simp [intOf]; omega
        · have hme : m = qs.length := by omega
          subst hme
          have hmtI : ¬ (qs.length : Int) < (qs.length : Int) := by omega
          have hrow : (qs.take qs.length).map rawB = rowB t := by rw [List.take_length, HQS.out]; rfl
          have hrl : (rowB t).length = qs.length := by rw [← hrow]; simp
          have howi := HOWI.out
          rw [hrow] at howi
          have hbo : Below wo.heap.size wo wr := HB2.out.trans (HBI.out.mono (by have := HZ2W.out; omega))
          have hown2 := own_below HOWN.out hbo (Nat.le_refl _)
          have hnew : BRow wr (newS W1.heap.size (Value.slice A1 k cap1).ownBlock) (.slice A4 qs.length cap4) (rowB t) := by
            unfold BRow
            rw [hrl]
            exact (RdS.own howi).weak fun g _ hS => ⟨by have := HB.out.size; have := HZ2W.out; omega, fun e => by have := (HOWN.out.lt g e).2; have := HZ2W.out; omega⟩
          have hit2 := ((HIT.out.keep BRow.keeps (SameS.below hbo _)).snoc hnew).keep BRow.keeps (SameS.below ((Below.refl wr.heap.size wr).alloc (Nat.le_refl _) (.cells #[.slice A4 qs.length cap4] 58)) _)
          rw [← take_map_next rowB ps k t HTK.out] at hit2
          have HIT2 := Lib.hid hit2
          have HOWN2 := Lib.hid hown2
          have hb2 := (HB.out.trans (hbo.mono HB.out.size)).alloc (Nat.le_trans HB.out.size hbo.size) (.cells #[.slice A4 qs.length cap4] 58)
          have HB22 := Lib.hid hb2
          have HZB := Lib.hid (Nat.le_trans HB.out.size hbo.size)
          clear hit2 hnew hown2 hrow hrl howi hb2 hbo
          go_wp2_with (at_builtin; refine wpList_app rfl _ _ 38 rfl W1.heap.size 58 i0 (.slice none 0 0) 24 Tryz.underlying38 HI.out HZ0.out HZ1.out HZ2.out rfl _ k vs rfl (HOWN2.out.alloc _) ⟨wr.heap.size, 0, none⟩ 1 1 [.slice A4 qs.length cap4] rfl rfl ?c1 ?c2 ?c3 ?c4 ?c5 ?_)
          case c2 => simp [Value.oneCell']
          case c3 => unfold maxLen; omega
          case c4 => omega
          case c5 => have := HZB.out; simp; omega
          intro v' w6 hown6 hgrow6 hmov6
          obtain ⟨A6, cap6, rfl⟩ := own_form hown6
          have HR1 := Lib.hid hown6
          have HR2 := Lib.hid (items_new BRow.keeps HIT2.out (SameS.grown hgrow6) hmov6)
          have HR5 := Lib.hid (HB22.out.grown hgrow6 (by have := HZB.out; simp; omega) fun g hg => (HOWN2.out.lt g hg).1)
          clear hown6 hgrow6 hmov6
          go_wp2
          go_roundw
          case rel => exact ⟨k + 1, _, by omega, by go_num, HR1, HR2, HR5⟩
          case measure => simp [intOf]; omega
    · have hke : k = ps.length := by omega
      subst hke
      have hrows : (ps.take ps.length).map rowB = rowsB s := by rw [List.take_length, HPS.out]; rfl
      have hlen : (rowsB s).length = ps.length := by rw [← hrows]; simp
      have hO : FrAt w.heap.size wr (.slice A1 ps.length cap1) (rowsB s) := ⟨vs, by rw [hlen]; exact (RdS.own HOWN.out).weak fun b _ hS => (by have := HZW.out; omega), by have := HIT.out.weak BRow.keeps (S' := fun b => w.heap.size ≤ b) (fun b _ hS => by have := HZW.out; have := hS.1; omega); rwa [hrows] at this⟩
      have hbw : Below w.heap.size w wr := HB1.out.trans (HB.out.mono (by have := HZW.out; omega))
      have HO := Lib.hid hO
      have HBW := Lib.hid hbw
      clear hrows hlen hO hbw
      have HT := Lib.hid (may_any _ _ wr (OutS.all BRow.keeps HO.out) HSH.out)
      cases hm : mayR (rowsB s)
      · rw [hm] at HT
        have HF := Lib.hid (fun e w' (h : PRNo w e w') => (show PF s w e w' by unfold PF; rw [hm, if_neg (by simp)]; exact h))
        clear hm
        go_wp2_with (go_at_call 85; refine HT.out.mono ?_; rintro e w2 ⟨rfl, hb2⟩)
        go_ret2
        exact HF.out _ _ ⟨rfl, below_step HBW.out hb2 HBW.out.size⟩
      · rw [hm] at HT
        have HF := Lib.hid (fun e w' (h : PFYes s w e w') => (show PF s w e w' by unfold PF; rw [if_pos hm]; exact h))
        clear hm
        go_wp2_with (go_at_call 85; refine HT.out.mono ?_; rintro e w2 ⟨rfl, hb2⟩)
        go_ret2
        exact HF.out _ _ ⟨_, rfl, OutS.below BRow.keeps HO.out hb2, below_step HBW.out hb2 HBW.out.size⟩
theorem brk_at (c : UInt8) : ∀ (l : BL) (j : Nat), c ∉ l.take j → l[j]? = some c → brk c l = (l.take j, l.drop (j + 1), true)
  | [], j, _, h => by simp at h
  | x :: r, 0, _, h => by
    have : x = c := by simpa using h
    subst this
    simp [brk]
  | x :: r, j + 1, hn, h => by
    simp only [List.take_succ_cons, List.mem_cons, not_or] at hn
    rw [brk_cons, if_neg (fun e => hn.1 e.symm), brk_at c r j hn.2 (by simpa using h)]
    simp
theorem brk_none (c : UInt8) : ∀ l : BL, c ∉ l → brk c l = (l, [], false)
  | [], _ => rfl
  | x :: r, h => by
    simp only [List.mem_cons, not_or] at h
    rw [brk_cons, if_neg (fun e => h.1 e.symm), brk_none c r h.2]
theorem at_yes (c : UInt8) (x : ByteArray) (j : Nat) (hj : j < x.size) (hn : c ∉ x.data.toList.take j) (hx : x[j] = c) : bF c x = true ∧ bA c x = x.extract 0 j ∧ bR c x = x.extract (j + 1) x.size := by
  have hg : x.data.toList[j]? = some c := by
    rw [List.getElem?_eq_getElem (by rw [len_data]; exact hj), ← hx]; rfl
  have h := brk_at c x.data.toList j hn hg
  refine ⟨?_, str_ext ?_, str_ext ?_⟩
  · show (brk c x.data.toList).2.2 = true
    rw [h]
  · rw [bA_list, h, ext_list]; simp
  · rw [bR_list, h, ext_list]
    show List.drop (j + 1) x.data.toList = _
    rw [List.take_of_length_le (show x.data.toList.length ≤ x.size by rw [len_data]; exact Nat.le_refl _)]
theorem at_no (c : UInt8) (x : ByteArray) (hn : c ∉ x.data.toList.take x.size) : bF c x = false ∧ bA c x = x := by
  rw [List.take_of_length_le (by rw [len_data]; exact Nat.le_refl _)] at hn
  have h := brk_none c x.data.toList hn
  refine ⟨?_, str_ext ?_⟩
  · show (brk c x.data.toList).2.2 = false
    rw [h]
  · rw [bA_list, h]
theorem take_skip (c : UInt8) (x : ByteArray) (m : Nat) (hm : m < x.size) (hn : c ∉ x.data.toList.take m) (hx : x[m] ≠ c) : c ∉ x.data.toList.take (m + 1) := by
  have hg : x.data.toList[m]? = some x[m] := by
    rw [List.getElem?_eq_getElem (by rw [len_data]; exact hm)]; rfl
  rw [take_next _ m _ hg, List.mem_append]
  rintro (h | h)
  · exact hn h
  · simp at h; exact hx h.symm
theorem star_rows : rowsB ⟨#[42]⟩ = [[(0, ⟨#[]⟩)]] := by decide +kernel
theorem parts_ne (c : UInt8) (l : BL) : parts c l ≠ [] := by
  rw [parts_brk]; split <;> simp
theorem rows_pos (s : ByteArray) : 0 < (rowsB s).length := by
  have h := pieces_data 124 s
  have h2 : (piecesB 124 s).length = (parts 124 s.data.toList).length := by rw [← h, List.length_map]
  unfold rowsB
  rw [List.length_map, h2]
  exact List.length_pos_iff.2 (parts_ne _ _)
theorem need_want (x : ByteArray) : needB (wantOf x) = wantOk x := by
  unfold needB wantOf wantOk
  rw [decide_eq_true (rows_pos _), Bool.and_true, Bool.and_comm]
theorem wantR_yes (x : ByteArray) (h : bF 64 x = true) : wantR x = bR 64 x := by unfold wantR; rw [if_pos h]
theorem wantR_no (x : ByteArray) (h : bF 64 x = false) : wantR x = ⟨#[42]⟩ := by unfold wantR; rw [if_neg (by rw [h]; decide)]
theorem wantR_le (x : ByteArray) (h : x.size ≤ 1000000) : (wantR x).size ≤ 1000000 := by
  unfold wantR
  split
  · exact Nat.le_trans (bR_le 64 x) h
  · decide
/-- A range of one bound, just made. -/
theorem one_range (w : World) (o : Nat) (t : ByteArray) : ∃ W, W = (w.alloc (.cells #[.int .u8 (o : Int), .string t] 57)).alloc (.cells #[.slice (some ⟨w.heap.size, 0, none⟩) 1 1] 58) ∧ FrAt w.heap.size W (.slice (some ⟨w.heap.size + 1, 0, none⟩) 1 1) [[(o, t)]] ∧ Below w.heap.size w W ∧ W.heap.size = w.heap.size + 2 := by
  have h1 := heap_alloc_new w (.cells #[.int .u8 (o : Int), .string t] 57)
  have h2 := heap_alloc_new (w.alloc (.cells #[.int .u8 (o : Int), .string t] 57)) (.cells #[.slice (some ⟨w.heap.size, 0, none⟩) 1 1] 58)
  have h1' := (old_block _ (.cells #[.slice (some ⟨w.heap.size, 0, none⟩) 1 1] 58) _ (block_lt h1)).trans h1
  simp only [World.size_alloc] at h2
  refine ⟨_, rfl, ⟨[.slice (some ⟨w.heap.size, 0, none⟩) 1 1], ⟨some ⟨w.heap.size + 1, 0, none⟩, 1, rfl, Nat.le_refl _, by decide, (fun e => by cases e), fun _ => ⟨_, rfl, block_lt h2, Nat.le_succ _, fun j u hu => row_cells h2 j u (by simpa using hu)⟩⟩, ?_⟩, ((Below.refl _ _).alloc (Nat.le_refl _) _).alloc (by simp) _, by simp⟩
  exact (ItemsS.nil BRow _ _).snoc (show BRow _ _ (.slice (some ⟨w.heap.size, 0, none⟩) 1 1) [(o, t)] from ⟨some ⟨w.heap.size, 0, none⟩, 1, rfl, Nat.le_refl _, by decide, (fun e => by cases e), fun _ => ⟨_, rfl, block_lt h1', Nat.le_refl _, fun j u hu => row_cells h1' j u (by simpa [rowCells, bdEnc] using hu)⟩⟩)
theorem refrparse_fryes (t : ByteArray) (w : World) (ht : t.size ≤ 1000000) (hm : mayR (rowsB t) = true) : Calls Tryz.prog 55 #[.string t] w fun e W => ∃ A c, e = .returned (.tuple #[.slice A (rowsB t).length c, .int .i64 0]) ∧ FrAt w.heap.size W (.slice A (rowsB t).length c) (rowsB t) ∧ Below w.heap.size w W :=
  (refrparse_fr t w ht).mono fun e W h => by
    unfold PF at h
    rw [if_pos hm] at h
    obtain ⟨u, he, hf, hb⟩ := h
    obtain ⟨A, c, rfl, _⟩ := OutS.form hf
    exact ⟨A, c, he, hf, hb⟩
theorem refrparse_frno (t : ByteArray) (w : World) (ht : t.size ≤ 1000000) (hm : mayR (rowsB t) = false) : Calls Tryz.prog 55 #[.string t] w fun e W => e = .returned (.tuple #[.slice none 0 0, .int .i64 140]) ∧ Below w.heap.size w W :=
  (refrparse_fr t w ht).mono fun e W h => by
    unfold PF at h
    rwa [hm, if_neg (by simp)] at h
/-- A need behind others of the row. -/
theorem need_put {wq W5 W7 w8 : World} {A : Option Addr} {c k cap : Nat} {T : TypeId} {vs : List Value} {l : List Nde} {v' u : Value} {x : Nde} (hown : wq.ownsRow c T 2 (.slice A k cap) k vs) (hit : ItemsM 2 NdC wq (newS c (Value.slice A k cap).ownBlock) vs l) (h5 : Below wq.heap.size wq W5) (hfr : FrAt wq.heap.size W5 u x.2) (h7 : Below W5.heap.size W5 W7)
    (hg : W7.grownBy w8 (Value.slice A k cap).ownBlock) (hm : Moved W7 (.slice A k cap) v') (hc : c ≤ wq.heap.size) : ItemsM 2 NdC w8 (newS c v'.ownBlock) (vs ++ [.string x.1, u]) (l ++ [x]) := by
  have h57 : Below wq.heap.size wq W7 := below_step h5 h7 h5.size
  have hit7 := hit.keep NdC.keeps (SameS.below h57 _)
  have hitn := ItemsM.new NdC.keeps hit7 (SameS.grown hg) hm
  refine hitn.snoc rfl ⟨u, rfl, ?_⟩
  have h1 : OutS BRow W5 (fun b => wq.heap.size ≤ b ∧ b < W5.heap.size) u x.2 := OutS.weak BRow.keeps hfr fun b hb hS => ⟨hS, hb⟩
  have h2 := OutS.keep BRow.keeps h1 (w' := w8) ⟨Nat.le_trans h7.size hg.size, fun b hb hS => (hg.block b (Nat.lt_of_lt_of_le hb h7.size) (fun e => by have := (hown.lt b e.symm).2; omega)).trans (h7.block b hb)⟩
  refine OutS.weak BRow.keeps h2 fun b _ hS => ⟨by omega, fun e => ?_⟩
  have hz7 := h7.size
  rcases hm with h | ⟨g, h, hg2⟩
  · rw [h] at e; have := (hown.lt b e).2; omega
  · rw [h] at e; cases e; omega
def RWantsP (s : ByteArray) (w : World) (e : Ending) (w' : World) : Prop := if wantsOk s = true then ∃ v, e = .returned (.tuple #[v, .int .i64 0]) ∧ NdsAt w' v (wantsOf s) ∧ Below w.heap.size w w' else WantsNo w e w'
theorem wants_bad (s x : ByteArray) (k : Nat) (hk : (wrdB s)[k]? = some x) (hx : wantOk x = false) : wantsOk s = false := by
  unfold wantsOk
  rw [show (wrdB s).all wantOk = false from all_bad wantOk _ _ x hk hx, Bool.and_false]
theorem RWantsP.no {s : ByteArray} {w : World} {e : Ending} {w' : World} (hf : wantsOk s = false) (h : WantsNo w e w') : RWantsP s w e w' := by
  unfold RWantsP; rw [if_neg (by rw [hf]; decide)]; exact h
set_option maxRecDepth 100000 in
set_option maxHeartbeats 4000000 in
theorem refWants_any (s : ByteArray) (w : World) (hs : s.size ≤ 1000000) : Calls Tryz.prog 26 #[.string s] w (RWantsP s w) := by
  obtain ⟨i0, hi0, hz0, hz1, hzb⟩ := info_parts infoNeed
  have HIN := Lib.hid (And.intro hi0 (And.intro hz0 (And.intro hz1 hzb)))
  have HPM := Lib.hid (wants_size s)
  obtain ⟨ps, hps⟩ : ∃ ps, ps = wrdB s := ⟨_, rfl⟩
  have HWD := Lib.hid (fun w' => refWords_any s w' hs)
  rw [← hps] at HPM HWD
  have HOKR := Lib.hid (fun e w' (hok : ps.length ≤ 64 ∧ ∀ x ∈ ps, wantOk x = true) (h : ∃ v, e = .returned (.tuple #[v, .int .i64 0]) ∧ NdsAt w' v (ps.map wantOf) ∧ Below w.heap.size w w') => (show RWantsP s w e w' by
    unfold RWantsP wantsOf
    rw [if_pos (by unfold wantsOk; rw [← hps, decide_eq_true hok.1, Bool.true_and, List.all_eq_true]; exact hok.2), ← hps]; exact h))
  have HNO := Lib.hid (fun e w' (x : ByteArray) (k : Nat) (hk : ps[k]? = some x) (hx : wantOk x = false) (h : WantsNo w e w') => (show RWantsP s w e w' from RWantsP.no (wants_bad s x k (by rw [← hps]; exact hk) hx) h))
  have HNB := Lib.hid (fun e w' (hx : 64 < ps.length) (h : WantsNo w e w') => (show RWantsP s w e w' from RWantsP.no (by unfold wantsOk; rw [← hps, decide_eq_false (by omega), Bool.false_and]) h))
  clear hi0 hz0 hz1 hzb hps
  by_cases hbig : 64 < ps.length
  · have hbI : (ps.length : Int) > 64 := by omega
    go_enter Tryz.func26, Tryz.ntmps26
    go_wp2_with (go_at_call 54; refine (HWD.out _).mono ?_; rintro e W1 ⟨v1, rfl, hrd1, hb1⟩; obtain ⟨A0, c0, rfl, hl0, hm0⟩ := hrd1.form)
    go_ret2
    exact HNB.out _ _ hbig ⟨rfl, hb1⟩
  have hbI : ¬ (ps.length : Int) > 64 := by omega
  go_enter Tryz.func26, Tryz.ntmps26
  go_wp2_with (go_at_call 54; refine (HWD.out _).mono ?_; rintro e W1 ⟨v1, rfl, hrd1, hb1⟩; obtain ⟨A0, c0, rfl, hl0, hm0⟩ := hrd1.form)
  unfold maxLen at hm0
  have HRD1 := Lib.hid hrd1
  have HB1 := Lib.hid hb1
  have HZW := Lib.hid hb1.size
  clear hrd1 hb1
  go_loopw [5, 6] (fun rv i wr => ∃ (k : Nat) (vs : List Value), k ≤ ps.length ∧ i = .int .i64 (k : Int) ∧ Hid (wr.ownsRow W1.heap.size 40 2 rv k vs) ∧ Hid (ItemsM 2 NdC wr (newS W1.heap.size rv.ownBlock) vs ((ps.take k).map wantOf)) ∧ Hid (∀ x ∈ ps.take k, wantOk x = true) ∧ Hid (Below W1.heap.size W1 wr)) (fun _ i _ => ps.length - (intOf i).toNat)
  case atStart => exact ⟨0, [], by omega, rfl, Lib.hid (World.ownsRow_nil _ _ _ _), Lib.hid (ItemsM.nil _ _), Lib.hid (by simp), Lib.hid (Below.refl _ _)⟩
  case round =>
    obtain ⟨k, vs, hk, rfl, HOWN, HIT, HOK, HB⟩ := hrel
    obtain ⟨A1, cap1, rfl⟩ := own_form HOWN.out
    by_cases hlt : k < ps.length
    · have hltI : (k : Int) < (ps.length : Int) := by omega
      have hk0 : (0 : Int) ≤ (k : Int) := by omega
      obtain ⟨_, _, e', -, -, -, hcs⟩ := HRD1.out.below HB.out
      cases e'
      obtain ⟨ad, rfl, -, -, hc⟩ := hcs (by omega)
      obtain ⟨x, hxx⟩ : ∃ x, x = ps.getD k ⟨#[]⟩ := ⟨_, rfl⟩
      have HTK := Lib.hid (show ps[k]? = some x by rw [hxx]; exact getD_get ps k _ hlt)
      have hck := hc k (.string x) (by unfold strs; rw [List.getElem?_map, HTK.out]; rfl)
      have hxz : x.size ≤ 1000000 := by have := HPM.out x (List.mem_of_getElem? HTK.out); omega
      clear hc hcs hxx
      obtain ⟨wo, hwo⟩ : ∃ wo : World, wo = wr := ⟨_, rfl⟩
      rw [← hwo] at HOWN HIT HB hck ⊢
      clear hwo wr
      have HCK := Lib.hid hck
      clear hck
      go_wp2
      go_loopw [7] (fun j wq => ∃ (m : Nat), m ≤ x.size ∧ j = .int .i64 (m : Int) ∧ Hid ((64 : UInt8) ∉ x.data.toList.take m) ∧ Hid (wq = wo)) (fun j _ => x.size - (intOf j).toNat)
      case atStart => exact ⟨0, by omega, rfl, Lib.hid (by simp), Lib.hid (by first | rfl | trivial)⟩
      case round =>
        obtain ⟨m, hm, rfl, HN, HW⟩ := hrel
        have hwq := HW.out
        subst hwq
        clear HW
        have hck := HCK.out
        have hm0 : (0 : Int) ≤ (m : Int) := by omega
        have hw1 : IntKind.i64.wrap ((m : Int) + 1) = (m : Int) + 1 := IntWalk.i64_in _ (by omega)
        by_cases hmt : m < x.size
        · have hmtI : (m : Int) < (x.size : Int) := by omega
          by_cases hc : (x[m].toNat : Int) = 64
          · have hcb : ((x[m].toNat : Int) != 64) = false := by rw [hc]; rfl
            have hce : x[m] = 64 := UInt8.toNat_inj.1 (by have h64 : (64 : UInt8).toNat = 64 := rfl; omega)
            obtain ⟨hf, ha, hr⟩ := at_yes 64 x m hmt HN.out hce
            have hwr := wantR_yes x hf
            rw [hr] at hwr
            have HA := Lib.hid ha
            have HWR := Lib.hid hwr
            have hsz : (x.extract (m + 1) x.size).size ≤ 1000000 := by rw [← hr]; exact Nat.le_trans (bR_le 64 x) hxz
            have hm1 : (0 : Int) ≤ (m : Int) + 1 := by omega
            have hm2 : (m : Int) + 1 ≤ (x.size : Int) := by omega
            have hWO : wantOk x = (mayR (rowsB (x.extract (m + 1) x.size)) && rightB (x.extract 0 m)) := by unfold wantOk; rw [hwr, ha]
            obtain ⟨W2, hW2, _, hb2, hz2⟩ := one_range wr 0 ⟨#[]⟩
            rw [show ((0 : Nat) : Int) = 0 from rfl] at hW2
            have HB2 := Lib.hid hb2
            have HZ2 := Lib.hid hz2
            clear hce hf ha hr hwr hz2
            go_upto_region 12 with (fail)
            rw [← hW2]
            have hck2 := (hb2.cell (block_lt_of_cell (show wr.cell? ⟨(ad.add k).block, (ad.add k).off, (ad.add k).3⟩ = _ from hck))).trans hck
            clear hW2 hb2 hck
            cases hmy : mayR (rowsB (x.extract (m + 1) x.size)) with
            | false =>
              have HP := Lib.hid (fun w' => refrparse_frno (x.extract (m + 1) x.size) w' hsz hmy)
              have HF := Lib.hid (show wantOk x = false by rw [hWO, hmy]; rfl)
              clear hWO hmy
              go_wp2_with (go_at_call 55; refine (HP.out _).mono ?_; rintro e W3 ⟨rfl, hb3⟩)
              go_ret2
              exact HNO.out _ _ x k HTK.out HF.out ⟨rfl, HB1.out.trans ((HB.out.trans ((below_step HB2.out hb3 HB2.out.size).mono HB.out.size)).mono (by have := HZW.out; omega))⟩
            | true =>
              have HP := Lib.hid (fun w' => refrparse_fryes (x.extract (m + 1) x.size) w' hsz hmy)
              rw [← HWR.out] at HP
              clear hWO hmy
              go_wp2_with (go_at_call 55; rw [← HWR.out]; refine (HP.out _).mono ?_; rintro e W5 ⟨A9, c9, rfl, hfr5, hb35⟩; have hb5 : Below wr.heap.size wr W5 := below_step HB2.out hb35 HB2.out.size; have hck5 := (hb5.cell (block_lt_of_cell (show wr.cell? ⟨(ad.add k).block, (ad.add k).off, (ad.add k).3⟩ = _ from HCK.out))).trans HCK.out)
              have hfr : FrAt wr.heap.size W5 (.slice A9 (rowsB (wantR x)).length c9) (rowsB (wantR x)) := OutS.weak BRow.keeps hfr5 fun b _ hS => by have := HB2.out.size; omega
              clear hfr5 hb35
              have HSH := Lib.hid (show Short (rowsB (wantR x)) from rows_short _ (wantR_le x hxz))
              have HFR := Lib.hid hfr
              have HB5 := Lib.hid hb5
              have HNZ := Lib.hid (show (x.extract 0 m).size ≤ maxLen by rw [← HA.out]; have := bA_le 64 x; unfold maxLen; omega)
              clear hfr hb5
              go_upto_region 18 with (fail)
              obtain ⟨W6, hW6, hg6, hq6, hz6, hB6⟩ := row_at wr W5 (.cells #[.string (x.extract 0 m), .slice A9 (rowsB (wantR x)).length c9] 40) HB5.out
              rw [← hW6]
              obtain ⟨hx0, hx1, _, _⟩ := cell_two hg6
              have HG6 := Lib.hid hg6
              have HQ6 := Lib.hid hq6
              have HB6 := Lib.hid hB6
              have HMN := Lib.hid (mayNeed_any (x.extract 0 m, rowsB (wantR x)) (.slice A9 (rowsB (wantR x)).length c9) W6 (OutS.below BRow.keeps (OutS.all BRow.keeps HFR.out) hq6) HSH.out HNZ.out)
              have HWF := Lib.hid (show wantOf x = (x.extract 0 m, rowsB (wantR x)) by unfold wantOf; rw [HA.out])
              have HNW := Lib.hid (show needB (x.extract 0 m, rowsB (wantR x)) = wantOk x by rw [← need_want, HWF.out])
              clear hW6 hg6 hq6 hz6 hB6
              cases hwk : wantOk x with
              | false =>
                rw [HNW.out, hwk] at HMN
                have HWK := Lib.hid hwk
                clear hwk
                go_wp2_with (go_at_call 50; refine HMN.out.mono ?_; rintro e W7 ⟨rfl, hb7⟩)
                go_ret2
                exact HNO.out _ _ x k HTK.out HWK.out ⟨rfl, HB1.out.trans ((HB.out.trans ((below_step HB6.out hb7 HB6.out.size).mono HB.out.size)).mono (by have := HZW.out; omega))⟩
              | true =>
                rw [HNW.out, hwk] at HMN
                have HWK := Lib.hid hwk
                clear hwk
                go_wp2_with (first
                  | (go_at_call 50; refine HMN.out.mono ?_; rintro e W7 ⟨rfl, hb7⟩; obtain ⟨y0, y1, _, _⟩ := cell_two ((hb7.block _ (block_lt HG6.out)).trans HG6.out); have how7 := own_below HOWN.out (below_step HB6.out hb7 HB6.out.size) (Nat.le_refl _))
                  | (at_builtin; refine wpList_appK rfl _ _ 42 rfl W1.heap.size 40 i0 _ 2 40 Tryz.underlying42 HIN.out.1 HIN.out.2.1 HIN.out.2.2.1 HIN.out.2.2.2 rfl (by decide) _ _ _ rfl (how7.alloc _) ⟨W7.heap.size, 0, none⟩ 1 1 [.string (x.extract 0 m), .slice A9 (rowsB (wantR x)).length c9] rfl rfl ?c1 ?c2 ?c3 ?c4 ?c5 ?_))
                case c1 => intro j u hu; exact row_cells (heap_alloc_new _ _) j u (by simpa using hu)
                case c2 => simp [Value.oneCell']
                case c3 => unfold maxLen; omega
                case c4 => omega
                case c5 => have := HB6.out.size; have := hb7.size; have := HB.out.size; simp; omega
                intro v' w8 hown8 hgrow8 hmov8
                obtain ⟨A8, cap8, rfl⟩ := own_form hown8
                have h57 : Below W5.heap.size W5 (W7.alloc (.cells #[.string (x.extract 0 m), .slice A9 (rowsB (wantR x)).length c9] 40)) := below_step (below_step HQ6.out hb7 HQ6.out.size) ((Below.refl _ _).alloc (Nat.le_refl _) _) (Nat.le_trans HQ6.out.size hb7.size)
                have hitn := need_put (x := (x.extract 0 m, rowsB (wantR x))) HOWN.out HIT.out HB5.out HFR.out h57 hgrow8 hmov8 (by have := HB.out.size; omega)
                have HR2 := Lib.hid (show ItemsM 2 NdC w8 (newS W1.heap.size (Value.slice A8 (k + 1) cap8).ownBlock) (vs ++ [.string (x.extract 0 m), .slice A9 (rowsB (wantR x)).length c9]) ((ps.take (k + 1)).map wantOf) by
                  rw [take_map_next wantOf ps k x HTK.out, HWF.out]
                  exact hitn)
                have HR1 := Lib.hid hown8
                have HR3 := Lib.hid (all_take (fun y => wantOk y = true) ps k x HTK.out HOK.out HWK.out)
                have HR5 := Lib.hid ((HB.out.trans ((below_step HB5.out h57 HB5.out.size).mono HB.out.size)).grown hgrow8 (by have := HB.out.size; have := HB5.out.size; have := h57.size; omega) fun g hg => (HOWN.out.lt g hg).1)
                clear hown8 hgrow8 hmov8 hitn h57
                go_wp2
                go_roundw
                case rel => exact ⟨k + 1, _, by omega, by go_num, HR1, HR2, HR3, HR5⟩
                case measure => simp [intOf]; omega
          · have hcb : ((x[m].toNat : Int) != 64) = true := by rw [bne_iff_ne]; exact hc
            have hce : x[m] ≠ 64 := fun e => hc (by rw [e]; rfl)
            have HNN := Lib.hid (take_skip 64 x m hmt HN.out hce)
            clear hce
            go_wp2
            go_roundw
            case rel => exact ⟨m + 1, by omega, by go_num, HNN, Lib.hid (by first | rfl | trivial)⟩
            case measure => simp [intOf]; omega
        · have hme : m = x.size := by omega
          subst hme
          have hmtI : ¬ (x.size : Int) < (x.size : Int) := by omega
          obtain ⟨hf, ha⟩ := at_no 64 x HN.out
          have hwr := wantR_no x hf
          have HA := Lib.hid ha
          have hrw : rowsB (wantR x) = [[(0, ⟨#[]⟩)]] := by rw [hwr]; exact star_rows
          obtain ⟨W5, hW5, hfr5, hb5, hz5⟩ := one_range wr 0 ⟨#[]⟩
          rw [show ((0 : Nat) : Int) = 0 from rfl] at hW5
          have hfr : FrAt wr.heap.size W5 (.slice (some ⟨wr.heap.size + 1, 0, none⟩) 1 1) (rowsB (wantR x)) := by rw [hrw]; exact hfr5
          clear hf ha hwr hrw hfr5 hz5
          go_upto_region 12 with (fail)
          rw [← hW5]
          have hck2 := (hb5.cell (block_lt_of_cell (show wr.cell? ⟨(ad.add k).block, (ad.add k).off, (ad.add k).3⟩ = _ from hck))).trans hck
          clear hW5 hck
          have HSH := Lib.hid (show Short (rowsB (wantR x)) from rows_short _ (wantR_le x hxz))
          have HFR := Lib.hid hfr
          have HB5 := Lib.hid hb5
          have HNZ := Lib.hid (show (x).size ≤ maxLen by rw [← HA.out]; have := bA_le 64 x; unfold maxLen; omega)
          clear hfr hb5
          go_upto_region 18 with (fail)
          obtain ⟨W6, hW6, hg6, hq6, hz6, hB6⟩ := row_at wr W5 (.cells #[.string (x), .slice (some ⟨wr.heap.size + 1, 0, none⟩) 1 1] 40) HB5.out
          rw [← hW6]
          obtain ⟨hx0, hx1, _, _⟩ := cell_two hg6
          have HG6 := Lib.hid hg6
          have HQ6 := Lib.hid hq6
          have HB6 := Lib.hid hB6
          have HMN := Lib.hid (mayNeed_any (x, rowsB (wantR x)) (.slice (some ⟨wr.heap.size + 1, 0, none⟩) 1 1) W6 (OutS.below BRow.keeps (OutS.all BRow.keeps HFR.out) hq6) HSH.out HNZ.out)
          have HWF := Lib.hid (show wantOf x = (x, rowsB (wantR x)) by unfold wantOf; rw [HA.out])
          have HNW := Lib.hid (show needB (x, rowsB (wantR x)) = wantOk x by rw [← need_want, HWF.out])
          clear hW6 hg6 hq6 hz6 hB6
          cases hwk : wantOk x with
          | false =>
            rw [HNW.out, hwk] at HMN
            have HWK := Lib.hid hwk
            clear hwk
            go_wp2_with (go_at_call 50; refine HMN.out.mono ?_; rintro e W7 ⟨rfl, hb7⟩)
            go_ret2
            exact HNO.out _ _ x k HTK.out HWK.out ⟨rfl, HB1.out.trans ((HB.out.trans ((below_step HB6.out hb7 HB6.out.size).mono HB.out.size)).mono (by have := HZW.out; omega))⟩
          | true =>
            rw [HNW.out, hwk] at HMN
            have HWK := Lib.hid hwk
            clear hwk
            go_wp2_with (first
              | (go_at_call 50; refine HMN.out.mono ?_; rintro e W7 ⟨rfl, hb7⟩; obtain ⟨y0, y1, _, _⟩ := cell_two ((hb7.block _ (block_lt HG6.out)).trans HG6.out); have how7 := own_below HOWN.out (below_step HB6.out hb7 HB6.out.size) (Nat.le_refl _))
              | (at_builtin; refine wpList_appK rfl _ _ 42 rfl W1.heap.size 40 i0 _ 2 40 Tryz.underlying42 HIN.out.1 HIN.out.2.1 HIN.out.2.2.1 HIN.out.2.2.2 rfl (by decide) _ _ _ rfl (how7.alloc _) ⟨W7.heap.size, 0, none⟩ 1 1 [.string (x), .slice (some ⟨wr.heap.size + 1, 0, none⟩) 1 1] rfl rfl ?c1 ?c2 ?c3 ?c4 ?c5 ?_))
            case c1 => intro j u hu; exact row_cells (heap_alloc_new _ _) j u (by simpa using hu)
            case c2 => simp [Value.oneCell']
            case c3 => unfold maxLen; omega
            case c4 => omega
            case c5 => have := HB6.out.size; have := hb7.size; have := HB.out.size; simp; omega
            intro v' w8 hown8 hgrow8 hmov8
            obtain ⟨A8, cap8, rfl⟩ := own_form hown8
            have h57 : Below W5.heap.size W5 (W7.alloc (.cells #[.string (x), .slice (some ⟨wr.heap.size + 1, 0, none⟩) 1 1] 40)) := below_step (below_step HQ6.out hb7 HQ6.out.size) ((Below.refl _ _).alloc (Nat.le_refl _) _) (Nat.le_trans HQ6.out.size hb7.size)
            have hitn := need_put (x := (x, rowsB (wantR x))) HOWN.out HIT.out HB5.out HFR.out h57 hgrow8 hmov8 (by have := HB.out.size; omega)
            have HR2 := Lib.hid (show ItemsM 2 NdC w8 (newS W1.heap.size (Value.slice A8 (k + 1) cap8).ownBlock) (vs ++ [.string (x), .slice (some ⟨wr.heap.size + 1, 0, none⟩) 1 1]) ((ps.take (k + 1)).map wantOf) by
              rw [take_map_next wantOf ps k x HTK.out, HWF.out]
              exact hitn)
            have HR1 := Lib.hid hown8
            have HR3 := Lib.hid (all_take (fun y => wantOk y = true) ps k x HTK.out HOK.out HWK.out)
            have HR5 := Lib.hid ((HB.out.trans ((below_step HB5.out h57 HB5.out.size).mono HB.out.size)).grown hgrow8 (by have := HB.out.size; have := HB5.out.size; have := h57.size; omega) fun g hg => (HOWN.out.lt g hg).1)
            clear hown8 hgrow8 hmov8 hitn h57
            go_wp2
            go_roundw
            case rel => exact ⟨k + 1, _, by omega, by go_num, HR1, HR2, HR3, HR5⟩
            case measure => simp [intOf]; omega
    · have hke : k = ps.length := by omega
      subst hke
      have hltI : ¬ (ps.length : Int) < (ps.length : Int) := by omega
      have hO : NdsAt wr (.slice A1 ps.length cap1) (ps.map wantOf) := ⟨vs, by rw [List.length_map]; exact (RdS.own HOWN.out).all, by have := HIT.out.weak NdC.keeps (S' := AllB) (fun _ _ _ => trivial); rwa [List.take_length] at this⟩
      have HO := Lib.hid hO
      have HOK2 := Lib.hid (show ps.length ≤ 64 ∧ ∀ x ∈ ps, wantOk x = true from ⟨by omega, by have := HOK.out; rwa [List.take_length] at this⟩)
      have HBW := Lib.hid (HB1.out.trans (HB.out.mono (by have := HZW.out; omega)))
      clear hO
      go_wp2
      go_ret2
      exact HOKR.out _ _ HOK2.out ⟨_, rfl, HO.out, HBW.out⟩
end Go.Proofs.YtcnedecmmplmoaaGreatDoor
