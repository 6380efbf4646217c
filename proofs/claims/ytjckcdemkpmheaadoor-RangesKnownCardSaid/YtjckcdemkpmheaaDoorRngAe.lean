/- The walk of the law RangesPrint. -/
import Derived.Test.YtjckcdemkpmheaaDoorRngAd
namespace Go.Proofs.YtjckcdemkpmheaaDoor
open Go.RowKit Go.BigFrame

theorem own_empty (w : World) (base : Nat) (T : TypeId) (sz : Nat) (h : base ≤ w.heap.size) : (w.alloc (.cells #[] T)).ownsRow base T sz (.slice (some ⟨w.heap.size, 0, none⟩) 0 0) 0 [] :=
  ⟨by simp, .inr ⟨w.heap.size, 0, #[], rfl, h, heap_alloc_new w _, Nat.le_refl _, Nat.zero_le _, by simp, by simp⟩⟩
set_option maxRecDepth 100000 in
set_option maxHeartbeats 4000000 in
theorem rangesPrint_walk (a : Value) (r : List (List Bd)) (w : World) (_ : True) (ha : RngAt w a r) : Calls Tryd.prog 4 #[a] w fun e w' => e = .returned (.bool true) ∧ Below w.heap.size w w' := by
  have HSM := Lib.hid (smallR_any a r w ha)
  obtain ⟨i0, hi, hz0, hz1, hz2⟩ := info_parts infoBRow
  obtain ⟨i1, hi1, hy0, hy1, hy2⟩ := info_parts infoBound
  have HI := Lib.hid hi
  have HZ0 := Lib.hid hz0
  have HZ1 := Lib.hid hz1
  have HZ2 := Lib.hid hz2
  have HI1 := Lib.hid hi1
  have HY0 := Lib.hid hy0
  have HY1 := Lib.hid hy1
  have HY2 := Lib.hid hy2
  clear hi hz0 hz1 hz2 hi1 hy0 hy1 hy2
  go_enter Tryd.func4, Tryd.ntmps4
  go_wp2_with fail
  refine HSM.out.mono ?_
  rintro e w0 ⟨b, rfl, hsm, rfl⟩
  cases b
  · clear hsm
    go_wp2_with fail
    refine (works_any _).mono ?_
    rintro e w4 ⟨rfl, hb4⟩
    go_wp2
    go_ret
    exact ⟨rfl, hb4⟩
  · have HS := Lib.hid (hsm rfl)
    have hsl := (hsm rfl).1
    clear hsm
    obtain ⟨A, ca, rfl, hla, hma⟩ := ha.form
    unfold maxLen at hma
    have HA := Lib.hid ha
    clear ha HSM
    go_wp2_with fail
    go_loopw [3, 4] (fun rv i wr => ∃ (k : Nat) (vs : List Value), k ≤ r.length ∧ i = .int .i64 (k : Int) ∧ Hid (wr.ownsRow w0.heap.size 31 1 rv k vs) ∧ Hid (ItemsS BRow wr (ownS rv.ownBlock) vs (r.take k)) ∧ Hid (Below w0.heap.size w0 wr)) (fun _ i _ => r.length - (intOf i).toNat)
    case atStart => exact ⟨0, [], by omega, rfl, Lib.hid (World.ownsRow_nil _ _ _ _), Lib.hid (ItemsS.nil _ _ _), Lib.hid (Below.refl _ _)⟩
    case round =>
      obtain ⟨k, vs, hk, rfl, HOWN, HIT, HB⟩ := hrel
      obtain ⟨A1, cap1, rfl⟩ := own_form HOWN.out
      by_cases hlt : k < r.length
      · have hltI : (k : Int) < (r.length : Int) := by omega
        have hk0 : (0 : Int) ≤ (k : Int) := by omega
        obtain ⟨ad, u, rfl, hc, hrow⟩ := (HA.out.below HB.out).get k hlt
        obtain ⟨row, hrw⟩ : ∃ row, row = r.getD k default := ⟨_, rfl⟩
        rw [← hrw] at hrow
        have HRK := Lib.hid (show r[k]? = some row by rw [hrw]; exact getD_get r k _ hlt)
        have hrl : row.length ≤ 1000 := (HS.out.2 row (List.mem_of_getElem? HRK.out)).1
        obtain ⟨A2, cap2, rfl, hcl2, hcm2⟩ := RdS.form hrow
        have HROW := Lib.hid hrow
        clear hrow hrw
        unfold maxLen at hcm2
        have hblk := block_lt_of_cell (show wr.cell? ⟨(ad.add k).block, (ad.add k).off, (ad.add k).3⟩ = _ from hc)
        have hb1 := (Below.refl wr.heap.size wr).alloc (Nat.le_refl _) (.cells #[] 45)
        have hc1 := (hb1.cell hblk).trans hc
        have hown1 := own_empty wr wr.heap.size 45 2 (Nat.le_refl _)
        have HOWN1 := Lib.hid hown1
        have hit1 := HIT.out
        have HB1 := Lib.hid hb1
        clear hown1 hc
        have key : ∀ (v1 : Value) (w1 : World), w1.ownsRow wr.heap.size 45 2 v1 row.length (rowCells row) → Below wr.heap.size wr w1 →
            BRow w1 (ownS (Value.slice A1 k cap1).ownBlock) v1 row ∧ w1.ownsRow w0.heap.size 31 1 (.slice A1 k cap1) k vs ∧ ItemsS BRow w1 (ownS (Value.slice A1 k cap1).ownBlock) (vs ++ [v1]) (r.take (k + 1)) ∧ Below w0.heap.size w0 w1 := fun v1 w1 ho hb => by
          have hnew : BRow w1 (ownS (Value.slice A1 k cap1).ownBlock) v1 row := (RdS.own ho).weak fun g _ hS e => by have := (HOWN.out.lt g e).2; omega
          refine ⟨hnew, own_below HOWN.out hb (Nat.le_refl _), ?_, below_step HB.out hb HB.out.size⟩
          rw [take_next r k row HRK.out]
          exact (HIT.out.keep BRow.keeps (SameS.below hb _)).snoc hnew
        have HKEY := Lib.hid key
        clear key hit1
        rcases A2 with _ | ad2
        · have hl0 : row.length = 0 ∧ cap2 = 0 := by
            obtain ⟨_, _, e, _, _, h0, h1⟩ := HROW.out
            cases e
            have := h0 rfl
            exact ⟨by omega, this⟩
          obtain ⟨hl0, rfl⟩ := hl0
          obtain rfl : row = [] := List.eq_nil_of_length_eq_zero hl0
          have hc2 : (wr.alloc (.cells #[] 45)).cell? (ad.add k) = some (.slice none 0 0) := hc1
          clear hc1
          obtain ⟨h1, h2, h3, h4⟩ := HKEY.out _ _ HOWN1.out HB1.out
          have H1 := Lib.hid h1
          have H2 := Lib.hid h2
          have H3 := Lib.hid h3
          have H4 := Lib.hid h4
          clear h1 h2 h3 h4
          go_wp2_with (at_builtin; first | (refine wpList_append_own_none rfl _ _ 31 rfl wr.heap.size 45 i1 2 Tryd.underlying31 HI1.out (.slice (some ⟨wr.heap.size, 0, none⟩) 0 0) 0 [] rfl HOWN1.out rfl ?_) | (refine wpList_app rfl _ _ 24 rfl w0.heap.size 31 i0 (.slice none 0 0) 24 Tryd.underlying24 HI.out HZ0.out HZ1.out HZ2.out rfl _ k vs rfl (H2.out.alloc _) ⟨wr.heap.size + 1, 0, none⟩ 1 1 [.slice (some ⟨wr.heap.size, 0, none⟩) 0 0] rfl rfl ?c1 ?c2 ?c3 ?c4 ?c5 ?_))
          case c2 => simp [Value.oneCell']
          case c3 => unfold maxLen; omega
          case c4 => omega
          case c5 => have := H4.out.size; simp at this ⊢; omega
          intro v' w6 hown6 hgrow6 hmov6
          obtain ⟨A6, cap6, rfl⟩ := own_form hown6
          have HR1 := Lib.hid hown6
          have HR2 := Lib.hid (items_moved BRow.keeps (H3.out.keep BRow.keeps (SameS.below ((Below.refl _ _).alloc (Nat.le_refl _) (.cells #[.slice (some ⟨wr.heap.size, 0, none⟩) 0 0] 31)) _)) (SameS.grown hgrow6) hmov6)
          have HR5 := Lib.hid ((H4.out.alloc H4.out.size (.cells #[.slice (some ⟨wr.heap.size, 0, none⟩) 0 0] 31)).grown hgrow6 (by have := H4.out.size; simp at this ⊢; omega) fun g hg => (H2.out.lt g hg).1)
          clear hown6 hgrow6 hmov6
          go_wp2
          go_roundw
          case rel => exact ⟨k + 1, _, by omega, by go_num, HR1, HR2, HR5⟩
          case measure => simp [intOf]; omega
        · have hc2 : (wr.alloc (.cells #[] 45)).cell? (ad.add k) = some (.slice (some ad2) row.length cap2) := hc1
          clear hc1
          have hcr := (RdS.below HROW.out HB1.out)
          go_wp2_with (at_builtin; refine wpList_appK rfl _ _ 31 rfl wr.heap.size 45 i1 _ 2 24 Tryd.underlying31 HI1.out HY0.out HY1.out HY2.out rfl (by decide) _ _ _ rfl HOWN1.out ad2 row.length cap2 (rowCells row) rfl (rowCells_len row) ?d1 ?d2 ?d3 ?d4 ?d5 ?_)
          case d1 =>
            intro j u hu
            obtain ⟨_, _, e, _, _, _, hcs⟩ := hcr
            cases e
            have hj := (List.getElem?_eq_some_iff.1 hu).1
            rw [rowCells_len] at hj
            obtain ⟨_, e2, _, _, hcc⟩ := hcs (by omega)
            cases e2
            exact hcc j u hu
          case d2 =>
            intro u hu
            obtain ⟨b, _, hb⟩ := List.mem_flatMap.1 hu
            simp [bdEnc] at hb
            rcases hb with rfl | rfl <;> rfl
          case d3 => unfold maxLen; omega
          case d4 => omega
          intro v1 w1 hown1 hgrow1 hmov1
          have hbw1 : Below wr.heap.size wr w1 := HB1.out.grown hgrow1 (by simp) fun g hg => (HOWN1.out.lt g hg).1
          obtain ⟨A5, cap5, rfl⟩ := own_form hown1
          obtain ⟨h1, h2, h3, h4⟩ := HKEY.out _ _ (by simpa using hown1) hbw1
          have H1 := Lib.hid h1
          have H2 := Lib.hid h2
          have H3 := Lib.hid h3
          have H4 := Lib.hid h4
          clear h1 h2 h3 h4 hown1 hgrow1 hmov1 hbw1 hc2 hcr
          go_wp2_with (at_builtin; (refine wpList_app rfl _ _ 24 rfl w0.heap.size 31 i0 (.slice none 0 0) 24 Tryd.underlying24 HI.out HZ0.out HZ1.out HZ2.out rfl _ k vs rfl (H2.out.alloc _) ⟨w1.heap.size, 0, none⟩ 1 1 [.slice A5 row.length cap5] rfl rfl ?q1 ?q2 ?q3 ?q4 ?q5 ?_))
          case q1 => intro j u hu; exact row_cells (heap_alloc_new _ _) j u (by simpa using hu)
          case q2 => simp [Value.oneCell']
          case q3 => unfold maxLen; omega
          case q4 => omega
          case q5 => have := H4.out.size; simp at this ⊢; omega
          intro v' w6 hown6 hgrow6 hmov6
          obtain ⟨A6, cap6, rfl⟩ := own_form hown6
          have HR1 := Lib.hid hown6
          have HR2 := Lib.hid (items_moved BRow.keeps (H3.out.keep BRow.keeps (SameS.below ((Below.refl _ _).alloc (Nat.le_refl _) (.cells #[.slice A5 row.length cap5] 31)) _)) (SameS.grown hgrow6) hmov6)
          have HR5 := Lib.hid ((H4.out.alloc H4.out.size (.cells #[.slice A5 row.length cap5] 31)).grown hgrow6 (by have := H4.out.size; simp at this ⊢; omega) fun g hg => (H2.out.lt g hg).1)
          clear hown6 hgrow6 hmov6
          go_wp2
          go_roundw
          case rel => exact ⟨k + 1, _, by omega, by go_num, HR1, HR2, HR5⟩
          case measure => simp [intOf]; omega
      · have hltI : ¬ (k : Int) < (r.length : Int) := by omega
        have hke : k = r.length := by omega
        subst hke
        have hO : RngAt wr (.slice A1 r.length cap1) r := ⟨vs, (RdS.own HOWN.out).all, by have := HIT.out.weak BRow.keeps (S' := AllB) (fun _ _ _ => trivial); rwa [List.take_length] at this⟩
        have HO := Lib.hid hO
        have HR := Lib.hid (HA.out.below HB.out)
        have HBW := Lib.hid HB.out
        have HSH := Lib.hid HS.out.short
        clear hO
        obtain ⟨ps, hps⟩ : ∃ ps, ps = prS r := ⟨_, rfl⟩
        obtain ⟨pe, hpe⟩ : ∃ pe, pe = prE r := ⟨_, rfl⟩
        have HP := Lib.hid (fun w h => print_any r (.slice A r.length ca) w h HSH.out)
        have HQ := Lib.hid (fun w h => refprint_any r (.slice A r.length ca) w h HSH.out)
        rw [← hps, ← hpe] at HP HQ
        have e1 : (ps.toList == ps.toList) = true := by simp
        have e2 : (pe == pe) = true := by simp
        clear hps hpe
        go_wp2_with fail
        refine (HP.out _ HR.out).mono ?_
        rintro e w1 ⟨rfl, hb1⟩
        have HR1 := Lib.hid (HR.out.below hb1)
        have HO1 := Lib.hid (HO.out.below hb1)
        have HB1 := Lib.hid (below_step HBW.out hb1 HBW.out.size)
        clear hb1
        go_wp2_with fail
        refine (HQ.out _ HR1.out).mono ?_
        rintro e w2 ⟨rfl, hb2⟩
        have HR2 := Lib.hid (HR1.out.below hb2)
        have HO2 := Lib.hid (HO1.out.below hb2)
        have HB2 := Lib.hid (below_step HB1.out hb2 HB1.out.size)
        clear hb2
        go_wp2_with fail
        refine (same_is _ _ _ _ _ HO2.out HR2.out rfl).mono ?_
        rintro e w3 ⟨rfl, hb3⟩
        have HB3 := Lib.hid (below_step HB2.out hb3 HB2.out.size)
        clear hb3
        go_wp2_with fail
        refine (works_any _).mono ?_
        rintro e w4 ⟨rfl, hb4⟩
        go_wp2
        go_ret
        exact ⟨rfl, below_step HB3.out hb4 HB3.out.size⟩
end Go.Proofs.YtjckcdemkpmheaaDoor
