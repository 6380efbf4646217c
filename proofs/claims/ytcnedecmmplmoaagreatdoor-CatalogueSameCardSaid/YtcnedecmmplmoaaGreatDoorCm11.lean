/- Contract of ranges.tests. -/
import Derived.Test.YtcnedecmmplmoaaGreatDoorCm10
import Derived.Deep.RegionLaw
set_option linter.unusedVariables false
set_option linter.unusedSimpArgs false
namespace Go.Proofs.YtcnedecmmplmoaaGreatDoor
open Go.RowKit Go.BigFrame
open Ver (cmpV BL)

def TestsYes (r : List (List Bd)) (w : World) (e : Ending) (w' : World) : Prop := ∃ u, e = .returned (.tuple #[u, .bool true]) ∧ OutS TRow w' AllB u r ∧ Below w.heap.size w w'
def TestsNo (w : World) (e : Ending) (w' : World) : Prop := e = .returned (.tuple #[.slice none 0 0, .bool false]) ∧ Below w.heap.size w w'
def Tests (r : List (List Bd)) (w : World) (e : Ending) (w' : World) : Prop := if mayR r = true then TestsYes r w e w' else TestsNo w e w'
theorem tests_no_mk {r : List (List Bd)} {w : World} {e : Ending} {w' : World} (h : mayR r = false) (hp : TestsNo w e w') : Tests r w e w' := by
  unfold Tests; rw [h, if_neg (by simp)]; exact hp
theorem tests_yes_mk {r : List (List Bd)} {w : World} {e : Ending} {w' : World} (h : mayR r = true) (hp : TestsYes r w e w') : Tests r w e w' := by
  unfold Tests; rw [if_pos h]; exact hp
def ownS (p : Option Nat) : Nat → Prop := fun b => p ≠ some b
def newS (c : Nat) (p : Option Nat) : Nat → Prop := fun b => c ≤ b ∧ p ≠ some b
set_option maxRecDepth 100000 in
set_option maxHeartbeats 4000000 in
theorem tests_any (r : List (List Bd)) (v : Value) (w : World) (h : RngAt w v r) (hsz : Short r) : Calls Tryz.prog 83 #[v] w (Tests r w) := by
  obtain ⟨A, cap, rfl, hcl, hcm⟩ := h.form
  have HR := Lib.hid h
  have HSZ := Lib.hid hsz
  clear h hsz
  unfold maxLen at hcm
  by_cases hlong : r.length ≤ 16
  · have hl1 : ¬ (r.length : Int) > 16 := by omega
    obtain ⟨i0, hi, hz0, hz1, hz2⟩ := info_parts infoTRow
    obtain ⟨i1, hi1, hy0, hy1, hy2⟩ := info_parts infoTest
    have HI := Lib.hid hi
    have HZ0 := Lib.hid hz0
    have HZ1 := Lib.hid hz1
    have HZ2 := Lib.hid hz2
    have HI1 := Lib.hid hi1
    have HY0 := Lib.hid hy0
    have HY1 := Lib.hid hy1
    have HY2 := Lib.hid hy2
    clear hi hz0 hz1 hz2 hi1 hy0 hy1 hy2
    go_enter Tryz.func83, Tryz.ntmps83
    go_wp2
    go_loopw [4, 17] (fun rv i wr => ∃ (k : Nat) (vs : List Value), k ≤ r.length ∧ i = .int .i64 (k : Int) ∧ Hid (wr.ownsRow w.heap.size 147 1 rv k vs) ∧ Hid (ItemsS TRow wr (ownS rv.ownBlock) vs (r.take k)) ∧ Hid ((r.take k).all mayRow = true) ∧ Hid (Below w.heap.size w wr)) (fun _ i _ => r.length - (intOf i).toNat)
    case atStart => exact ⟨0, [], by omega, rfl, Lib.hid (World.ownsRow_nil _ _ _ _), Lib.hid (ItemsS.nil _ _ _), Lib.hid rfl, Lib.hid (Below.refl _ _)⟩
    case round =>
      obtain ⟨k, vs, hk, rfl, HOWN, HIT, HALL, HB⟩ := hrel
      by_cases hlt : k < r.length
      · have hltI : (k : Int) < (r.length : Int) := by omega
        have hk0 : (0 : Int) ≤ (k : Int) := by omega
        obtain ⟨ad, u, rfl, hc, hrow⟩ := (HR.out.below HB.out).get k hlt
        obtain ⟨row, hrw⟩ : ∃ row, row = r.getD k default := ⟨_, rfl⟩
        rw [← hrw] at hrow
        have HRK := Lib.hid (show r[k]? = some row by rw [hrw]; exact getD_get r k _ hlt)
        have HSR := Lib.hid (show ∀ b ∈ row, b.2.size ≤ 1000000 from HSZ.out row (List.mem_of_getElem? HRK.out))
        obtain ⟨A2, cap2, rfl, hcl2, hcm2⟩ := RdS.form hrow
        have HROW := Lib.hid hrow
        clear hrow hrw
        unfold maxLen at hcm2
        by_cases hrl : 1 ≤ row.length ∧ row.length ≤ 16
        · have hr1 : ((row.length : Int) == 0) = false := by rw [beq_eq_false_iff_ne]; omega
          have hr2 : ¬ (row.length : Int) > 16 := by omega
          obtain ⟨A1, cap1, rfl⟩ := own_form HOWN.out
          go_wp2
          obtain ⟨wo, hwo⟩ : ∃ wo : World, wo = wr := ⟨_, rfl⟩
          rw [← hwo] at HOWN HIT HB hc HROW ⊢
          clear hwo wr
          go_loopw [7, 31] (fun lv j wq => ∃ (m : Nat) (ts : List Tst), m ≤ row.length ∧ j = .int .i64 (m : Int) ∧ Hid (wq.ownsRow wo.heap.size 153 3 lv m (tstCells ts)) ∧ Hid (∀ t ∈ ts, TOk wq (newS wo.heap.size lv.ownBlock) t) ∧ Hid (ts.map Tst.key = (row.take m).map keyB) ∧ Hid ((row.take m).all mayB = true) ∧ Hid (Below wo.heap.size wo wq)) (fun _ j _ => row.length - (intOf j).toNat)
          case atStart => exact ⟨0, [], by omega, rfl, Lib.hid (World.ownsRow_nil _ _ _ _), Lib.hid (fun t ht => by simp at ht), Lib.hid rfl, Lib.hid rfl, Lib.hid (Below.refl _ _)⟩
          case round =>
            obtain ⟨m, ts, hm, rfl, HOWI, HTS, HKEY, HMAY, HBI⟩ := hrel
            obtain ⟨A4, cap4, rfl⟩ := own_form HOWI.out
            by_cases hmt : m < row.length
            · have hmtI : (m : Int) < (row.length : Int) := by omega
              have hm0 : (0 : Int) ≤ (m : Int) := by omega
              obtain ⟨ad2, rfl, hbc⟩ := BRow.get (RdS.below HROW.out HBI.out) m hmt
              obtain ⟨b, hbb⟩ : ∃ b, b = row.getD m default := ⟨_, rfl⟩
              rw [← hbb] at hbc
              have HBK := Lib.hid (show row[m]? = some b by rw [hbb]; exact getD_get row m _ hmt)
              have hvz : b.2.size ≤ 1000000 := HSR.out b (List.mem_of_getElem? HBK.out)
              clear hbb
              obtain ⟨o, tx⟩ := b
              have hb0 : wr.cell? (ad2.add (m * 2)) = some (.int .u8 (o : Int)) := by have := hbc 0 _ rfl; simpa [add_add] using this
              have hb1 : wr.cell? ⟨(ad2.add (m * 2)).block, (ad2.add (m * 2)).off + 1, none⟩ = some (.string tx) := hbc 1 _ rfl
              clear hbc
              go_upto_region 13 with (fail)
              obtain ⟨W9, hW9, hg9, hq9, hz9, hB9⟩ := row_at w wr (.cells #[.int .u8 (o : Int), .string tx] 57) ((HB.out.trans (HBI.out.mono HB.out.size)))
              rw [← hW9]
              clear hW9 hb0 hb1
              obtain ⟨hc0, hc1, _, _⟩ := cell_two hg9
              have HG9 := Lib.hid hg9
              have HQ9 := Lib.hid hq9
              have HZ9 := Lib.hid hz9
              clear hg9 hq9 hz9
              go_wp2_with fail
              refine (bounded_any (o, tx) _ hvz).mono ?_
              rintro e w2 ⟨u2, t, rfl, ⟨A3, n3, c3, rfl⟩, hb2, hyes⟩
              have HB2 := Lib.hid hb2
              have HYES := Lib.hid hyes
              clear hb2 hyes
              cases hmb : mayB (o, tx)
              · have HN := Lib.hid (mayR_row r k row HRK.out (mayRow_bd row m _ HBK.out hmb))
                clear hmb
                go_wp2
                go_ret2
                exact tests_no_mk HN.out ⟨rfl, (below_step hB9 HB2.out hB9.size).alloc (Nat.le_trans hB9.size HB2.out.size) _⟩
              · have HMB := Lib.hid hmb
                have ho7 := mayB_le _ hmb
                dsimp only at ho7
                clear hmb
                obtain ⟨HRD, HTL, HTZ⟩ := HYES.out HMB.out
                have HTAG := Lib.hid HTL
                have HRDH := Lib.hid HRD
                clear HTL HRD HYES
                go_upto_region 16 with (fail)
                obtain ⟨WX, hWX, hgX, hqX, hzX, hBX⟩ := row_at w w2 (.cells #[.slice A3 n3 c3, .string t] 101) (below_step hB9 HB2.out hB9.size)
                rw [← hWX]
                clear hWX
                have hcell9 := (hqX.block wr.heap.size (Nat.lt_of_lt_of_le (by have := HZ9.out; omega) HB2.out.size)).trans ((HB2.out.block wr.heap.size (by have := HZ9.out; omega)).trans HG9.out)
                obtain ⟨hx0, hx1, _, _⟩ := cell_two hcell9
                obtain ⟨hd0, hd1, _, _⟩ := cell_two hgX
                have hl9 : wr.heap.size < WX.heap.size := block_lt hcell9
                have hl2 : w2.heap.size < WX.heap.size := block_lt hgX
                have hqw : Below wr.heap.size wr WX := below_step (below_step HQ9.out HB2.out HQ9.out.size) hqX (Nat.le_trans HQ9.out.size HB2.out.size)
                have HQW := Lib.hid hqw
                have HQX := Lib.hid hqX
                have hown10 := own_below HOWI.out hqw (Nat.le_refl _)
                have hlt10 : ∀ g, (Value.slice A4 m cap4).ownBlock = some g → wo.heap.size ≤ g ∧ g < wr.heap.size := fun g hg => HOWI.out.lt g hg
                have HLT := Lib.hid hlt10
                have hss : ∀ w', KeepW WX WX.heap.size w' → w'.cell? ⟨wr.heap.size, 0, none⟩ = some (.int .u8 (o : Int)) ∧ w'.cell? ⟨w2.heap.size, 0, none⟩ = some (.slice A3 n3 c3) ∧ w'.cell? ⟨w2.heap.size, 1, none⟩ = some (.string t) := fun w' hk => ⟨(hk.1.cell (by exact hl9)).trans hx0, (hk.1.cell (by exact hl2)).trans hd0, (hk.1.cell (by exact hl2)).trans hd1⟩
                have HSS := Lib.hid hss
                have HSG := Lib.hid (fun (wa wb : World) (hk : KeepW WX WX.heap.size wa) (hg : wa.grownBy wb (Value.slice A4 m cap4).ownBlock) => (show wb.cell? ⟨wr.heap.size, 0, none⟩ = some (.int .u8 (o : Int)) ∧ wb.cell? ⟨w2.heap.size, 0, none⟩ = some (.slice A3 n3 c3) ∧ wb.cell? ⟨w2.heap.size, 1, none⟩ = some (.string t) from
                  ⟨cell_grown (hss wa hk).1 hg (fun e => by have := (hlt10 _ e).2; omega), cell_grown (hss wa hk).2.1 hg (fun e => by have := (hlt10 _ e).2; have := HQ9.out.size; have := HB2.out.size; omega), cell_grown (hss wa hk).2.2 hg (fun e => by have := (hlt10 _ e).2; have := HQ9.out.size; have := HB2.out.size; omega)⟩))
                have HOWN10 := Lib.hid (fun (w' : World) (hk : KeepW WX WX.heap.size w') => own_below hown10 hk.1 (Nat.le_refl _))
                have HBASE := Lib.hid (fun (w' : World) (hk : KeepW WX WX.heap.size w') => (show wo.heap.size ≤ w'.heap.size from Nat.le_trans HBI.out.size (Nat.le_trans hqw.size hk.2)))
                obtain ⟨fo, hfo⟩ : ∃ fo, fo = fnId o := ⟨_, rfl⟩
                have HFO := Lib.hid hfo
                have HBR := Lib.hid (fun (w' : World) (hk : KeepW WX WX.heap.size w') => hk.calls (bears_any o ho7 w'))
                rw [← hfo] at HBR
                have HK0 := Lib.hid (KeepW.start (Nat.le_refl WX.heap.size))
                clear hfo hss hlt10 hown10 hqw hcell9 hgX hqX hzX hl9 hl2 hc0 hc1 hx1 hB9 hBX
                go_region_held3 (fun w' => w'.cell? ⟨wr.heap.size, 0, none⟩ = some (.int .u8 (o : Int)) ∧ w'.cell? ⟨w2.heap.size, 0, none⟩ = some (.slice A3 n3 c3) ∧ w'.cell? ⟨w2.heap.size, 1, none⟩ = some (.string t)) (first | exact HSS.out _ (by first | assumption | exact KeepW.drew HK0.out | exact HK0.out) | exact HSG.out _ _ (KeepW.alloc (by assumption) _) hgrow5 | go_keep) (first | (go_at_call 107; refine (HBR.out _ (by first | assumption | exact KeepW.drew HK0.out | exact HK0.out)).mono ?_; rintro e w4 ⟨rfl, hk4⟩) | (refine step_append_lies _ (by rfl) _ _ _ (by rfl) wo.heap.size 153 i1 _ 3 48 Tryz.underlying147 HI1.out HY0.out HY1.out HY2.out rfl (by omega) (Value.slice A4 m cap4) m (tstCells ts) (by rfl) (HOWN10.out _ (KeepW.alloc (by assumption) _)) ⟨w4.heap.size, 0, none⟩ 1 1 [.func (.func fo) #[] #[], .slice A3 n3 c3, .string t] (by rfl) (by rfl) (World.news_of_block (cs := #[.func (.func fo) #[] #[], .slice A3 n3 c3, .string t]) (t := 153) (fr := (0, 0)) (heap_alloc_new w4 _)) (by simp [Value.oneCell']) (by omega) (by unfold maxLen; omega) (by omega) (HBASE.out _ (KeepW.alloc (by assumption) _)) (w4.heap.size + 1) (by simp) ?_; intro gg cap5 w5 hown5 hgrow5 hat5 hlt5))
                all_goals
                  have hk4' : KeepW WX WX.heap.size w4 := by assumption
                  have hbw4 : Below wr.heap.size wr (w4.alloc (.cells #[.func (.func fo) #[] #[], .slice A3 n3 c3, .string t] 153)) := (below_step HQW.out hk4'.1 HQW.out.size).alloc (Nat.le_trans HQW.out.size hk4'.2) _
                  have hbw2 : Below w2.heap.size w2 (w4.alloc (.cells #[.func (.func fo) #[] #[], .slice A3 n3 c3, .string t] 153)) := (below_step HQX.out hk4'.1 HQX.out.size).alloc (Nat.le_trans HQX.out.size hk4'.2) _
                  have hs5 : SameS wr w5 (ownS (Value.slice A4 m cap4).ownBlock) := (SameS.below hbw4 _).trans (SameS.grown hgrow5)
                  have hs52 : SameS w2 w5 (ownS (Value.slice A4 m cap4).ownBlock) := (SameS.below hbw2 _).trans (SameS.grown hgrow5)
                  have hbf : Below wo.heap.size wo w5 := (below_step HBI.out hbw4 HBI.out.size).grown hgrow5 (Nat.le_trans HBI.out.size hbw4.size) fun g hg => (HLT.out g hg).1
                  have hge4 : wr.heap.size ≤ w4.heap.size + 1 := by have := HQW.out.size; have := hk4'.2; omega
                  have hge2 : w2.heap.size ≤ w4.heap.size + 1 := by have := HQX.out.size; have := hk4'.2; omega
                  have hts5 : ∀ x ∈ ts ++ [(⟨o, .slice A3 n3 c3, (verOf tx).1, t⟩ : Tst)], TOk w5 (newS wo.heap.size (Value.slice (some ⟨gg, 0, none⟩) (m + 1) cap5).ownBlock) x := by
                    intro x hx
                    rcases List.mem_append.1 hx with hx | hx
                    · exact TOk.step (HTS.out x hx) hs5 (hat5.elim (fun e => .inl e) fun e => .inr (by rw [e]; exact hge4))
                    · obtain rfl := List.mem_singleton.1 hx
                      refine TOk.step (p := (Value.slice A4 m cap4).ownBlock) (w := w2) ⟨HRDH.out.weak fun g hg hS => ⟨?_, fun e => ?_⟩, HTZ, ho7⟩ hs52 (hat5.elim (fun e => .inl e) fun e => .inr (by rw [e]; exact hge2))
                      · have := HBI.out.size; have := HQ9.out.size; omega
                      · have := (HLT.out g e).2; have := HQ9.out.size; omega
                  have hkey5 : (ts ++ [(⟨o, .slice A3 n3 c3, (verOf tx).1, t⟩ : Tst)]).map Tst.key = (row.take (m + 1)).map keyB := by
                    rw [take_next row m _ HBK.out, List.map_append, List.map_append, HKEY.out]
                    simp [Tst.key, keyB, HTAG.out]
                  rw [show tstCells ts ++ [.func (.func fo) #[] #[], .slice A3 n3 c3, .string t] = tstCells (ts ++ [(⟨o, .slice A3 n3 c3, (verOf tx).1, t⟩ : Tst)]) by rw [tstCells_snoc, HFO.out]; rfl] at hown5
                  have HR1 := Lib.hid hown5
                  have HR2 := Lib.hid hts5
                  have HR3 := Lib.hid hkey5
                  have HR4 := Lib.hid (all_next mayB row m _ HBK.out HMAY.out HMB.out)
                  have HR5 := Lib.hid hbf
                  clear hown5 hts5 hkey5 hbf hs5 hs52 hbw4 hbw2 hgrow5 hat5 hlt5 hge4 hge2 hk4'
                  go_wp2_with fail
                  go_roundw
                  case rel => exact ⟨m + 1, _, by omega, by go_num, HR1, HR2, HR3, HR4, HR5⟩
                  case measure => simp [intOf]; omega
            · have hme : m = row.length := by omega
              subst hme
              have hmtI : ¬ (row.length : Int) < (row.length : Int) := by omega
              have hrow : mayRow row = true := by
                unfold mayRow
                rw [decide_eq_true hrl, Bool.true_and, ← List.take_length (l := row)]; exact HMAY.out
              have hown2 := own_below HOWN.out HBI.out (Nat.le_refl _)
              have hnew : TRow wr (ownS (Value.slice A1 k cap1).ownBlock) (.slice A4 row.length cap4) row :=
                ⟨ts, (RdS.own HOWI.out).weak fun g _ hS e => by have := (HOWN.out.lt g e).2; omega, fun t ht => (HTS.out t ht).weak fun g _ hS e => by have := (HOWN.out.lt g e).2; have := hS.1; omega, by rw [HKEY.out, List.take_length]⟩
              have hit2 := ((HIT.out.keep TRow.keeps (SameS.below HBI.out _)).snoc hnew).keep TRow.keeps (SameS.below ((Below.refl wr.heap.size wr).alloc (Nat.le_refl _) (.cells #[.slice A4 row.length cap4] 147)) _)
              have HIT2 := Lib.hid hit2
              have HOWN2 := Lib.hid hown2
              have HMR := Lib.hid (all_next mayRow r k row HRK.out HALL.out hrow)
              have hb2 := (HB.out.trans (HBI.out.mono HB.out.size)).alloc (Nat.le_trans HB.out.size HBI.out.size) (.cells #[.slice A4 row.length cap4] 147)
              have HB2 := Lib.hid hb2
              have HZB := Lib.hid (Nat.le_trans HB.out.size HBI.out.size)
              clear hit2 hnew hown2 hrow hb2
              go_wp2_with (at_builtin; refine wpList_app rfl _ _ 126 rfl w.heap.size 147 i0 (.slice none 0 0) 24 Tryz.underlying126 HI.out HZ0.out HZ1.out HZ2.out rfl _ k vs rfl (HOWN2.out.alloc _) ⟨wr.heap.size, 0, none⟩ 1 1 [.slice A4 row.length cap4] rfl rfl ?c1 ?c2 ?c3 ?c4 ?c5 ?_)
              case c2 => simp [Value.oneCell']
              case c3 => unfold maxLen; omega
              case c4 => omega
              case c5 => have := HZB.out; simp; omega
              intro v' w6 hown6 hgrow6 hmov6
              obtain ⟨A6, cap6, rfl⟩ := own_form hown6
              have HR1 := Lib.hid hown6
              have HR2 := Lib.hid (by have := items_moved TRow.keeps HIT2.out (SameS.grown hgrow6) hmov6; rw [← take_next r k row HRK.out] at this; exact this)
              have HR5 := Lib.hid (HB2.out.grown hgrow6 (by have := HZB.out; simp; omega) fun g hg => (HOWN2.out.lt g hg).1)
              clear hown6 hgrow6 hmov6
              go_wp2
              go_roundw
              case rel => exact ⟨k + 1, _, by omega, by go_num, HR1, HR2, HMR, HR5⟩
              case measure => simp [intOf]; omega
        · have HN := Lib.hid (mayR_row r k row HRK.out (mayRow_len row hrl))
          by_cases h0 : row.length = 0
          · have hr1 : ((row.length : Int) == 0) = true := by rw [h0]; rfl
            go_wp2
            go_ret2
            exact tests_no_mk HN.out ⟨rfl, HB.out⟩
          · have hr1 : ((row.length : Int) == 0) = false := by rw [beq_eq_false_iff_ne]; omega
            have hr2 : (row.length : Int) > 16 := by omega
            go_wp2
            go_ret2
            exact tests_no_mk HN.out ⟨rfl, HB.out⟩
      · have hke : k = r.length := by omega
        subst hke
        have hY : mayR r = true := by
          unfold mayR
          rw [decide_eq_true hlong, Bool.true_and, ← List.take_length (l := r)]; exact HALL.out
        obtain ⟨A1, cap1, rfl⟩ := own_form HOWN.out
        have hO : OutS TRow wr AllB (.slice A1 r.length cap1) r := ⟨vs, (RdS.own HOWN.out).all, by have := HIT.out.weak TRow.keeps (S' := AllB) (fun _ _ _ => trivial); rwa [List.take_length] at this⟩
        have HY := Lib.hid hY
        have HO := Lib.hid hO
        clear hY hO
        go_wp2
        go_ret2
        exact tests_yes_mk HY.out ⟨_, rfl, HO.out, HB.out⟩
  · have hl1 : (r.length : Int) > 16 := by omega
    have HN := Lib.hid (mayR_long r (by omega))
    go_enter Tryz.func83, Tryz.ntmps83
    go_wp2
    go_ret2
    exact tests_no_mk HN.out ⟨rfl, Below.refl _ _⟩
end Go.Proofs.YtcnedecmmplmoaaGreatDoor
