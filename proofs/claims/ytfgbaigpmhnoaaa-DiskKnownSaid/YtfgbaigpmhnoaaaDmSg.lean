/- disk: Remove. -/
import Derived.Test.YtfgbaigpmhnoaaaDskX
import Derived.Test.YtfgbaigpmhnoaaaDskSf
set_option linter.unusedVariables false
set_option linter.unusedSimpArgs false
namespace Go.Proofs.Ytfgbaigpmhnoaaa
open Go.RowKit Go.BigFrame Go.Maps
open Dsk (Fl St Ok get put drop used)

set_option maxRecDepth 100000 in
set_option maxHeartbeats 1600000 in
theorem remove1_any (w : World) (base db mb n : Nat) (D : DataW Unit) (av : Value) (ro : Nat → Role) (S : St) (s : ByteArray) (p0 p1 : Nat) (h : DiskIn w base db mb n D av ro S)
    (c0 : w.cell? ⟨p0, 0, none⟩ = some (.pointer (some ⟨db, 0, none⟩))) (c1 : w.cell? ⟨p1, 0, none⟩ = some (.string s)) (hs : s.size ≤ maxLen) :
    Calls Try.prog 49 #[.pointer (some ⟨p0, 0, none⟩), .pointer (some ⟨p1, 0, none⟩)] w (DoneR w base db ro { S with fs := drop S.fs s } (.tuple #[])) := by
  have HDR := Lib.hid (drop_any w base db mb n D av ro S s h hs)
  have HP := Lib.hid (fun (w' : World) (hd : DiskIn w' base db mb n (D.del (kS s)) av (unname ro s) { S with fs := drop S.fs s }) (hc : Ch w w' (fun b => b = db ∨ b = mb)) => show DoneR w base db ro { S with fs := drop S.fs s } (.tuple #[]) (.returned (.tuple #[])) w' from
    ⟨rfl, unname ro s, ⟨mb, n, _, av, hd⟩, fun b _ hb => (by unfold Own at hb ⊢; rw [← (unname_some hb).1]; exact hb), hc.weak fun b _ hM => by unfold Own; rcases hM with e | e; rw [e, h.rdb]; simp; rw [e, h.rmb]; simp⟩)
  generalize DoneR w base db ro { S with fs := drop S.fs s } (.tuple #[]) = post at *
  clear h
  go_enter Try.func49, Try.ntmps49
  go_wp2_with fail
  refine HDR.out.mono ?_
  rintro e w2 ⟨rfl, hd2, hch2⟩
  have HQ := Lib.hid (HP.out w2 hd2 hch2)
  clear hd2 hch2 HDR HP
  go_wp2
  go_end0
  exact HQ.out
def removeS (S : St) (s : ByteArray) : St := if refC S [s] ≠ 0 then S else match get S.fs s with
  | none => S
  | some _ => stepEnd S { plus1 S with fs := drop S.fs s } false
set_option maxRecDepth 100000 in
set_option maxHeartbeats 4000000 in
theorem remove_any (w : World) (base db : Nat) (ro : Nat → Role) (S : St) (s : ByteArray) (h : DiskAt w base db ro S) (hs : s.size ≤ maxLen) (hst : S.steps < 1000000000) :
    Calls Try.prog 26 #[.pointer (some ⟨db, 0, none⟩), .string s] w (DoneR w base db ro (removeS S s) (.int .i64 (syncC S s))) := by
  have HP := Lib.hid (fun (c : Int) (w' : World) (hc : c = syncC S s) (S' : St) (hS : S' = removeS S s) (ro1 : Nat → Role) (hl : Left w w' base db ro S' ro1) => show DoneR w base db ro (removeS S s) (.int .i64 (syncC S s)) (.returned (.int .i64 c)) w' from ⟨by rw [hc], ro1, hS ▸ hl⟩)
  generalize DoneR w base db ro (removeS S s) (.int .i64 (syncC S s)) = post at *
  have HD := Lib.hid h
  have HST := Lib.hid hst
  have HS := Lib.hid hs
  go_enter Try.func26, Try.ntmps26
  go_upto_region 1 with (fail)
  obtain ⟨W1, hW1, hg0, hg1, hb1, hz1⟩ := rows2 w (.cells #[.pointer (some ⟨db, 0, none⟩)] 25) (.cells #[.string s] 9)
  rw [← hW1]
  have c0 : W1.cell? ⟨w.heap.size, 0, none⟩ = some (.pointer (some ⟨db, 0, none⟩)) := by rw [blk_cell hg0]; rfl
  have c1 : W1.cell? ⟨w.heap.size + 1, 0, none⟩ = some (.string s) := by rw [blk_cell hg1]; rfl
  have hb2 : Below W1.heap.size W1 (W1.alloc (.cells #[.string s] 9)) := (Below.refl _ _).alloc (Nat.le_refl _) _
  have hbw2 : Below w.heap.size w (W1.alloc (.cells #[.string s] 9)) := hb1.alloc (by omega) _
  obtain ⟨mb, n, D, av, hd⟩ := HD.out.below hbw2
  have HF := Lib.hid (find_any (W1.alloc (.cells #[.string s] 9)) base db mb n D av ro S _ [s] hd (nrow_one W1 s hs) (by simp))
  unfold FindPost at HF
  have HD2 := Lib.hid hd
  have HL0 := Lib.hid (fun nq => Left.below HD.out (below_drewN hbw2 nq))
  have HB2 := Lib.hid hb2
  have HZ1 := Lib.hid hz1
  clear hW1 hg0 hg1 hb1 hb2 hz1 hbw2 hd h
  go_wp2_with fail
  refine HF.out.mono ?_
  rintro e w1 ⟨⟨nq, hw1⟩, hcase⟩
  have HW1 := Lib.hid hw1
  have hb3 : Below W1.heap.size W1 w1 := hw1 ▸ below_drewN HB2.out nq
  have c0 := (hb3.cell (p := ⟨w.heap.size, 0, none⟩) (by show w.heap.size < _; have := HZ1.out; omega)).trans c0
  have c1 := (hb3.cell (p := ⟨w.heap.size + 1, 0, none⟩) (by show w.heap.size + 1 < _; have := HZ1.out; omega)).trans c1
  have hlw : Left w w1 base db ro S ro := hw1 ▸ HL0.out nq
  have HLW := Lib.hid hlw
  have hd1 : DiskIn w1 base db mb n D av ro S := hw1 ▸ HD2.out.drewN nq
  clear hw1 hlw hb3
  rcases hcase with ⟨hc, rfl⟩ | ⟨hc, hg, rfl⟩ | ⟨hc, f, fb, v, hg, rfl, hat, hfa⟩
  · have HQ := Lib.hid (HP.out (refC S [s]) w1 (by unfold syncC; rw [if_pos hc]) S (by unfold removeS; rw [if_pos hc]) ro HLW.out)
    obtain ⟨cc, hcc⟩ : ∃ cc, cc = refC S [s] := ⟨_, rfl⟩
    rw [← hcc] at HQ hc ⊢
    have hc1 : (cc == 0) = false := by simpa using hc
    have hc2 : (cc != 0) = true := by simpa using hc
    clear hcc HP HF hd1 c0 c1
    go_wp2
    exact HQ.out
  · have hg' : get S.fs s = none := hg
    have HQ := Lib.hid (HP.out 5 w1 (by unfold syncC; rw [if_neg (by simpa using hc), hg']) S (by unfold removeS; rw [if_neg (by simpa using hc), hg']) ro HLW.out)
    clear hg hg' hc HP HF hd1 c0 c1
    go_wp2
    exact HQ.out
  · have hg' : get S.fs s = some f := hg
    have hfree : ∀ p, w.heap.size ≤ p → ro p = .none := fun p hp => free_new HD.out hp
    have hdp := hd1.plus HST.out
    have hcP : Ch w1 (world1 w1 db S) (fun b => b = db) := (Ch.refl w1 (fun b => b = db)).setCell (p := ⟨db, 3, none⟩) rfl _
    have hdn : ∀ p, w.heap.size ≤ p → p ≠ db := fun p hp e => by have := hfree p hp; rw [e, hd1.rdb] at this; cases this
    have hdo := remove1_any (world1 w1 db S) base db mb n D av ro (plus1 S) s w.heap.size (w.heap.size + 1) hdp.1 (hcP.cell c0 (hdn w.heap.size (by omega))) (hcP.cell c1 (hdn (w.heap.size + 1) (by omega))) HS.out
    have HSS := Lib.hid (step_remove w1 base db mb n D av ro S { plus1 S with fs := drop S.fs s } false w.heap.size (w.heap.size + 1) hd1 HST.out rfl (fun _ => hdo))
    unfold DoneR at HSS
    have HFQ := Lib.hid (fun (w7 : World) (ro7 : Nat → Role) (hl : Left w1 w7 base db ro (stepEnd S { plus1 S with fs := drop S.fs s } false) ro7) => HP.out (stepC S.armed) w7 (by unfold syncC; rw [if_neg (by simpa using hc), hg']) _ (by unfold removeS; rw [if_neg (by simpa using hc), hg']) ro7 (HLW.out.trans hl))
    clear hg hg' hc hd1 hdp hdo hat hfa HP HF hfree hcP hdn
    go_wp2_with fail
    refine HSS.out.mono ?_
    rintro e w7 ⟨rfl, ro7, hl7⟩
    have HQ := Lib.hid (HFQ.out w7 ro7 hl7)
    clear hl7 HFQ HSS
    go_wp2
    exact HQ.out
end Go.Proofs.Ytfgbaigpmhnoaaa

/- disk: the reference's drop, Cut, Sync, Remove. -/
namespace Go.Proofs.Ytfgbaigpmhnoaaa
open Go.RowKit Go.BigFrame Go.Maps
open Dsk (Fl St Ok get put drop used)

set_option maxRecDepth 100000 in
set_option maxHeartbeats 4000000 in
theorem rdrop_any {w : World} {base rb : Nat} {P : Nat → Prop} {S : St} (h : RefAt w base P rb S) (s : ByteArray) (hs : Dsk.Sorted S.fs) (hlen : S.fs.length ≤ 1000000000) (hP : ∀ b, w.heap.size ≤ b → P b) :
    Calls Try.prog 55 #[.pointer (some ⟨rb, 0, none⟩), .string s] w (RDone w base P rb { S with fs := drop S.fs s } (.tuple #[])) := by
  obtain ⟨i0, hi, hz0, hz1, hz2⟩ := info_parts infoFile
  have HI := Lib.hid (And.intro hi (And.intro hz0 (And.intro hz1 hz2)))
  clear hi hz0 hz1 hz2
  obtain ⟨fv, iv, es, h⟩ := h
  have hfs := h.fs
  obtain ⟨fs, hfsn⟩ : ∃ fs, fs = S.fs := ⟨_, rfl⟩
  rw [← hfsn] at hs hlen hfs
  have hesl : es.length ≤ 1000000000 := by rw [← hfs, fsOf_len] at hlen; exact hlen
  have HFS := Lib.hid hfs
  have HFIN := Lib.hid (fun (wr : World) (lv : Value) (es' : List En) (hm : MoreE w wr (fun b => P b ∧ b ≠ rb) w lv es') (he : fsOf es' = drop fs s) => show RDone w base P rb { S with fs := drop S.fs s } (.tuple #[]) (.returned (.tuple #[])) (wr.setCell ⟨rb, 0, none⟩ lv) from
    ⟨rfl, h.files hm.below hm.own hm.rows hP (by rw [he, hfsn])⟩)
  generalize RDone w base P rb { S with fs := drop S.fs s } (.tuple #[]) = post at *
  have HEND := Lib.hid (dropTo_end (s := s) hs)
  obtain ⟨A, cap, hfv, hlc, hcm⟩ := h.row.slice
  subst hfv
  have HROW := Lib.hid h.row
  have HRB := Lib.hid (And.intro h.lt (And.intro h.cells.1 (h.free 0)))
  have HRS := Lib.hid h.rows
  unfold maxLen at hcm
  have hcs : es.length ≤ cap := hlc
  clear h hs hfs hlen hfsn hP
  go_enter Try.func55, Try.ntmps55
  go_wp2
  go_loopw [4, 5] (fun lv iv wr => ∃ (i : Nat) (es' : List En), iv = .int .i64 (i : Int) ∧ i ≤ es.length ∧ es'.length ≤ i ∧ Hid (fsOf es' = dropTo fs s i) ∧ Hid (MoreE w wr (fun b => P b ∧ b ≠ rb) w lv es')) (fun _ iv _ => es.length - (intOf iv).toNat)
  case atStart => exact ⟨0, [], rfl, by omega, by simp, Lib.hid (by simp [dropTo, fsOf]), Lib.hid ⟨World.ownsRow_nil _ _ _ _, Below.refl _ _, fun e he => by simp at he⟩⟩
  case round =>
    obtain ⟨i, es', rfl, hi, hel, HP, HM⟩ := hrel
    obtain ⟨A', cap', rfl⟩ := own_sl4 HM.out.own
    have hwz := HM.out.below.size
    by_cases hlt : i < es.length
    · obtain ⟨ad, rfl, g0, g1, g2, g3⟩ := (HROW.out.below HM.out.below).cells hlt
      have c0 : wr.cell? ⟨rb, 0, none⟩ = some (.slice (some ad) es.length cap) := (HM.out.below.cell (p := ⟨rb, 0, none⟩) HRB.out.1).trans HRB.out.2.1
      have hpi : i < fs.length := by rw [← HFS.out, fsOf_len]; exact hlt
      have HFI := Lib.hid (show fs[i] = (es[i].s, es[i].f) from by simp only [← HFS.out]; exact fsOf_get es i hlt)
      obtain ⟨Ae, ce, hve, _, _⟩ := (HRS.out es[i] (List.getElem_mem _)).slice
      rw [hve] at g1
      have HCE := Lib.hid (show es[i].cells = [.string es[i].s, .slice Ae es[i].f.b.length ce, .int .i64 (es[i].f.sure : Int), .bool es[i].f.ever] from by unfold En.cells; rw [hve])
      have HBE := Lib.hid (HRS.out es[i] (List.getElem_mem _))
      obtain ⟨nm, hnm⟩ : ∃ nm, nm = es[i].s := ⟨_, rfl⟩
      obtain ⟨ne, hne⟩ : ∃ ne, ne = es[i].f.b.length := ⟨_, rfl⟩
      obtain ⟨su, hsu⟩ : ∃ su : Int, su = (es[i].f.sure : Int) := ⟨_, rfl⟩
      obtain ⟨ev, hev⟩ : ∃ ev, ev = es[i].f.ever := ⟨_, rfl⟩
      have HNM := Lib.hid hnm
      rw [← hnm, ← hne, ← hsu, ← hev] at HCE
      rw [← hnm] at g0
      rw [← hne] at g1
      rw [← hsu] at g2
      rw [← hev] at g3
      clear hve hnm hne hsu hev
      by_cases hsame : nm = s
      · have heq : (nm.toList == s.toList) = true := by rw [str_ne_iff]; simp [hsame]
        have HP1 := Lib.hid (show fsOf es' = dropTo fs s (i + 1) from by rw [HP.out, dropTo_eq hpi (by rw [HFI.out, ← HNM.out]; exact hsame)])
        clear hsame HP
        go_wp2
        go_roundw
        case rel => exact ⟨i + 1, es', by go_num, by omega, by omega, HP1, HM⟩
        case measure => simp [intOf]; omega
      · have heq : (nm.toList == s.toList) = false := by rw [str_ne_iff]; simp [hsame]
        have HP1 := Lib.hid (show fsOf (es' ++ [es[i]]) = dropTo fs s (i + 1) from by rw [fsOf_snoc, HP.out, dropTo_ne hpi (by rw [HFI.out, ← HNM.out]; exact hsame), ← HFI.out])
        clear hsame HP
        go_wp2_with (at_builtin; go_loud (refine wpList_append_own _ rfl _ _ 59 rfl w.heap.size 66 i0 (.agg #[.string ⟨#[]⟩, .slice none 0 0, .int .i64 0, .bool false]) 4 56 Try.underlying59 HI.out.1 HI.out.2.1 HI.out.2.2.1 HI.out.2.2.2 rfl (by decide) (.slice A' es'.length cap') es'.length (enCells es') rfl (HM.out.own.alloc _) ⟨wr.heap.size, 0, none⟩ 1 1 [.string nm, .slice Ae ne ce, .int .i64 su, .bool ev] rfl rfl (cells_new _ _ _ _ rfl) (one_file _ _ _ _ _ _) ?h63 ?hby ?hba ?_))
        case h63 => unfold maxLen; omega
        case hby => omega
        case hba => simp; omega
        intro v2 w2 ho2 hg2 _
        have HM2 := Lib.hid (HM.out.add es[i] HBE.out (HM.out.below.alloc hwz _) (by rw [HCE.out]; exact ho2) hg2)
        obtain ⟨A2, cap2, rfl⟩ := own_sl4 ho2
        clear ho2 hg2
        go_wp2
        go_roundw
        case rel => exact ⟨i + 1, es' ++ [es[i]], by go_num, by omega, by rw [List.length_append]; simp; omega, HP1, HM2⟩
        case measure => simp [intOf]; omega
    · obtain rfl : i = es.length := by omega
      have c0 : wr.cell? ⟨rb, 0, none⟩ = some (.slice A es.length cap) := (HM.out.below.cell (p := ⟨rb, 0, none⟩) HRB.out.1).trans HRB.out.2.1
      have ff : wr.frozen? ⟨rb, 0, none⟩ = false := (HM.out.below.frozen (p := ⟨rb, 0, none⟩) HRB.out.1).trans HRB.out.2.2
      have HQ := Lib.hid (fun w' (hw : w' = wr.setCell ⟨rb, 0, none⟩ (.slice A' es'.length cap')) => show post (.returned (.tuple #[])) w' from by
        rw [hw]; exact HFIN.out wr _ es' HM.out (by rw [HP.out, ← fsOf_len es, HFS.out]; exact HEND.out))
      clear HFIN HM HP
      go_wp2
      go_end0
      exact HQ.out _ rfl
theorem field_b (w : World) (a b c d : Value) : (Instr.field 66 (.agg #[a, b, c, d]) 1).run Try.prog w = .ok b w := by kernel_rfl
theorem stepS_with (S : St) (X : Dsk.FS) : ({ stepS (plus1 S) with fs := X } : St) = stepS { plus1 S with fs := X } := by
  unfold stepS plus1
  dsimp only
  cases S.armed with
  | none => rfl
  | some k => cases k <;> rfl
theorem stepS_same (S : St) : (stepS (plus1 S)).fs = S.fs ∧ (stepS (plus1 S)).quota = S.quota ∧ (stepS (plus1 S)).steps = S.steps + 1 := by
  unfold stepS plus1
  dsimp only
  cases S.armed with
  | none => exact ⟨rfl, rfl, rfl⟩
  | some k => cases k <;> exact ⟨rfl, rfl, rfl⟩
theorem stepEnd_no {S S2 : St} (h : S.armed = some 0) : stepEnd S S2 false = stepS (plus1 S) := by
  unfold stepEnd
  rw [if_pos ⟨h, rfl⟩, stepS_zero (S := plus1 S) h]
theorem stepEnd_yes {S S2 : St} (h : S.armed ≠ some 0) : stepEnd S S2 false = stepS S2 := by
  unfold stepEnd
  rw [if_neg fun hh => h hh.1]
theorem askC_true {S : St} {s : ByteArray} (h0 : refC S [s] = 0) (f : Fl) (hg : get S.fs s = some f) : askC S s true = 0 := by
  unfold askC
  rw [if_neg (by simpa using h0), hg]
  simp
theorem askC_none {S : St} {s : ByteArray} (h0 : refC S [s] = 0) (hg : get S.fs s = none) : askC S s true = 5 := by
  unfold askC
  rw [if_neg (by simpa using h0), if_pos ⟨rfl, hg⟩]
theorem askC_bad {S : St} {s : ByteArray} {b : Bool} (h0 : refC S [s] ≠ 0) : askC S s b = refC S [s] := by
  unfold askC
  rw [if_pos h0]
set_option maxRecDepth 100000 in
set_option maxHeartbeats 4000000 in
theorem rremove_any {w : World} {base rb : Nat} {P : Nat → Prop} {S : St} (h : RefAt w base P rb S) (hok : Ok S) (s : ByteArray) (hs : s.size ≤ maxLen) (hst : S.steps < 1000000000) (hP : ∀ b, w.heap.size ≤ b → P b) :
    Calls Try.prog 32 #[.pointer (some ⟨rb, 0, none⟩), .string s] w (RDone w base P rb (removeS S s) (.int .i64 (syncC S s))) := by
  have HP := Lib.hid (fun (cc : Int) (w' : World) (S' : St) (hc : cc = syncC S s) (hS : S' = removeS S s) (hl : RefLeft w w' base P rb S') => show RDone w base P rb (removeS S s) (.int .i64 (syncC S s)) (.returned (.int .i64 cc)) w' from ⟨by rw [hc], hS ▸ hl⟩)
  generalize RDone w base P rb (removeS S s) (.int .i64 (syncC S s)) = post at *
  have HA := Lib.hid (asked_any h s true hs)
  have HD := Lib.hid h
  have HOK := Lib.hid hok
  have HPP := Lib.hid hP
  have HST := Lib.hid hst
  clear h hok hP hst
  by_cases hc : refC S [s] = 0
  · cases hg : get S.fs s with
    | none =>
      rw [askC_none hc hg] at HA
      have HQ := Lib.hid (HP.out 5 w S (by unfold syncC; rw [if_neg (by simpa using hc), hg]) (by unfold removeS; rw [if_neg (by simpa using hc), hg]) (RefLeft.same HD.out))
      clear hc hg HP
      go_enter Try.func32, Try.ntmps32
      go_wp2_with fail
      refine HA.out.mono ?_
      rintro e w1 ⟨rfl, rfl⟩
      go_wp2
      exact HQ.out
    | some f =>
      rw [askC_true hc f hg] at HA
      have HFL := Lib.hid (rfails_any HD.out HST.out HOK.out.arm)
      by_cases ha : S.armed = some 0
      · rw [show decide (S.armed = some 0) = true from decide_eq_true ha] at HFL
        have HFIN := Lib.hid (fun (w7 : World) (hl : RefLeft w w7 base P rb (stepS (plus1 S))) => HP.out 40 w7 _ (by unfold syncC; rw [if_neg (by simpa using hc), hg]; unfold stepC; rw [if_pos ha]) (by unfold removeS; rw [if_neg (by simpa using hc), hg]; dsimp only; rw [stepEnd_no ha]) hl)
        clear hc hg HP ha
        go_enter Try.func32, Try.ntmps32
        go_wp2_with fail
        refine HA.out.mono ?_
        rintro e w1 ⟨rfl, rfl⟩
        go_wp2_with fail
        refine HFL.out.mono ?_
        rintro e w2 ⟨rfl, hl2⟩
        have HQ := Lib.hid (HFIN.out w2 hl2)
        clear hl2 HFIN HFL
        go_wp2
        exact HQ.out
      · rw [show decide (S.armed = some 0) = false from decide_eq_false ha] at HFL
        have HFIN := Lib.hid (fun (w7 : World) (hl : RefLeft w w7 base P rb { stepS (plus1 S) with fs := drop (stepS (plus1 S)).fs s }) => HP.out 0 w7 _ (by unfold syncC; rw [if_neg (by simpa using hc), hg]; unfold stepC; rw [if_neg ha]) (by unfold removeS; rw [if_neg (by simpa using hc), hg]; dsimp only; rw [stepEnd_yes ha, (stepS_same S).1, stepS_with]) hl)
        clear hc hg HP ha
        go_enter Try.func32, Try.ntmps32
        go_wp2_with fail
        refine HA.out.mono ?_
        rintro e w1 ⟨rfl, rfl⟩
        go_wp2_with fail
        refine HFL.out.mono ?_
        rintro e w2 ⟨rfl, hl2⟩
        have HDR := Lib.hid (rdrop_any hl2.ref s (by rw [(stepS_same S).1]; exact HOK.out.sorted) (by rw [(stepS_same S).1]; exact Nat.le_trans HOK.out.few HOK.out.low) (fun b hb => HPP.out b (Nat.le_trans hl2.ch.size hb)))
        have HL2 := Lib.hid hl2
        clear hl2 HFL
        go_wp2_with fail
        refine HDR.out.mono ?_
        rintro e w3 ⟨rfl, hl3⟩
        have HQ := Lib.hid (HFIN.out w3 (HL2.out.trans hl3))
        clear hl3 HFIN HDR HL2
        go_wp2
        exact HQ.out
  · rw [askC_bad hc] at HA
    have HQ := Lib.hid (HP.out (refC S [s]) w S (by unfold syncC; rw [if_pos hc]) (by unfold removeS; rw [if_pos hc]) (RefLeft.same HD.out))
    obtain ⟨cc, hcc⟩ : ∃ cc, cc = refC S [s] := ⟨_, rfl⟩
    rw [← hcc] at HQ HA hc
    have hc1 : (cc == 0) = false := by simpa using hc
    have hc2 : (cc != 0) = true := by simpa using hc
    clear hcc HP hc
    go_enter Try.func32, Try.ntmps32
    go_wp2_with fail
    refine HA.out.mono ?_
    rintro e w1 ⟨rfl, rfl⟩
    go_wp2
    exact HQ.out
set_option maxRecDepth 100000 in
set_option maxHeartbeats 4000000 in
theorem rcut_any {w : World} {base rb : Nat} {P : Nat → Prop} {S : St} (h : RefAt w base P rb S) (hok : Ok S) (s : ByteArray) (k : Int) (hs : s.size ≤ maxLen) (hst : S.steps < 1000000000) (hP : ∀ b, w.heap.size ≤ b → P b) :
    Calls Try.prog 30 #[.pointer (some ⟨rb, 0, none⟩), .string s, .int .i64 k] w (RDone w base P rb (cutS S s k) (.int .i64 (cutC S s k))) := by
  have HP := Lib.hid (fun (cc : Int) (w' : World) (S' : St) (hc : cc = cutC S s k) (hS : S' = cutS S s k) (hl : RefLeft w w' base P rb S') => show RDone w base P rb (cutS S s k) (.int .i64 (cutC S s k)) (.returned (.int .i64 cc)) w' from ⟨by rw [hc], hS ▸ hl⟩)
  generalize RDone w base P rb (cutS S s k) (.int .i64 (cutC S s k)) = post at *
  have HA := Lib.hid (asked_any h s true hs)
  have HD := Lib.hid h
  have HOK := Lib.hid hok
  have HPP := Lib.hid hP
  have HST := Lib.hid hst
  clear h hok hP hst
  by_cases hc : refC S [s] = 0
  · cases hg : get S.fs s with
    | none =>
      rw [askC_none hc hg] at HA
      have HQ := Lib.hid (HP.out 5 w S (by unfold cutC; rw [if_neg (by simpa using hc), hg]) (by unfold cutS; rw [if_neg (by simpa using hc), hg]) (RefLeft.same HD.out))
      clear hc hg HP
      go_enter Try.func30, Try.ntmps30
      go_wp2_with fail
      refine HA.out.mono ?_
      rintro e w1 ⟨rfl, rfl⟩
      go_wp2
      exact HQ.out
    | some f =>
      rw [askC_true hc f hg] at HA
      have HG := Lib.hid (rget_any HD.out s)
      have hfl := HOK.out.file s f hg
      have hgf : getF S.fs s = f := by unfold getF; rw [hg]; rfl
      have hfl2 := hfl.2.2.1
      have HGF := Lib.hid hgf
      have HC := Lib.hid hc
      have HGG := Lib.hid hg
      clear hfl hgf hc hg
      go_enter Try.func30, Try.ntmps30
      go_wp2_with fail
      refine HA.out.mono ?_
      rintro e w1 ⟨rfl, rfl⟩
      go_wp2_with fail
      refine HG.out.mono ?_
      rintro e w1 ⟨v, rfl, hv, vs, T, hw1⟩
      rw [HGF.out] at hv ⊢
      obtain ⟨Av, cv, hvv, hvc, hvm⟩ := hv.slice
      subst hvv
      have HV := Lib.hid hv
      have hsz1 : w1.heap.size = w.heap.size + 1 := by rw [hw1]; simp
      have hb1 : Below w.heap.size w w1 := by rw [hw1]; exact (Below.refl _ _).alloc (Nat.le_refl _) _
      obtain ⟨W2, hW2⟩ : ∃ W2, W2 = w1.alloc (.cells #[.string s, .slice Av f.b.length cv, .int .i64 (f.sure : Int), .bool f.ever] 66) := ⟨_, rfl⟩
      have hb2 : Below w.heap.size w W2 := by rw [hW2]; exact hb1.alloc (by omega) _
      have hbx : W2.heap[w1.heap.size]? = some (.cells #[.string s, .slice Av f.b.length cv, .int .i64 (f.sure : Int), .bool f.ever] 66 (0, 0)) := by rw [hW2]; exact heap_alloc_new w1 _
      have x1 : W2.cell? ⟨w1.heap.size, 1, none⟩ = some (.slice Av f.b.length cv) := by rw [blk_cell hbx]; rfl
      have HL2 := Lib.hid (RefLeft.below HD.out hb2)
      have HB2 := Lib.hid hb2
      have HBX := Lib.hid (And.intro hbx hsz1)
      unfold maxLen at hvm
      clear hv hw1 hb1 HG HA hsz1 hb2 hbx
      go_upto_region 5 with (fail)
      rw [← hW2]
      clear hW2
      by_cases hbad : k < 0 ∨ (f.b.length : Int) < k
      · have HQ := Lib.hid (HP.out 2 W2 S (by unfold cutC; rw [if_neg (by simpa using HC.out), HGG.out]; dsimp only; rw [if_pos hbad]) (by unfold cutS; rw [if_neg (by simpa using HC.out), HGG.out]; dsimp only; rw [if_pos hbad]) HL2.out)
        clear HP
        by_cases hneg : k < 0
        · clear hbad
          go_wp2
          exact HQ.out
        · have hlt : (f.b.length : Int) < k := by omega
          clear hbad
          go_wp2
          exact HQ.out
      · obtain ⟨m, rfl⟩ : ∃ m : Nat, k = (m : Int) := ⟨k.toNat, by omega⟩
        have hml : m ≤ f.b.length := by omega
        have hcap : f.b.length ≤ cv := hvc
        have HFL := Lib.hid (rfails_any HL2.out.ref HST.out HOK.out.arm)
        by_cases ha : S.armed = some 0
        · rw [show decide (S.armed = some 0) = true from decide_eq_true ha] at HFL
          have HFIN := Lib.hid (fun (w7 : World) (hl : RefLeft w w7 base P rb (stepS (plus1 S))) => HP.out 40 w7 _ (by unfold cutC; rw [if_neg (by simpa using HC.out), HGG.out]; dsimp only; rw [if_neg hbad]; unfold stepC; rw [if_pos ha]) (by unfold cutS; rw [if_neg (by simpa using HC.out), HGG.out]; dsimp only; rw [if_neg hbad, stepEnd_no ha]) hl)
          clear HP ha hbad
          go_wp2_with fail
          refine HFL.out.mono ?_
          rintro e w3 ⟨rfl, hl3⟩
          have HQ := Lib.hid (HFIN.out w3 (HL2.out.trans hl3))
          clear hl3 HFIN HFL
          go_wp2
          exact HQ.out
        · rw [show decide (S.armed = some 0) = false from decide_eq_false ha] at HFL
          have HFIN := Lib.hid (fun (w7 : World) (hl : RefLeft w w7 base P rb { stepS (plus1 S) with fs := put (stepS (plus1 S)).fs s (cutF f m) }) => HP.out 0 w7 _ (by unfold cutC; rw [if_neg (by simpa using HC.out), HGG.out]; dsimp only; rw [if_neg hbad]; unfold stepC; rw [if_neg ha]) (by unfold cutS; rw [if_neg (by simpa using HC.out), HGG.out]; dsimp only; rw [if_neg hbad, stepEnd_yes ha, (stepS_same S).1, stepS_with, Int.toNat_natCast]) hl)
          clear HP ha hbad
          go_wp2_with fail
          refine HFL.out.mono ?_
          rintro e w3 ⟨rfl, hl3⟩
          have hrw : rb < w1.heap.size := by have := HBX.out.2; have := HD.out.lt.1; omega
          have hbx3 := hl3.ch.heap HBX.out.1 (by omega)
          have x3 : w3.cell? ⟨w1.heap.size, 1, none⟩ = some (.slice Av f.b.length cv) := by rw [blk_cell hbx3]; rfl
          have hv3 : BAt w3 (fun b => P b ∧ b ≠ rb) (.slice Av f.b.length cv) f.b := (HV.out.ch (Ch.of_below HB2.out (fun b => b = rb) (fun q hq hge => by omega)) (fun b _ hq => hq.2)).ch hl3.ch (fun b _ hq => hq.2)
          have HPUT := Lib.hid (rput_any hl3.ref s (.slice Av m cv) (cutF f m) (hv3.cut m hml) (by rw [(stepS_same S).1]; exact HOK.out.sorted) (by rw [(stepS_same S).1]; exact Nat.le_trans HOK.out.few HOK.out.low) (fun b hb => HPP.out b (Nat.le_trans (HL2.out.trans hl3).ch.size hb)))
          have HL3 := Lib.hid (HL2.out.trans hl3)
          have hsl : (0 : Int) ≤ (m : Int) ∧ (m : Int) ≤ (cv : Int) := by omega
          clear hl3 HFL hbx3 hv3 x1
          go_wp2_with fail
          refine HPUT.out.mono ?_
          rintro e w4 ⟨rfl, hl4⟩
          have HQ := Lib.hid (HFIN.out w4 (HL3.out.trans hl4))
          clear hl4 HFIN HPUT HL3
          go_wp2
          exact HQ.out
  · rw [askC_bad hc] at HA
    have HQ := Lib.hid (HP.out (refC S [s]) w S (by unfold cutC; rw [if_pos hc]) (by unfold cutS; rw [if_pos hc]) (RefLeft.same HD.out))
    obtain ⟨cc, hcc⟩ : ∃ cc, cc = refC S [s] := ⟨_, rfl⟩
    rw [← hcc] at HQ HA hc
    have hc1 : (cc == 0) = false := by simpa using hc
    have hc2 : (cc != 0) = true := by simpa using hc
    clear hcc HP hc
    go_enter Try.func30, Try.ntmps30
    go_wp2_with fail
    refine HA.out.mono ?_
    rintro e w1 ⟨rfl, rfl⟩
    go_wp2
    exact HQ.out
set_option maxRecDepth 100000 in
set_option maxHeartbeats 4000000 in
theorem rsync_any {w : World} {base rb : Nat} {P : Nat → Prop} {S : St} (h : RefAt w base P rb S) (hok : Ok S) (s : ByteArray) (hs : s.size ≤ maxLen) (hst : S.steps < 1000000000) (hP : ∀ b, w.heap.size ≤ b → P b) :
    Calls Try.prog 29 #[.pointer (some ⟨rb, 0, none⟩), .string s] w (RDone w base P rb (syncS S s) (.int .i64 (syncC S s))) := by
  have HP := Lib.hid (fun (cc : Int) (w' : World) (S' : St) (hc : cc = syncC S s) (hS : S' = syncS S s) (hl : RefLeft w w' base P rb S') => show RDone w base P rb (syncS S s) (.int .i64 (syncC S s)) (.returned (.int .i64 cc)) w' from ⟨by rw [hc], hS ▸ hl⟩)
  generalize RDone w base P rb (syncS S s) (.int .i64 (syncC S s)) = post at *
  have HA := Lib.hid (asked_any h s true hs)
  have HD := Lib.hid h
  have HOK := Lib.hid hok
  have HPP := Lib.hid hP
  have HST := Lib.hid hst
  clear h hok hP hst
  by_cases hc : refC S [s] = 0
  · cases hg : get S.fs s with
    | none =>
      rw [askC_none hc hg] at HA
      have HQ := Lib.hid (HP.out 5 w S (by unfold syncC; rw [if_neg (by simpa using hc), hg]) (by unfold syncS; rw [if_neg (by simpa using hc), hg]) (RefLeft.same HD.out))
      clear hc hg HP
      go_enter Try.func29, Try.ntmps29
      go_wp2_with fail
      refine HA.out.mono ?_
      rintro e w1 ⟨rfl, rfl⟩
      go_wp2
      exact HQ.out
    | some f =>
      rw [askC_true hc f hg] at HA
      have HG := Lib.hid (rget_any HD.out s)
      have hgf : getF S.fs s = f := by unfold getF; rw [hg]; rfl
      have HGF := Lib.hid hgf
      have HEQ := Lib.hid (show cutC S s (f.b.length : Int) = syncC S s ∧ cutS S s (f.b.length : Int) = syncS S s from by
        unfold cutC cutS syncC syncS
        rw [if_neg (by simpa using hc), if_neg (by simpa using hc), if_neg (by simpa using hc), if_neg (by simpa using hc), hg]
        dsimp only
        rw [if_neg (by omega), if_neg (by omega), Int.toNat_natCast]
        refine ⟨rfl, ?_⟩
        unfold cutF settleF
        rw [List.take_length])
      clear hgf hc hg
      go_enter Try.func29, Try.ntmps29
      go_wp2_with fail
      refine HA.out.mono ?_
      rintro e w1 ⟨rfl, rfl⟩
      go_wp2_with fail
      refine HG.out.mono ?_
      rintro e w1 ⟨v, rfl, hv, vs, T, hw1⟩
      rw [HGF.out] at hv ⊢
      obtain ⟨Av, cv, hvv, hvc, hvm⟩ := hv.slice
      subst hvv
      have hb1 : Below w.heap.size w w1 := by rw [hw1]; exact (Below.refl _ _).alloc (Nat.le_refl _) _
      have hl1 := RefLeft.below HD.out hb1
      have HCUT := Lib.hid (rcut_any hl1.ref HOK.out s (f.b.length : Int) hs HST.out (fun b hb => HPP.out b (Nat.le_trans hb1.size hb)))
      have HL1 := Lib.hid hl1
      clear hv hw1 hb1 HG HA hl1
      have hfld := field_b
      go_wp2_with fail
      refine HCUT.out.mono ?_
      rintro e w4 ⟨rfl, hl4⟩
      have HQ := Lib.hid (HP.out _ w4 _ HEQ.out.1 HEQ.out.2 (HL1.out.trans hl4))
      clear hl4 HP HCUT HL1
      go_wp2
      exact HQ.out
  · rw [askC_bad hc] at HA
    have HQ := Lib.hid (HP.out (refC S [s]) w S (by unfold syncC; rw [if_pos hc]) (by unfold syncS; rw [if_pos hc]) (RefLeft.same HD.out))
    obtain ⟨cc, hcc⟩ : ∃ cc, cc = refC S [s] := ⟨_, rfl⟩
    rw [← hcc] at HQ HA hc
    have hc1 : (cc == 0) = false := by simpa using hc
    have hc2 : (cc != 0) = true := by simpa using hc
    clear hcc HP hc
    go_enter Try.func29, Try.ntmps29
    go_wp2_with fail
    refine HA.out.mono ?_
    rintro e w1 ⟨rfl, rfl⟩
    go_wp2
    exact HQ.out
end Go.Proofs.Ytfgbaigpmhnoaaa
