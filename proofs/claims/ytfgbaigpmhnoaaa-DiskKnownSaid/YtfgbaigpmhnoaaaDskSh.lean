/- disk: the reference's Rename, Read, New. -/
import Derived.Test.YtfgbaigpmhnoaaaDmSg
set_option linter.unusedVariables false
set_option linter.unusedSimpArgs false
namespace Go.Proofs.Ytfgbaigpmhnoaaa
open Go.RowKit Go.BigFrame Go.Maps
open Dsk (Fl St Ok get put drop used)

/-- Two rows of files, rising, with the same files are one. -/
theorem fs_ext : ∀ {a b : Dsk.FS}, Dsk.Sorted a → Dsk.Sorted b → (∀ x, get a x = get b x) → a = b
  | [], [], _, _, _ => rfl
  | [], (u, g) :: b, _, _, h => by have := h u; simp [Dsk.get] at this
  | (t, f) :: a, [], _, _, h => by have := h t; simp [Dsk.get] at this
  | (t, f) :: a, (u, g) :: b, ha, hb, h => by
    obtain ⟨a1, a2⟩ := List.pairwise_cons.1 ha
    obtain ⟨b1, b2⟩ := List.pairwise_cons.1 hb
    have hta : get ((t, f) :: a) t = some f := by simp [Dsk.get]
    have hub : get ((u, g) :: b) u = some g := by simp [Dsk.get]
    have e : t = u := by
      by_cases e : t = u
      · exact e
      · rcases Dsk.ltB_total e with hl | hl
        · have : get ((u, g) :: b) t = none := Dsk.get_low _ _ fun p hp => by
            rcases List.mem_cons.1 hp with rfl | hp
            · exact hl
            · exact Dsk.ltB_trans hl (b1 p hp)
          rw [← h t, hta] at this; cases this
        · have : get ((t, f) :: a) u = none := Dsk.get_low _ _ fun p hp => by
            rcases List.mem_cons.1 hp with rfl | hp
            · exact hl
            · exact Dsk.ltB_trans hl (a1 p hp)
          rw [h u, hub] at this; cases this
    subst e
    have e2 : f = g := by have := h t; rw [hta, hub] at this; exact Option.some.inj this
    subst e2
    congr 1
    refine fs_ext a2 b2 fun x => ?_
    by_cases e : t = x
    · subst e
      rw [Dsk.get_low a t a1, Dsk.get_low b t b1]
    · have := h x
      simpa [Dsk.get, e] using this
theorem ren_eq {fs : Dsk.FS} (h : Dsk.Sorted fs) (s t : ByteArray) (g : Fl) : put (drop fs s) t (settleF g) = renFs fs s t g := by
  unfold renFs
  by_cases e : s = t
  · rw [if_pos e]
    subst e
    refine fs_ext (Dsk.Sorted.put _ _ _ (Dsk.Sorted.drop _ _ h)) (Dsk.Sorted.put _ _ _ h) fun x => ?_
    by_cases ex : x = s
    · subst ex; rw [Dsk.get_put_same, Dsk.get_put_same]
    · rw [Dsk.get_put_other _ _ _ _ ex, Dsk.get_put_other _ _ _ _ ex, Dsk.get_drop_other _ _ _ ex]
  · rw [if_neg e]
    refine fs_ext (Dsk.Sorted.put _ _ _ (Dsk.Sorted.drop _ _ h)) (Dsk.Sorted.put _ _ _ (Dsk.Sorted.drop _ _ (Dsk.Sorted.drop _ _ (Dsk.Sorted.put _ _ _ h)))) fun x => ?_
    by_cases ex : x = t
    · subst ex; rw [Dsk.get_put_same, Dsk.get_put_same]
    · rw [Dsk.get_put_other _ _ _ _ ex, Dsk.get_put_other _ _ _ _ ex]
      by_cases es : x = s
      · subst es
        rw [Dsk.get_drop_same _ _ h, Dsk.get_drop_same _ _ (Dsk.Sorted.drop _ _ (Dsk.Sorted.put _ _ _ h))]
      · rw [Dsk.get_drop_other _ _ _ es, Dsk.get_drop_other _ _ _ es, Dsk.get_drop_other _ _ _ ex, Dsk.get_put_other _ _ _ _ es]
set_option maxRecDepth 100000 in
set_option maxHeartbeats 4000000 in
theorem rrename_any {w : World} {base rb : Nat} {P : Nat → Prop} {S : St} (h : RefAt w base P rb S) (hok : Ok S) (s : ByteArray) (t : ByteArray) (ht : t.size ≤ maxLen) (hs : s.size ≤ maxLen) (hst : S.steps < 1000000000) (hP : ∀ b, w.heap.size ≤ b → P b) :
    Calls Try.prog 31 #[.pointer (some ⟨rb, 0, none⟩), .string s, .string t] w (RDone w base P rb (renameS S s t) (.int .i64 (renameC S s t))) := by
  have HP := Lib.hid (fun (cc : Int) (w' : World) (S' : St) (hc : cc = renameC S s t) (hS : S' = renameS S s t) (hl : RefLeft w w' base P rb S') => show RDone w base P rb (renameS S s t) (.int .i64 (renameC S s t)) (.returned (.int .i64 cc)) w' from ⟨by rw [hc], hS ▸ hl⟩)
  generalize RDone w base P rb (renameS S s t) (.int .i64 (renameC S s t)) = post at *
  have HA := Lib.hid (asked_any h s true hs)
  have HD := Lib.hid h
  have HOK := Lib.hid hok
  have HPP := Lib.hid hP
  have HST := Lib.hid hst
  clear h hok hP hst
  obtain ⟨fv, iv, es, hri⟩ := HD.out
  have c5 := hri.cells.2.2.2.2.2
  clear hri
  have HN := Lib.hid (rname_any t w ht)
  cases hoff : S.off with
  | true =>
    rw [hoff] at c5
    have hr1 : refC S [s] = 40 := by unfold refC; rw [if_pos hoff]
    have hr2 : refC S [s, t] = 40 := by unfold refC; rw [if_pos hoff]
    rw [askC_bad (by rw [hr1]; decide), hr1] at HA
    have HQ := Lib.hid (HP.out 40 w S (by unfold renameC; rw [if_pos (by rw [hr2]; decide), hr2]) (by unfold renameS; rw [if_pos (by rw [hr2]; decide)]) (RefLeft.same HD.out))
    clear hr1 hr2 hoff HP
    go_enter Try.func31, Try.ntmps31
    go_wp2_with fail
    refine HA.out.mono ?_
    rintro e w1 ⟨rfl, rfl⟩
    go_wp2
    exact HQ.out
  | false =>
    rw [hoff] at c5
    cases hnt : nameOk t with
    | false =>
      rw [hnt] at HN
      have hr2 : refC S [s, t] = 2 := by unfold refC; rw [if_neg (by rw [hoff]; simp), if_neg (by simp [hnt])]
      have HQ := Lib.hid (HP.out 2 w S (by unfold renameC; rw [if_pos (by rw [hr2]; decide), hr2]) (by unfold renameS; rw [if_pos (by rw [hr2]; decide)]) (RefLeft.same HD.out))
      clear hr2 hoff hnt HP
      go_enter Try.func31, Try.ntmps31
      go_wp2_with fail
      refine HN.out.mono ?_
      rintro e w1 ⟨rfl, rfl⟩
      go_wp2
      exact HQ.out
    | true =>
      rw [hnt] at HN
      have hr2 : refC S [s, t] = refC S [s] := by unfold refC; simp [hoff, hnt]
      by_cases hc : refC S [s] = 0
      · cases hg : get S.fs s with
        | none =>
          rw [askC_none hc hg] at HA
          have HQ := Lib.hid (HP.out 5 w S (by unfold renameC; rw [if_neg (by rw [hr2]; simpa using hc), hg]) (by unfold renameS; rw [if_neg (by rw [hr2]; simpa using hc), hg]) (RefLeft.same HD.out))
          clear hc hg HP hoff hnt hr2
          go_enter Try.func31, Try.ntmps31
          go_wp2_with fail
          refine HN.out.mono ?_
          rintro e w1 ⟨rfl, rfl⟩
          go_wp2_with fail
          refine HA.out.mono ?_
          rintro e w1 ⟨rfl, rfl⟩
          go_wp2
          exact HQ.out
        | some f =>
          rw [askC_true hc f hg] at HA
          have HFL := Lib.hid (rfails_any HD.out HST.out HOK.out.arm)
          by_cases ha : S.armed = some 0
          · rw [show decide (S.armed = some 0) = true from decide_eq_true ha] at HFL
            have HFIN := Lib.hid (fun (w7 : World) (hl : RefLeft w w7 base P rb (stepS (plus1 S))) => HP.out 40 w7 _ (by unfold renameC; rw [if_neg (by rw [hr2]; simpa using hc), hg]; unfold stepC; rw [if_pos ha]) (by unfold renameS; rw [if_neg (by rw [hr2]; simpa using hc), hg]; dsimp only; rw [stepEnd_no ha]) hl)
            clear hc hg HP ha hoff hnt hr2
            go_enter Try.func31, Try.ntmps31
            go_wp2_with fail
            refine HN.out.mono ?_
            rintro e w1 ⟨rfl, rfl⟩
            go_wp2_with fail
            refine HA.out.mono ?_
            rintro e w1 ⟨rfl, rfl⟩
            go_wp2_with fail
            refine HFL.out.mono ?_
            rintro e w2 ⟨rfl, hl2⟩
            have HQ := Lib.hid (HFIN.out w2 hl2)
            clear hl2 HFIN HFL
            go_wp2
            exact HQ.out
          · rw [show decide (S.armed = some 0) = false from decide_eq_false ha] at HFL
            have hss := stepS_same S
            have hgf : getF S.fs s = f := by unfold getF; rw [hg]; rfl
            have HFIN := Lib.hid (fun (w7 : World) (hl : RefLeft w w7 base P rb { stepS (plus1 S) with fs := put (drop (stepS (plus1 S)).fs s) t (settleF f) }) => HP.out 0 w7 _ (by unfold renameC; rw [if_neg (by rw [hr2]; simpa using hc), hg]; unfold stepC; rw [if_neg ha]) (by unfold renameS; rw [if_neg (by rw [hr2]; simpa using hc), hg]; dsimp only; rw [stepEnd_yes ha, hss.1, stepS_with, ren_eq HOK.out.sorted]) hl)
            have hfl2 := (HOK.out.file s f hg).2.2.1
            have HGF := Lib.hid hgf
            have HSS := Lib.hid hss
            clear hc hg HP ha hoff hnt hr2 hss hgf
            go_enter Try.func31, Try.ntmps31
            go_wp2_with fail
            refine HN.out.mono ?_
            rintro e w1 ⟨rfl, rfl⟩
            go_wp2_with fail
            refine HA.out.mono ?_
            rintro e w1 ⟨rfl, rfl⟩
            go_wp2_with fail
            refine HFL.out.mono ?_
            rintro e w2 ⟨rfl, hl2⟩
            have HG := Lib.hid (rget_any hl2.ref s)
            have HL2 := Lib.hid hl2
            clear hl2 HFL
            go_wp2_with fail
            refine HG.out.mono ?_
            rintro e w3 ⟨v, rfl, hv, vs, T, hw3⟩
            rw [show getF (stepS (plus1 S)).fs s = f by rw [HSS.out.1]; exact HGF.out] at hv ⊢
            obtain ⟨Av, cv, hvv, hvc, hvm⟩ := hv.slice
            subst hvv
            have HV := Lib.hid hv
            have hsz3 : w3.heap.size = w2.heap.size + 1 := by rw [hw3]; simp
            have hb3 : Below w2.heap.size w2 w3 := by rw [hw3]; exact (Below.refl _ _).alloc (Nat.le_refl _) _
            obtain ⟨W4, hW4⟩ : ∃ W4, W4 = w3.alloc (.cells #[.string s, .slice Av f.b.length cv, .int .i64 (f.sure : Int), .bool f.ever] 66) := ⟨_, rfl⟩
            have hb4 : Below w2.heap.size w2 W4 := by rw [hW4]; exact hb3.alloc (by omega) _
            have hbx : W4.heap[w3.heap.size]? = some (.cells #[.string s, .slice Av f.b.length cv, .int .i64 (f.sure : Int), .bool f.ever] 66 (0, 0)) := by rw [hW4]; exact heap_alloc_new w3 _
            have hl4 := RefLeft.below HL2.out.ref hb4
            have HDR := Lib.hid (rdrop_any hl4.ref s (by rw [HSS.out.1]; exact HOK.out.sorted) (by rw [HSS.out.1]; exact Nat.le_trans HOK.out.few HOK.out.low) (fun b hb => HPP.out b (Nat.le_trans (HL2.out.trans hl4).ch.size hb)))
            have HL4 := Lib.hid (HL2.out.trans hl4)
            have HB4 := Lib.hid hb4
            have HBX := Lib.hid (And.intro hbx hsz3)
            unfold maxLen at hvm
            clear hv hw3 hb3 HG HA hsz3 hb4 hbx hl4
            go_upto_region 9 with (fail)
            rw [← hW4]
            clear hW4
            go_wp2_with fail
            refine HDR.out.mono ?_
            rintro e w5 ⟨rfl, hl5⟩
            have hr2 : rb < w3.heap.size := by have := HL2.out.ref.lt.1; have := HBX.out.2; omega
            have hbx5 := hl5.ch.heap HBX.out.1 (by omega)
            have x1 : w5.cell? ⟨w3.heap.size, 1, none⟩ = some (.slice Av f.b.length cv) := by rw [blk_cell hbx5]; rfl
            have hv5 : BAt w5 (fun b => P b ∧ b ≠ rb) (.slice Av f.b.length cv) (settleF f).b := (HV.out.ch (Ch.of_below HB4.out (fun b => b = rb) (fun q hq hge => by have := HL2.out.ref.lt.1; omega)) (fun b _ hq => hq.2)).ch hl5.ch (fun b _ hq => hq.2)
            have HPUT := Lib.hid (rput_any hl5.ref t (.slice Av f.b.length cv) (settleF f) hv5 (by show Dsk.Sorted (drop _ _); rw [HSS.out.1]; exact Dsk.Sorted.drop _ _ HOK.out.sorted) (by show (drop _ _).length ≤ _; rw [HSS.out.1]; exact Nat.le_trans (Dsk.len_drop _ _) (Nat.le_trans HOK.out.few HOK.out.low)) (fun b hb => HPP.out b (Nat.le_trans (HL4.out.trans hl5).ch.size hb)))
            have HL5 := Lib.hid (HL4.out.trans hl5)
            clear hl5 HDR hbx5 hv5
            go_wp2_with fail
            refine HPUT.out.mono ?_
            rintro e w6 ⟨rfl, hl6⟩
            have HQ := Lib.hid (HFIN.out w6 (HL5.out.trans hl6))
            clear hl6 HFIN HPUT HL5
            go_wp2
            exact HQ.out
      · have hr3 : refC S [s, t] ≠ 0 := by rw [hr2]; exact hc
        rw [askC_bad hc] at HA
        have HQ := Lib.hid (HP.out (refC S [s]) w S (by unfold renameC; rw [if_pos hr3, hr2]) (by unfold renameS; rw [if_pos hr3]) (RefLeft.same HD.out))
        obtain ⟨cc, hcc⟩ : ∃ cc, cc = refC S [s] := ⟨_, rfl⟩
        rw [← hcc] at HQ HA hc
        have hc1 : (cc == 0) = false := by simpa using hc
        have hc2 : (cc != 0) = true := by simpa using hc
        clear hcc HP hc hr2 hr3 hoff hnt
        go_enter Try.func31, Try.ntmps31
        go_wp2_with fail
        refine HN.out.mono ?_
        rintro e w1 ⟨rfl, rfl⟩
        go_wp2_with fail
        refine HA.out.mono ?_
        rintro e w1 ⟨rfl, rfl⟩
        go_wp2
        exact HQ.out

def RReadPost (w : World) (Q : Nat → Prop) (S : St) (s : ByteArray) (e : Ending) (w' : World) : Prop := Below w.heap.size w w' ∧ ∃ v', e = .returned (.tuple #[v', .int .i64 (readC S s)]) ∧ BAt w' Q v' (readB S s)
set_option maxRecDepth 100000 in
set_option maxHeartbeats 1600000 in
theorem rread_any {w : World} {base rb : Nat} {P : Nat → Prop} {S : St} (h : RefAt w base P rb S) (s : ByteArray) (hs : s.size ≤ maxLen) :
    Calls Try.prog 33 #[.pointer (some ⟨rb, 0, none⟩), .string s] w (RReadPost w (fun b => P b ∧ b ≠ rb) S s) := by
  have HP := Lib.hid (fun (c : Int) (v' : Value) (l : List Nat) (w' : World) (hc : c = readC S s) (hl : l = readB S s) (hb : Below w.heap.size w w') (ho : BAt w' (fun b => P b ∧ b ≠ rb) v' l) => show RReadPost w (fun b => P b ∧ b ≠ rb) S s (.returned (.tuple #[v', .int .i64 c])) w' from ⟨hb, v', by rw [hc], by rw [← hl]; exact ho⟩)
  generalize RReadPost w (fun b => P b ∧ b ≠ rb) S s = post at *
  have HA := Lib.hid (asked_any h s true hs)
  have HD := Lib.hid h
  clear h hs
  by_cases hc : refC S [s] = 0
  · cases hg : get S.fs s with
    | none =>
      rw [askC_none hc hg] at HA
      have HQ := Lib.hid (HP.out 5 (.slice none 0 0) [] w (by unfold readC; rw [if_neg (by simpa using hc), hg]) (by unfold readB getF; rw [if_neg (by simpa using hc), hg]; rfl) (Below.refl _ _) (BAt.nil _ _))
      clear hc hg HP
      go_enter Try.func33, Try.ntmps33
      go_wp2_with fail
      refine HA.out.mono ?_
      rintro e w1 ⟨rfl, rfl⟩
      go_wp2
      exact HQ.out
    | some f =>
      rw [askC_true hc f hg] at HA
      have HG := Lib.hid (rget_any HD.out s)
      have hgf : getF S.fs s = f := by unfold getF; rw [hg]; rfl
      have HFIN := Lib.hid (fun (w' : World) (v' : Value) (hb : Below w.heap.size w w') (ho : BAt w' (fun b => P b ∧ b ≠ rb) v' f.b) => HP.out 0 v' f.b w' (by unfold readC; rw [if_neg (by simpa using hc), hg]) (by unfold readB; rw [if_neg (by simpa using hc), hgf]) hb ho)
      have HGF := Lib.hid hgf
      clear hgf hc hg HP
      go_enter Try.func33, Try.ntmps33
      go_wp2_with fail
      refine HA.out.mono ?_
      rintro e w1 ⟨rfl, rfl⟩
      go_wp2_with fail
      refine HG.out.mono ?_
      rintro e w1 ⟨v, rfl, hv, vs, T, hw1⟩
      rw [HGF.out] at hv ⊢
      obtain ⟨Av, cv, hvv, hvc, hvm⟩ := hv.slice
      subst hvv
      have hb1 : Below w.heap.size w w1 := by rw [hw1]; exact (Below.refl _ _).alloc (Nat.le_refl _) _
      have HQ := Lib.hid (HFIN.out w1 _ hb1 (hv.ch (Ch.of_below hb1 (fun _ => False) (fun q hq hge => by omega)) (fun _ _ _ h => h)))
      have hfld := field_b
      clear hv hw1 hb1 HG HA HFIN
      go_wp2
      exact HQ.out
  · rw [askC_bad hc] at HA
    have HQ := Lib.hid (HP.out (refC S [s]) (.slice none 0 0) [] w (by unfold readC; rw [if_pos hc]) (by unfold readB; rw [if_pos hc]) (Below.refl _ _) (BAt.nil _ _))
    obtain ⟨cc, hcc⟩ : ∃ cc, cc = refC S [s] := ⟨_, rfl⟩
    rw [← hcc] at HQ HA hc
    have hc1 : (cc == 0) = false := by simpa using hc
    have hc2 : (cc != 0) = true := by simpa using hc
    clear hcc HP hc
    go_enter Try.func33, Try.ntmps33
    go_wp2_with fail
    refine HA.out.mono ?_
    rintro e w1 ⟨rfl, rfl⟩
    go_wp2
    exact HQ.out
def RNewPost (w : World) (q : Int) (e : Ending) (w' : World) : Prop := ∃ rb, e = .returned (.pointer (some ⟨rb, 0, none⟩)) ∧ (∀ P : Nat → Prop, RefAt w' w.heap.size P rb ⟨if q ≤ 0 then 0 else q, [], 0, none, false⟩) ∧ Below w.heap.size w w'
set_option maxRecDepth 100000 in
set_option maxHeartbeats 800000 in
theorem rnew_any (q : Int) (w : World) : Calls Try.prog 10 #[.int .i64 q] w (RNewPost w q) := by
  obtain ⟨p, hp⟩ : ∃ p, p = if q ≤ 0 then 0 else q := ⟨_, rfl⟩
  have HQ := Lib.hid (show RNewPost w q (.returned (.pointer (some ⟨w.heap.size, 0, none⟩))) (w.alloc (.cells #[.slice none 0 0, .int .i64 p, .int .i64 0, .bool false, .int .i64 0, .bool false] 61)) from
    ⟨_, rfl, fun P => ⟨.slice none 0 0, 0, [], Nat.le_refl _, by rw [← hp]; exact heap_alloc_new w _, World.ownsRow_nil _ _ _ _, fun g e => (by cases e), fun e he => (by simp at he), rfl, fun k e => (by cases e)⟩, (Below.refl _ _).alloc (Nat.le_refl _) _⟩)
  generalize RNewPost w q = post at *
  have hmx : ∀ (w : World) (ts : Array TypeId) (t : TypeId), (Builtin.max_ ts t #[.int .i64 0, .int .i64 q]).run Try.prog w = .ok (.int .i64 p) w := fun w ts t => by
    rw [run_max_int2]
    congr 2
    rw [hp]
    split <;> split <;> omega
  clear hp
  go_enter Try.func10, Try.ntmps10
  go_wp2
  exact HQ.out
end Go.Proofs.Ytfgbaigpmhnoaaa
