/- disk: DiskKeeps, walked. -/
import Derived.Test.YtfgbaigpmhnoaaaDmS
import Derived.OpenShut
set_option linter.unusedVariables false
set_option linter.unusedSimpArgs false
namespace Go.Proofs.Ytfgbaigpmhnoaaa
open Go.RowKit Go.BigFrame Go.Maps
open Dsk (Fl St Ok get put drop used)

theorem cut_row {w : World} {base n m cap : Nat} {A : Option Addr} {L : List Nat} (h : w.ownsRow base 5 1 (.slice A n cap) n (bvs L)) (hm : m ≤ n) : w.ownsRow base 5 1 (.slice A m cap) m (bvs (L.take m)) := by
  rw [show bvs (L.take m) = (bvs L).take m by simp [bvs]]
  cases A with
  | none =>
    rcases h.2 with ⟨e1, e2⟩ | ⟨g, cap', cur, e1, _⟩
    · simp only [Value.slice.injEq] at e1
      obtain ⟨_, e3, e4⟩ := e1
      obtain rfl : m = 0 := by omega
      rw [e4]
      exact World.ownsRow_nil _ _ _ _
    · cases e1
  | some p => exact own_cut h (by simp) hm
theorem KInv.up {S : St} {L : List Nat} {m c c' : Nat} (h : KInv S L m c) (hc : c ≤ c') : KInv S L m c' := ⟨h.quota, Nat.le_trans h.steps hc, h.fs, h.mle⟩
/-- A row of the law's own, beside the disk. -/
structure AllAt (w : World) (B : Nat) (ro : Nat → Role) (v : Value) (L : List Nat) : Prop where
  own : w.ownsRow B 5 1 v L.length (bvs L)
  free : ∀ g, v.ownBlock = some g → ro g = .none
theorem AllAt.left {w w' : World} {B db : Nat} {ro ro' : Nat → Role} {S' : St} {v : Value} {L : List Nat} (h : AllAt w B ro v L) (hl : Left w w' B db ro S' ro') : AllAt w' B ro' v L :=
  ⟨hl.ch.own h.own fun b hb hO => hO (h.free b hb), fun g hg => by
    by_cases e : ro' g = .none
    · exact e
    · exact absurd (h.free g hg) (hl.sub g (h.own.lt g hg).2 e)⟩
theorem AllAt.grow {w w' : World} {B : Nat} {ro : Nat → Role} {v : Value} {L : List Nat} (h : AllAt w B ro v L) (hb : Below w.heap.size w w') : AllAt w' B ro v L :=
  ⟨(Ch.of_below hb (fun k => w.heap.size ≤ k) fun k _ hk => hk).own h.own fun b hb hM => by have := (h.own.lt b hb).2; omega, h.free⟩
theorem AllAt.app {W0 w w' : World} {B db : Nat} {ro : Nat → Role} {S : St} {v v' : Value} {L l : List Nat} (h : AllAt w B ro v L) (hs : Ses W0 w B db ro S) (ho : w'.ownsRow B 5 1 v' (L.length + l.length) (bvs L ++ cells (fun i => l.getD i 0) l.length)) (hg : w.grownBy w' v.ownBlock) (hm : Moved w v v') :
    AllAt w' B ro v' (L ++ l) ∧ Ses W0 w' B db ro S := by
  refine ⟨⟨by rw [List.length_append, bvs_app, ← bvs_cells l]; exact ho, fun g e => ?_⟩, ⟨hs.disk.ch ((Ch.refl w (fun b => v.ownBlock = some b)).grown hg fun _ _ e => e) fun b hO hM => hO (h.free b hM), hs.below.grown hg hs.size fun g e => (h.own.lt g e).1, Nat.le_trans hs.size hg.size⟩⟩
  rcases hm with e2 | ⟨g', e2, hg'⟩
  · rw [e] at e2; exact h.free g e2.symm
  · rw [e] at e2; cases e2
    exact free_new hs.disk hg'
set_option maxRecDepth 100000 in
set_option maxHeartbeats 8000000 in
theorem keeps_w (w : World) (v0 v1 : Value) (rs : List (List Nat)) (bs : List Bool) (n k : Int) (h0 : RRB w w.heap.size v0 rs) (h1 : RBo w w.heap.size v1 bs) (hn1 : -9223372036854775808 ≤ n) (hn2 : n ≤ 9223372036854775807) :
    Calls Try.prog 4 #[v0, v1, .int .i64 n, .int .i64 k] w (YesPost w) := by
  obtain ⟨i0, hi, hz0, hz1, hz2⟩ := info_parts infoU8
  have HI := Lib.hid (And.intro hi (And.intro hz0 (And.intro hz1 hz2)))
  clear hi hz0 hz1 hz2
  have HP := Lib.hid (fun (w' : World) (hb : Below w.heap.size w w') => show YesPost w (.returned (.bool true)) w' from ⟨rfl, hb⟩)
  generalize YesPost w = post at *
  obtain ⟨A0, c0, rfl, hc00, hc01, hc02⟩ := h0
  obtain ⟨A1, c1, rfl, hc10, hc11, hc12⟩ := h1
  have HR0 := Lib.hid hc02
  have HR1 := Lib.hid hc12
  have HNB := Lib.hid (And.intro hn1 hn2)
  unfold maxLen at hc01 hc11
  clear hc02 hc12 hn1 hn2
  by_cases h40 : 40 < rs.length
  · have HW := Lib.hid (works_any w)
    go_enter Try.func4, Try.ntmps4
    go_wp2_with fail
    refine HW.out.mono ?_
    rintro e w' ⟨rfl, hb⟩
    have HQ := Lib.hid (HP.out _ hb)
    clear hb HW HP
    go_wp2
    exact HQ.out
  · have hl40 : rs.length ≤ 40 := by omega
    have HN := Lib.hid (ses_new w 10000 (by omega) (by omega))
    go_enter Try.func4, Try.ntmps4
    go_wp2_with fail
    refine HN.out.mono ?_
    rintro e w1 ⟨db, ro, rfl, hs⟩
    have HF := Lib.hid (ses_fail hs n HNB.out.1 HNB.out.2)
    clear hs HN
    go_wp2_with fail
    refine HF.out.mono ?_
    rintro e w2 ⟨rfl, ro2, hs2⟩
    have HS2 := Lib.hid hs2
    have HK2 := Lib.hid (show KInv { ({ quota := if (10000 : Int) ≤ 0 then 0 else 10000, fs := [], steps := 0, armed := none, off := false } : St) with armed := armOf n } [] 0 (2 * 0) from ⟨rfl, Nat.le_refl _, .inl ⟨rfl, rfl, rfl⟩, Nat.le_refl _⟩)
    clear hs2 HF h40
    go_wp2
    go_loopw [9, 11, 12, 13] (fun av mv iv _ wr => ∃ (i m : Nat) (L : List Nat) (S : St) (ro : Nat → Role), iv = .int .i64 (i : Int) ∧ mv = .int .i64 (m : Int) ∧ i ≤ rs.length ∧ L.length ≤ 3000 ∧ Hid (KInv S L m (2 * i)) ∧ Hid (Ses w wr w.heap.size db ro S) ∧ Hid (AllAt wr w.heap.size ro av L)) (fun _ _ iv _ _ => rs.length - (intOf iv).toNat)
    case atStart => exact ⟨0, 0, [], _, ro2, rfl, rfl, by omega, by simp, HK2, HS2, Lib.hid ⟨World.ownsRow_nil _ _ _ _, fun g e => by cases e⟩⟩
    case round =>
      clear HK2 HS2
      obtain ⟨i, m, L, S, ro, rfl, rfl, hi, hL, HK, HS, HA⟩ := hrel
      obtain ⟨Aa, ca, rfl⟩ := own_sl HA.out.own
      have hmL := HK.out.mle
      by_cases hlt : i < rs.length
      · obtain ⟨ad, u, rfl, _, hcu, hru⟩ := HR0.out i hlt
        have hcur : wr.cell? (ad.add i) = some u := (HS.out.below.cell (by rw [add_block]; assumption)).trans hcu
        have HRU := Lib.hid (hru.below HS.out.below)
        generalize rs.getD i [] = l at *
        obtain ⟨Ai, ci, rfl, hlc, hcm, hAi, HHi, hl256⟩ := HRU.out
        have HRI := Lib.hid (And.intro hAi (And.intro HHi hl256))
        have HCM := Lib.hid hcm
        unfold maxLen at hcm
        clear hcu hru hAi HHi hl256 HRU
        by_cases hfit : L.length + l.length ≤ 3000
        · cases hoff : S.off with
          | true =>
            have hof := off_any wr w.heap.size db ro S HS.out.disk
            rw [hoff] at hof
            have HOF := Lib.hid hof
            clear hof
            go_wp2_with fail
            refine HOF.out.mono ?_
            rintro e w3 ⟨rfl, rfl⟩
            go_wp2_with fail
            refine HOF.out.mono ?_
            rintro e w3 ⟨rfl, rfl⟩
            go_wp2
            go_roundw
            case rel => exact ⟨i + 1, m, L, S, ro, by go_num, rfl, by omega, hL, Lib.hid (HK.out.up (by omega)), HS, HA⟩
            case measure => simp [intOf]; omega
          | false =>
            have hof := off_any wr w.heap.size db ro S HS.out.disk
            rw [hoff] at hof
            have HOF := Lib.hid hof
            obtain ⟨hk1, hk2, hk3⟩ := HK.out.append hoff hfit
            have HK1 := Lib.hid hk1
            have HK3 := Lib.hid hk3
            have HBN := Lib.hid (fun (hl0 : 0 < l.length) (ad : Addr) (e : Ai = some ad) => show ro ad.block = .none from by
              obtain ⟨ad', e', hb', _⟩ := HRI.out.2.1 hl0
              rw [e] at e'; cases e'
              by_cases hr : ro ad.block = .none
              · exact hr
              · have := own_ge HS.out.disk (show Own ro ad.block from hr); omega)
            have hfew : S.steps ≤ 80 := by have := HK.out.steps; omega
            have hsz := HS.out.size
            clear hof hk1 hk3
            go_wp2_with fail
            refine HOF.out.mono ?_
            rintro e w3 ⟨rfl, rfl⟩
            clear HOF
            go_wp2_with (at_builtin; refine wpList_app_holds rfl _ _ 29 rfl w.heap.size 5 i0 Try.underlying29 HI.out.1 HI.out.2.1 HI.out.2.2.1 HI.out.2.2.2 (.slice Aa L.length ca) L.length (bvs L) rfl HA.out.own w.heap.size Ai l.length ci (fun i => l.getD i 0) rfl HRI.out.2.1 HRI.out.1 hlc ?b5 ?b6 hsz ?_)
            case b5 => unfold maxLen; omega
            case b6 => omega
            intro v4 w4 ho4 hg4 hm4
            obtain ⟨A4, c4, rfl⟩ := own_sl ho4
            obtain ⟨ha4, hs4⟩ := HA.out.app HS.out ho4 hg4 hm4
            have HA4 := Lib.hid ha4
            have hcu4 : w4.cell? (ad.add i) = some (.slice Ai l.length ci) := (((Below.refl w.heap.size w3).grown hg4 hsz fun g e => (HA.out.own.lt g e).1).cell (by rw [add_block]; assumption)).trans hcur
            have hh4 : Holds w4 w.heap.size Ai l.length (fun i => l.getD i 0) := HRI.out.2.1.below ((Below.refl w.heap.size w3).grown hg4 hsz fun g e => (HA.out.own.lt g e).1)
            have HAP := Lib.hid (append_any w4 w.heap.size db ro S nF Ai l.length ci (fun i => l.getD i 0) hs4.disk (by decide) (hh4.more hs4.size) HRI.out.1 hlc HCM.out (fun j => by
              by_cases hj : j < l.length
              · rw [List.getD_eq_getElem?_getD, List.getElem?_eq_getElem hj]; exact HRI.out.2.2 _ (List.getElem_mem _)
              · rw [List.getD_eq_getElem?_getD, List.getElem?_eq_none (by omega)]; decide) hs4.size (by omega) (by
                have : used S.fs = L.length := by rcases HK.out.fs with ⟨e1, e2, _⟩ | ⟨ev, e1⟩ <;> rw [e1] <;> simp [Dsk.used, *]
                omega) HBN.out)
            rw [listD_get] at HAP
            have HS4 := Lib.hid hs4
            clear ho4 hg4 hm4 ha4 hs4 hcur hh4 HA HS HBN HRI HCM HK hlc hcm hoff hfew hsz
            generalize appendC S nF l = cc at *
            generalize hS1 : appendS S nF l = S1 at *
            go_wp2_with fail
            refine HAP.out.mono ?_
            rintro e w5 ⟨rfl, ro5, hl5⟩
            have HA5 := Lib.hid (HA4.out.left hl5)
            have HS5 := Lib.hid (HS4.out.left hl5)
            have hLl : (L ++ l).length = L.length + l.length := List.length_append
            have HLL := Lib.hid hLl
            clear hl5 HAP HA4 HS4 hcu4 hS1
            rw [← hLl] at HA5 ⊢
            have hL1 : (L ++ l).length ≤ 3000 := by omega
            have hm1 : m ≤ (L ++ l).length := by omega
            clear hLl hfit hL hmL
            generalize L ++ l = L1 at *
            have hof5 := off_any w5 w.heap.size db ro5 S1 HS5.out.disk
            rcases hk2 with rfl | rfl
            · cases hoff5 : S1.off with
              | true =>
                rw [hoff5] at hof5
                have HOF := Lib.hid hof5
                clear hof5
                go_wp2_with fail
                refine HOF.out.mono ?_
                rintro e w6 ⟨rfl, rfl⟩
                go_wp2
                go_roundw
                case rel => exact ⟨i + 1, m, L1, S1, ro5, by go_num, rfl, by omega, hL1, Lib.hid (HK1.out.up (by omega)), HS5, HA5⟩
                case measure => simp [intOf]; omega
              | false =>
                rw [hoff5] at hof5
                have HOF := Lib.hid hof5
                have hst5 : S1.steps ≤ 81 := by have := HK1.out.steps; omega
                have HSY := Lib.hid (sync_any w5 w.heap.size db ro5 S1 nF HS5.out.disk (by decide) (by omega))
                have hsyn := HK1.out.sync hoff5 HK3.out
                have HSYN := Lib.hid hsyn
                clear hof5 hsyn
                by_cases hib : i < bs.length
                · obtain ⟨ad1, rfl, hb1, hc1⟩ := HR1.out i hib
                  have hc1' : w5.cell? (ad1.add i) = some (.bool (bs.getD i false)) := (HS5.out.below.cell (by rw [add_block]; exact hb1)).trans hc1
                  clear hc1
                  cases hbv : bs.getD i false with
                  | false =>
                    rw [hbv] at hc1'
                    go_wp2_with fail
                    refine HOF.out.mono ?_
                    rintro e w6 ⟨rfl, rfl⟩
                    go_wp2
                    go_roundw
                    case rel => exact ⟨i + 1, m, L1, S1, ro5, by go_num, rfl, by omega, hL1, Lib.hid (HK1.out.up (by omega)), HS5, HA5⟩
                    case measure => simp [intOf]; omega
                  | true =>
                    rw [hbv] at hc1'
                    go_wp2_with fail
                    refine HOF.out.mono ?_
                    rintro e w6 ⟨rfl, rfl⟩
                    go_wp2_with fail
                    refine HSY.out.mono ?_
                    rintro e w7 ⟨rfl, ro7, hl7⟩
                    have HA7 := Lib.hid (HA5.out.left hl7)
                    have HS7 := Lib.hid (HS5.out.left hl7)
                    clear hl7 HSY HOF HA5 HS5
                    rcases HSYN.out with ⟨hcc, hk7⟩ | ⟨hcc, hk7⟩
                    · have HK7 := Lib.hid hk7
                      rw [hcc]
                      clear hk7 hcc HSYN
                      go_wp2
                      go_roundw
                      case rel => exact ⟨i + 1, L1.length, L1, _, ro7, by go_num, rfl, by omega, hL1, Lib.hid (HK7.out.up (by omega)), HS7, HA7⟩
                      case measure => simp [intOf]; omega
                    · have HK7 := Lib.hid hk7
                      rw [hcc]
                      clear hk7 hcc HSYN
                      go_wp2
                      go_roundw
                      case rel => exact ⟨i + 1, m, L1, _, ro7, by go_num, rfl, by omega, hL1, Lib.hid (HK7.out.up (by omega)), HS7, HA7⟩
                      case measure => simp [intOf]; omega
                · go_wp2_with fail
                  refine HOF.out.mono ?_
                  rintro e w6 ⟨rfl, rfl⟩
                  go_wp2
                  go_roundw
                  case rel => exact ⟨i + 1, m, L1, S1, ro5, by go_num, rfl, by omega, hL1, Lib.hid (HK1.out.up (by omega)), HS5, HA5⟩
                  case measure => simp [intOf]; omega
            · cases hoff5 : S1.off with
              | true =>
                rw [hoff5] at hof5
                have HOF := Lib.hid hof5
                clear hof5
                go_wp2_with fail
                refine HOF.out.mono ?_
                rintro e w6 ⟨rfl, rfl⟩
                go_wp2
                go_roundw
                case rel => exact ⟨i + 1, m, L1, S1, ro5, by go_num, rfl, by omega, hL1, Lib.hid (HK1.out.up (by omega)), HS5, HA5⟩
                case measure => simp [intOf]; omega
              | false =>
                rw [hoff5] at hof5
                have HOF := Lib.hid hof5
                have hst5 : S1.steps ≤ 81 := by have := HK1.out.steps; omega
                have HSY := Lib.hid (sync_any w5 w.heap.size db ro5 S1 nF HS5.out.disk (by decide) (by omega))
                have hsyn := HK1.out.sync hoff5 HK3.out
                have HSYN := Lib.hid hsyn
                clear hof5 hsyn
                by_cases hib : i < bs.length
                · obtain ⟨ad1, rfl, hb1, hc1⟩ := HR1.out i hib
                  have hc1' : w5.cell? (ad1.add i) = some (.bool (bs.getD i false)) := (HS5.out.below.cell (by rw [add_block]; exact hb1)).trans hc1
                  clear hc1
                  cases hbv : bs.getD i false with
                  | false =>
                    rw [hbv] at hc1'
                    go_wp2_with fail
                    refine HOF.out.mono ?_
                    rintro e w6 ⟨rfl, rfl⟩
                    go_wp2
                    go_roundw
                    case rel => exact ⟨i + 1, m, L1, S1, ro5, by go_num, rfl, by omega, hL1, Lib.hid (HK1.out.up (by omega)), HS5, HA5⟩
                    case measure => simp [intOf]; omega
                  | true =>
                    rw [hbv] at hc1'
                    go_wp2_with fail
                    refine HOF.out.mono ?_
                    rintro e w6 ⟨rfl, rfl⟩
                    go_wp2_with fail
                    refine HSY.out.mono ?_
                    rintro e w7 ⟨rfl, ro7, hl7⟩
                    have HA7 := Lib.hid (HA5.out.left hl7)
                    have HS7 := Lib.hid (HS5.out.left hl7)
                    clear hl7 HSY HOF HA5 HS5
                    rcases HSYN.out with ⟨hcc, hk7⟩ | ⟨hcc, hk7⟩
                    · have HK7 := Lib.hid hk7
                      rw [hcc]
                      clear hk7 hcc HSYN
                      go_wp2
                      go_roundw
                      case rel => exact ⟨i + 1, L1.length, L1, _, ro7, by go_num, rfl, by omega, hL1, Lib.hid (HK7.out.up (by omega)), HS7, HA7⟩
                      case measure => simp [intOf]; omega
                    · have HK7 := Lib.hid hk7
                      rw [hcc]
                      clear hk7 hcc HSYN
                      go_wp2
                      go_roundw
                      case rel => exact ⟨i + 1, m, L1, _, ro7, by go_num, rfl, by omega, hL1, Lib.hid (HK7.out.up (by omega)), HS7, HA7⟩
                      case measure => simp [intOf]; omega
                · go_wp2_with fail
                  refine HOF.out.mono ?_
                  rintro e w6 ⟨rfl, rfl⟩
                  go_wp2
                  go_roundw
                  case rel => exact ⟨i + 1, m, L1, S1, ro5, by go_num, rfl, by omega, hL1, Lib.hid (HK1.out.up (by omega)), HS5, HA5⟩
                  case measure => simp [intOf]; omega
        · have HW := Lib.hid (works_any wr)
          have hng : ¬ ((l.length : Int) ≤ 3000 - (L.length : Int)) := by omega
          go_wp2_with fail
          refine HW.out.mono ?_
          rintro e w' ⟨rfl, hb⟩
          have HQ := Lib.hid (HP.out _ (below_step HS.out.below hb HS.out.size))
          clear hb HW HP
          go_wp2
          exact HQ.out
      · obtain rfl : i = rs.length := by omega
        have HL256 := Lib.hid (show ∀ x ∈ L, x < 256 from by
          obtain ⟨mb, nn, D, av, hdi⟩ := HS.out.disk
          rcases HK.out.fs with ⟨_, e, _⟩ | ⟨ev, e⟩
          · intro x hx; rw [e] at hx; simp at hx
          · exact (hdi.ok.file nF ⟨L, m, ev⟩ (by rw [e]; simp [Dsk.get])).2.1)
        have HCR := Lib.hid (crash_any wr w.heap.size db ro S HS.out.disk)
        clear hlt hi
        go_wp2_with fail
        refine HCR.out.mono ?_
        rintro e w5 ⟨rfl, ro5, hl5⟩
        have HS5 := Lib.hid (HS.out.left hl5)
        have HA5 := Lib.hid (HA.out.left hl5)
        clear hl5 HCR HS HA
        have HON := Lib.hid (on_any (w5.alloc (.cells #[.int .i64 k] 3)) w.heap.size db ro5 _ _ 1 [k] (HS5.out.alloc _).disk (keep_lit w5 ro5 [k] #[.int .i64 k] rfl (free_new HS5.out.disk (Nat.le_refl _))) (by simp))
        go_wp2_with fail
        refine HON.out.mono ?_
        rintro e w6 ⟨rfl, ro6, hl6⟩
        have HS6 : Hid (Ses w w6 w.heap.size db ro6 (lastS S k)) := Lib.hid ((HS5.out.alloc _).left hl6)
        have HA6 := Lib.hid ((HA5.out.grow ((Below.refl _ _).alloc (Nat.le_refl _) _)).left hl6)
        clear hl6 HON HS5 HA5
        have HRD := Lib.hid (read_any w6 w.heap.size db ro6 (lastS S k) nF HS6.out.disk (by decide))
        go_wp2_with fail
        refine HRD.out.mono ?_
        rintro e w7 ⟨hb7, v7, rfl, hrow⟩
        have HS7 := Lib.hid (HS6.out.grow hb7)
        have HA7 := Lib.hid (HA6.out.grow hb7)
        clear HRD HS6 HA6 hb7
        rcases HK.out.last k with ⟨hc, rfl, hb⟩ | ⟨j, hc, hb, hmj, hjL⟩
        · rw [hc]
          rw [hb] at hrow
          have hrow0 : w7.ownsRow w6.heap.size 5 1 v7 0 (bvs []) := hrow
          obtain ⟨A7, c7, rfl⟩ := own_sl hrow0
          have HW := Lib.hid (works_any w7)
          clear hc hb hrow hrow0 HK HA7
          go_wp2_with fail
          refine HW.out.mono ?_
          rintro e w8 ⟨rfl, hb8⟩
          have HQ := Lib.hid (HP.out _ (below_step HS7.out.below hb8 HS7.out.size))
          clear hb8 HW HP HS7
          go_wp2
          exact HQ.out
        · rw [hc]
          rw [hb] at hrow
          have hlj : (L.take j).length = j := by rw [List.length_take]; omega
          rw [hlj] at hrow
          have hL256 : ∀ x ∈ L.take j, x < 256 := fun x hx => HL256.out x (List.mem_of_mem_take hx)
          have hcv := conv_row (w := w7.drew) (World.ownsRow.drew hrow) hlj hL256
          have hcv2 := conv_row (w := w7.drew) (World.ownsRow.drew (cut_row HA7.out.own hjL)) hlj hL256
          obtain ⟨A7, c7, rfl⟩ := own_sl hrow
          have HW := Lib.hid (works_any w7.drew)
          generalize strOf ((L.take j).map UInt8.ofNat) = str at *
          have hif : 0 ≤ (j : Int) ∧ (j : Int) ≤ (ca : Int) := by
            have : L.length ≤ ca := by
              rcases HA7.out.own.2 with ⟨e1, e2⟩ | ⟨g, cap', cur, e1, _, _, e3, _⟩
              · omega
              · cases e1; exact e3
            omega
          have HB7 := Lib.hid HS7.out
          clear hc hb hrow hlj hL256 HK HA7 HS7
          go_upto_region 24 with (fail)
          go_still_tail 26, (by kernel_rfl)
          change wpList _ _ _ _ _ w7.drew
          go_wp2_with fail
          refine HW.out.mono ?_
          rintro e w8 ⟨rfl, hb8⟩
          have HQ := Lib.hid (HP.out _ (below_step (HB7.out.below.drew) hb8 HB7.out.size))
          clear hb8 HW HP HB7
          go_wp2
          exact HQ.out
theorem diskKeeps_walk (v0 : Value) (rs : List (List Nat)) (v1 : Value) (bs : List Bool) (n k : Int) (w : World) (h0 : RRB w w.heap.size v0 rs) (h1 : RBo w w.heap.size v1 bs) (hn : (Lit.int .i64 n).wf = true) (_hk : (Lit.int .i64 k).wf = true) :
    Calls Try.prog 4 #[v0, v1, .int .i64 n, .int .i64 k] w fun e w' => e = .returned (.bool true) ∧ Below w.heap.size w w' :=
  (keeps_w w v0 v1 rs bs n k h0 h1 (bounds_i64 hn).1 (bounds_i64 hn).2).mono fun _ _ h => h
end Go.Proofs.Ytfgbaigpmhnoaaa
