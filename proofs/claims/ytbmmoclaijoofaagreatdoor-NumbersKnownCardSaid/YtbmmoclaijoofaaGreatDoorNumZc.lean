/- numbers: the law NumbersKnown, walked. -/
import Derived.Test.YtbmmoclaijoofaaGreatDoorNumZb
import Derived.Test.YtbmmoclaijoofaaGreatDoorNumXb
import Derived.Test.YtbmmoclaijoofaaGreatDoorKeep
import Derived.Deep.RegionHeld3
set_option linter.unusedVariables false
set_option linter.unusedSimpArgs false
namespace Go.Proofs.YtbmmoclaijoofaaGreatDoor
open Go.RowKit Go.BigFrame
open Num (nanB sg rg rv sv tv key eqF ltF cmpI wd infR R53 P0 wholeR flN ONE TWO decS expS textR textN oddM oddE)

/-- The texts that the law asks of. -/
def askL : List ByteArray := [⟨#[]⟩, ⟨#[45]⟩, ⟨#[48]⟩, ⟨#[45, 48]⟩, ⟨#[48, 48]⟩, ⟨#[48, 49]⟩, ⟨#[43, 49]⟩, ⟨#[49, 46, 53]⟩, ⟨#[49, 101, 51]⟩, ⟨#[110, 97, 110]⟩, ⟨#[45, 110, 97, 110]⟩, ⟨#[78, 97, 78]⟩, ⟨#[105, 110, 102]⟩, ⟨#[45, 105, 110, 102]⟩, ⟨#[43, 105, 110, 102]⟩, ⟨#[73, 110, 102]⟩, ⟨#[49, 112]⟩, ⟨#[112, 49]⟩, ⟨#[49, 112, 45, 49]⟩, ⟨#[45, 49, 112, 45, 49]⟩, ⟨#[50, 112, 51]⟩, ⟨#[50, 112, 45, 49]⟩, ⟨#[49, 112, 52]⟩, ⟨#[49, 112, 53, 51]⟩, ⟨#[49, 112, 53, 50]⟩, ⟨#[49, 112, 49, 48, 50, 51]⟩, ⟨#[49, 112, 49, 48, 50, 52]⟩, ⟨#[49, 112, 45, 49, 48, 55, 52]⟩, ⟨#[49, 112, 45, 49, 48, 55, 53]⟩, ⟨#[51, 112, 45, 49, 48, 55, 52]⟩, ⟨#[49, 112, 43, 49]⟩, ⟨#[49, 112, 48, 49]⟩, ⟨#[49, 112, 45, 48]⟩, ⟨#[49, 112, 48]⟩, ⟨#[48, 112, 49]⟩, ⟨#[57, 48, 48, 55, 49, 57, 57, 50, 53, 52, 55, 52, 48, 57, 57, 49]⟩, ⟨#[57, 48, 48, 55, 49, 57, 57, 50, 53, 52, 55, 52, 48, 57, 57, 50]⟩, ⟨#[57, 48, 48, 55, 49, 57, 57, 50, 53, 52, 55, 52, 48, 57, 57, 51, 112, 49]⟩, ⟨#[57, 48, 48, 55, 49, 57, 57, 50, 53, 52, 55, 52, 48, 57, 57, 49, 112, 49]⟩, ⟨#[57, 48, 48, 55, 49, 57, 57, 50, 53, 52, 55, 52, 48, 57, 57, 49, 112, 57, 55, 49]⟩, ⟨#[57, 48, 48, 55, 49, 57, 57, 50, 53, 52, 55, 52, 48, 57, 57, 49, 112, 57, 55, 50]⟩, ⟨#[57, 48, 48, 55, 49, 57, 57, 50, 53, 52, 55, 52, 48, 57, 57, 49, 112, 45, 49, 48, 55, 52]⟩, ⟨#[57, 57, 57, 57, 57, 57, 57, 57, 57, 57, 57, 57, 57, 57, 57, 57, 57, 57, 57, 57]⟩, ⟨#[49, 112, 57, 57, 57, 57, 57, 57, 57, 57, 57, 57, 57, 57, 57, 57, 57, 57, 57, 57, 57, 57]⟩, ⟨#[32, 49]⟩, ⟨#[49, 32]⟩, ⟨#[49, 95, 48]⟩, ⟨#[48, 120, 49, 112, 51]⟩, ⟨#[45, 45, 49]⟩, ⟨#[49, 112, 112, 49]⟩, ⟨#[54, 48, 48, 52, 55, 57, 57, 53, 48, 51, 49, 54, 48, 54, 54, 49, 112, 45, 53, 52]⟩]
def asks (ss : List ByteArray) : List Value := ss.map Value.string
theorem ask_len : askL.length = 51 := by decide
theorem ask_small : ∀ k, (askL.getD k ⟨#[]⟩).size ≤ 100 := by
  have h : ∀ s ∈ askL, s.size ≤ 100 := by decide
  intro k
  by_cases hk : k < askL.length
  · have : askL.getD k ⟨#[]⟩ = askL[k] := by simp [List.getD, hk]
    rw [this]; exact h _ (List.getElem_mem hk)
  · have : askL.getD k ⟨#[]⟩ = ⟨#[]⟩ := by simp [List.getD, hk]
    rw [this]; decide
/-- A new row, and what is in it. -/
theorem ask_new (w : World) : ∃ W1, W1 = w.alloc (.cells (asks askL).toArray 9) ∧ Below w.heap.size w W1 ∧ w.heap.size + 1 = W1.heap.size ∧ ∀ w', Below W1.heap.size W1 w' → ∀ k, k < 51 → w'.cell? ⟨w.heap.size, k, none⟩ = some (.string (askL.getD k ⟨#[]⟩)) := by
  refine ⟨_, rfl, (Below.refl _ _).alloc (Nat.le_refl _) _, by simp, fun w' hb k hk => ?_⟩
  rw [hb.cell (p := ⟨w.heap.size, k, none⟩) (by simp), cell_of_row _ _ _ _ _ _ (heap_alloc_new w _)]
  have hk2 : k < askL.length := by rw [ask_len]; exact hk
  simp [asks, hk2, List.getD]
theorem rem_at (a : Int) (n : Nat) (h : 0 ≤ a) (hn : 0 < n) : ∃ m : Nat, a % (n : Int) = (m : Int) ∧ m < n := by
  refine ⟨(a % (n : Int)).toNat, ?_, ?_⟩
  · have := Int.emod_nonneg a (show (n : Int) ≠ 0 by omega); omega
  · have := Int.emod_lt_of_pos a (show (0 : Int) < (n : Int) by omega)
    have := Int.emod_nonneg a (show (n : Int) ≠ 0 by omega); omega
theorem three_new (w : World) (x y z : Nat) (hx : x < 2 ^ 64) (hy : y < 2 ^ 64) (hz : z < 2 ^ 64) : FRow (w.alloc (.cells #[.float .f64 x, .float .f64 y, .float .f64 z] 25)) (.slice (some ⟨w.heap.size, 0, none⟩) 3 3) [x, y, z] := by
  refine FOwn.row (base := w.heap.size) ⟨?_, fun b hb => ?_⟩
  · exact World.ownsRow_lit (base := w.heap.size) (e := 25) (size := 1) w #[.float .f64 x, .float .f64 y, .float .f64 z] 3 (Nat.le_refl _) (by decide) rfl
  · simp at hb
    rcases hb with rfl | rfl | rfl <;> assumption
theorem frow_cells {w : World} {v : Value} {l : List Nat} (h : FRow w v l) (h53 : l.length = 53) : ∃ ad cap, v = .slice (some ad) 53 cap ∧ 53 ≤ cap ∧ cap ≤ maxLen ∧ (∀ k, l.getD k 0 < 2 ^ 64) ∧ ∀ w', Below w.heap.size w w' → ∀ k, k < 53 → w'.cell? (ad.add k) = some (.float .f64 (l.getD k 0)) := by
  obtain ⟨A, cap, rfl, h1, h2, h3, h4⟩ := h
  rw [h53] at h1 h4 ⊢
  obtain ⟨ad, rfl, hl, hc⟩ := h4 (by decide)
  exact ⟨ad, cap, rfl, h1, h2, h3, fun w' hb k hk => (hb.cell (p := ad.add k) (by rw [add_block]; exact hl)).trans (hc k hk)⟩
set_option maxRecDepth 100000 in
set_option maxHeartbeats 8000000 in
theorem numbersKnown_walk (w : World) (he : ErrsW w) (ht : TabW w) : Calls Tryz.prog 3 #[] w (YesPost w) := by
  have HP := Lib.hid (fun (w' : World) (hb : Below w.heap.size w w') => show YesPost w (.returned (.bool true)) w' from ⟨rfl, hb⟩)
  generalize YesPost w = post at *
  have KE := Lib.hid (edges_any w)
  unfold EdgesPost at KE
  have KP := Lib.hid (fun (x : Nat) (hx : x < 2 ^ 64) (w1 : World) (hb : Below w.heap.size w w1) => numbersPrint_walk x w1 hx (he.below hb) (ht.below hb))
  have KW := Lib.hid (fun (x : Nat) (hx : x < 2 ^ 64) (w1 : World) (hb : Below w.heap.size w w1) => numbersWhole_walk x w1 hx (he.below hb) (ht.below hb))
  have KC := Lib.hid (fun (x y : Nat) (hx : x < 2 ^ 64) (hy : y < 2 ^ 64) (w1 : World) (hb : Below w.heap.size w w1) => numbersCompare_walk x y w1 hx hy (he.below hb) (ht.below hb))
  have KO := Lib.hid (fun (x y z : Nat) (hx : x < 2 ^ 64) (hy : y < 2 ^ 64) (hz : z < 2 ^ 64) (w1 : World) (hb : Below w.heap.size w w1) => numbersOrder_walk x y z w1 hx hy hz (he.below hb) (ht.below hb))
  have KD := Lib.hid (fun (o x y : Nat) (ho : o < 256) (w1 : World) (hb : Below w.heap.size w w1) => numbersDo_walk o x y w1 ho (he.below hb) (ht.below hb))
  have KL := Lib.hid (fun (v : Value) (l : List Nat) (w1 : World) (hv : FRow w1 v l) (hb : Below w.heap.size w w1) => numbersLeast_walk v l w1 hv (he.below hb) (ht.below hb))
  have KA := Lib.hid (fun (s : ByteArray) (hs : s.size ≤ maxLen) (w1 : World) (hb : Below w.heap.size w w1) => numbersParse_walk s w1 hs (he.below hb) (ht.below hb))
  have KX := Lib.hid (fun (w1 : World) (hb : Below w.heap.size w w1) => works_at w w1 he ht hb)
  clear he ht
  go_enter Tryz.func3, Tryz.ntmps3
  go_wp2_with fail
  refine KE.out.mono ?_
  rintro e w1 ⟨v, l, rfl, hv, hl53, hb1⟩
  obtain ⟨ad, cap, rfl, hcap, hcm, hlt, hcells⟩ := frow_cells hv hl53
  unfold maxLen at hcm
  have HB1 := Lib.hid hb1
  have HLT := Lib.hid hlt
  have HC := Lib.hid hcells
  clear hv hl53 hb1 hlt hcells KE
  go_wp2
  go_loopw [2] (fun iv wr => ∃ i : Nat, iv = .int .i64 (i : Int) ∧ i ≤ 53 ∧ Hid (Below w1.heap.size w1 wr)) (fun iv _ => 53 - (intOf iv).toNat)
  case atStart => exact ⟨0, rfl, by omega, Lib.hid (Below.refl _ _)⟩
  case round =>
    obtain ⟨i, rfl, hi, HR⟩ := hrel
    by_cases hlt : i < 53
    · have hci := HC.out wr HR.out i hlt
      have hii : (i : Int) < 53 := by omega
      have HI := Lib.hid (HLT.out i)
      go_wp2_with fail
      refine (KP.out _ HI.out _ (step_below HB1.out HR.out)).mono ?_
      rintro e w2 ⟨rfl, hb2⟩
      have HR2 := Lib.hid (step_below HR.out hb2)
      clear hb2 hci
      have hci := HC.out w2 HR2.out i hlt
      go_wp2_with fail
      refine (KW.out _ HI.out _ (step_below HB1.out HR2.out)).mono ?_
      rintro e w3 ⟨rfl, hb3⟩
      have HR3 := Lib.hid (step_below HR2.out hb3)
      clear hb3 hci
      go_wp2
      go_loopw [3] (fun kv wr => ∃ k : Nat, kv = .int .i64 (k : Int) ∧ k ≤ 53 ∧ Hid (Below w1.heap.size w1 wr)) (fun kv _ => 53 - (intOf kv).toNat)
      case atStart => exact ⟨0, rfl, by omega, HR3⟩
      case round =>
        obtain ⟨k, rfl, hk, HR4⟩ := hrel
        by_cases hlk : k < 53
        · obtain ⟨m, hm, hm53⟩ := rem_at ((i : Int) * 7 + (k : Int)) 53 (by omega) (by decide)
          obtain ⟨q, hq, hq53⟩ := rem_at ((i : Int) + 2 * (k : Int)) 53 (by omega) (by decide)
          obtain ⟨o, ho, ho4⟩ := rem_at ((i : Int) + (k : Int)) 4 (by omega) (by decide)
          have hkk : (k : Int) < 53 := by omega
          have HK := Lib.hid (HLT.out k)
          have HM := Lib.hid (HLT.out m)
          have HQ := Lib.hid (HLT.out q)
          have hs1 : IntKind.i64.wrap ((i : Int) * 7) = (i : Int) * 7 := IntWalk.i64_in _ (by omega)
          have hs2 : IntKind.i64.wrap ((i : Int) * 7 + (k : Int)) = (i : Int) * 7 + (k : Int) := IntWalk.i64_in _ (by omega)
          have hs3 : IntKind.i64.wrap (2 * (k : Int)) = 2 * (k : Int) := IntWalk.i64_in _ (by omega)
          have hs4 : IntKind.i64.wrap ((i : Int) + 2 * (k : Int)) = (i : Int) + 2 * (k : Int) := IntWalk.i64_in _ (by omega)
          have hs5 : IntKind.i64.wrap ((i : Int) + (k : Int)) = (i : Int) + (k : Int) := IntWalk.i64_in _ (by omega)
          have ht1 : ((i : Int) * 7 + (k : Int)).tmod 53 = (m : Int) := by rw [Int.tmod_eq_emod_of_nonneg (by omega)]; exact hm
          have ht2 : ((i : Int) + 2 * (k : Int)).tmod 53 = (q : Int) := by rw [Int.tmod_eq_emod_of_nonneg (by omega)]; exact hq
          have ht3 : ((i : Int) + (k : Int)).tmod 4 = (o : Int) := by rw [Int.tmod_eq_emod_of_nonneg (by omega)]; exact ho
          have hm0 : (m : Int) < 53 := by omega
          have hq0 : (q : Int) < 53 := by omega
          have ho0 : (o : Int) < 4 := by omega
          have HKK := Lib.hid (fun (w' : World) (h : KeepW wr wr.heap.size w') => show (w'.cell? (ad.add i) = some (.float .f64 (l.getD i 0)) ∧ w'.cell? (ad.add k) = some (.float .f64 (l.getD k 0)) ∧ w'.cell? (ad.add m) = some (.float .f64 (l.getD m 0)) ∧ w'.cell? (ad.add q) = some (.float .f64 (l.getD q 0))) ∧ KeepW wr wr.heap.size w' from
            ⟨⟨HC.out w' (step_below HR4.out h.1) i hlt, HC.out w' (step_below HR4.out h.1) k hlk, HC.out w' (step_below HR4.out h.1) m hm53, HC.out w' (step_below HR4.out h.1) q hq53⟩, h⟩)
          have HK1 := Lib.hid (fun (w' : World) (h : KeepW wr wr.heap.size w') => h.calls (KC.out _ _ HI.out HK.out w' (step_below HB1.out (step_below HR4.out h.1))))
          have HK2 := Lib.hid (fun (w' : World) (h : KeepW wr wr.heap.size w') => h.calls (KO.out _ _ _ HI.out HK.out HM.out w' (step_below HB1.out (step_below HR4.out h.1))))
          have HK3 := Lib.hid (fun (w' : World) (h : KeepW wr wr.heap.size w') (c : Nat) (hc : c < 256) => h.calls (KD.out c (l.getD i 0) (l.getD k 0) hc w' (step_below HB1.out (step_below HR4.out h.1))))
          have HK4 := Lib.hid (fun (w' : World) (h : KeepW wr wr.heap.size w') (v : Value) (hv : FRow w' v [l.getD i 0, l.getD k 0, l.getD q 0]) => h.calls (KL.out v _ w' hv (step_below HB1.out (step_below HR4.out h.1))))
          have HF := Lib.hid (fun (w' : World) => three_new w' _ _ _ HI.out HK.out HQ.out)
          generalize l.getD i 0 = x at *
          generalize l.getD k 0 = y at *
          generalize l.getD m 0 = z at *
          generalize l.getD q 0 = u at *
          clear HI HK HM HQ hm hq ho
          have hk0 := KeepW.start (Nat.le_refl wr.heap.size)
          go_upto_region 10 with (fail)
          simp only [List.append_eq, List.cons_append, List.nil_append]
          go_region_held3 (fun w' => (w'.cell? (ad.add i) = some (.float .f64 x) ∧ w'.cell? (ad.add k) = some (.float .f64 y) ∧ w'.cell? (ad.add m) = some (.float .f64 z) ∧ w'.cell? (ad.add q) = some (.float .f64 u)) ∧ KeepW wr wr.heap.size w') (first | exact HKK.out _ (by assumption) | exact HKK.out _ (KeepW.drew (by assumption)) | exact HKK.out _ (KeepW.alloc (by assumption) _) | exact HKK.out _ (KeepW.alloc (KeepW.drew (by assumption)) _) | go_keep) (first
            | (go_at_call 7; refine (HK1.out _ (by first | with_reducible assumption | with_reducible exact KeepW.drew (by assumption))).mono ?_; rintro e w5 ⟨rfl, hk5⟩)
            | (go_at_call 8; refine (HK2.out _ (by first | with_reducible assumption | with_reducible exact KeepW.drew (by assumption))).mono ?_; rintro e w6 ⟨rfl, hk6⟩)
            | (go_at_call 9; refine (HK3.out _ (by first | with_reducible assumption | with_reducible exact KeepW.drew (by assumption)) _ (UInt8.toNat_lt _)).mono ?_; rintro e w7 ⟨rfl, hk7⟩)
            | (go_at_call 10; refine (HK4.out _ (by repeat (first | with_reducible assumption | with_reducible refine KeepW.drew ?_ | with_reducible refine KeepW.alloc ?_ _)) _ (by first | with_reducible exact HF.out _ | with_reducible exact (HF.out _).below (Below.refl _ _).drew)).mono ?_; rintro e w8 ⟨rfl, hk8⟩))
          go_wp2
          go_roundw
          case rel => exact ⟨k + 1, by go_num, by omega, Lib.hid (step_below HR4.out hk8.1)⟩
          case measure => simp [intOf]; omega
        · obtain rfl : k = 53 := by omega
          go_wp2
          go_roundw
          case rel => exact ⟨i + 1, by go_num, by omega, HR4⟩
          case measure => simp [intOf]; omega
    · have hii : ¬ (i : Int) < 53 := by omega
      obtain ⟨wo, hwo⟩ : ∃ wo, wo = wr := ⟨_, rfl⟩
      obtain ⟨W2, hW2, hbW, hszW, hask⟩ := ask_new wr
      have HS := Lib.hid (show ∀ k, (askL.getD k ⟨#[]⟩).size ≤ maxLen from fun k => Nat.le_trans (ask_small k) (by decide))
      have HBW := Lib.hid (step_below (step_below HB1.out HR.out) hbW)
      have HASK := Lib.hid hask
      have HW2 := Lib.hid hW2
      have HN := Lib.hid (show FRow wr (.slice none 0 0) [] from ⟨none, 0, rfl, Nat.le_refl _, by decide, fun _ => by simp, fun h => absurd h (by simp)⟩)
      rw [← hwo] at HASK
      clear hbW hszW hask hW2 HR
      go_wp2
      rw [← hwo] at *
      go_loopw [5, 107] (fun _ jv wr => ∃ j : Nat, jv = .int .i64 (j : Int) ∧ j ≤ 51 ∧ Hid (Below W2.heap.size W2 wr)) (fun _ jv _ => 51 - (intOf jv).toNat)
      case atStart => exact ⟨0, rfl, by omega, Lib.hid (by rw [HW2.out]; exact Below.refl _ _)⟩
      case round =>
        obtain ⟨j, rfl, hj, HJ⟩ := hrel
        by_cases hlj : j < 51
        · have hcj := HASK.out wr HJ.out j hlj
          have hjj : (j : Int) < 51 := by omega
          obtain ⟨t, ht⟩ : ∃ t, t = askL.getD j ⟨#[]⟩ := ⟨_, rfl⟩
          have HT := Lib.hid (show t.size ≤ maxLen from ht ▸ HS.out j)
          rw [← ht] at hcj
          clear ht
          go_wp2_with fail
          refine (KA.out t HT.out _ (step_below HBW.out HJ.out)).mono ?_
          rintro e w2 ⟨rfl, hb2⟩
          have HJ2 := Lib.hid (step_below HJ.out hb2)
          clear hb2 hcj
          go_wp2
          go_roundw
          case rel => exact ⟨j + 1, by go_num, by omega, HJ2⟩
          case measure => simp [intOf]; omega
        · have hjj : ¬ (j : Int) < 51 := by omega
          have HBJ := Lib.hid (step_below HBW.out HJ.out)
          have HN2 := Lib.hid (show FRow wr (.slice none 0 0) [] from ⟨none, 0, rfl, Nat.le_refl _, by decide, fun _ => by simp, fun h => absurd h (by simp)⟩)
          go_wp2_with fail
          refine (KL.out _ _ _ HN2.out HBJ.out).mono ?_
          rintro e w2 ⟨rfl, hb2⟩
          have HB2 := Lib.hid (step_below HBJ.out hb2)
          clear hb2
          go_wp2_with fail
          refine (KD.out 37 _ _ (by decide) _ HB2.out).mono ?_
          rintro e w3 ⟨rfl, hb3⟩
          have HB3 := Lib.hid (step_below HB2.out hb3)
          clear hb3
          go_wp2_with fail
          refine (KD.out 0 _ _ (by decide) _ HB3.out).mono ?_
          rintro e w4 ⟨rfl, hb4⟩
          have HB4 := Lib.hid (step_below HB3.out hb4)
          clear hb4
          go_wp2_with fail
          refine (KX.out _ HB4.out).mono ?_
          rintro e w5 ⟨rfl, hb5⟩
          have HB5 := Lib.hid hb5
          clear hb5
          go_wp2
          exact HP.out _ HB5.out
end Go.Proofs.YtbmmoclaijoofaaGreatDoor
