/- numbers: the law NumbersParse, walked. -/
import Derived.Test.YtbmmoclaijoofaaGreatDoorNumYd
set_option linter.unusedVariables false
set_option linter.unusedSimpArgs false
namespace Go.Proofs.YtbmmoclaijoofaaGreatDoor
open Go.RowKit Go.BigFrame
open Num (nanB sg rg rv sv tv key eqF ltF cmpI wd infR R53 P0 wholeR flN ONE TWO decS expS textR textN oddM oddE)

theorem value_any : ∀ (n : Nat) (s : ByteArray) (w : World), s.size ≤ n → n ≤ 100 → Calls Tryz.prog 53 #[.string s] w (ValPost s w)
  | 0, s, w, h, _ => value_step s w (by omega) (fun w1 hs => by
      exfalso
      have := congrArg ByteArray.size hs
      rw [ByteArray.size_append] at this
      have e1 : (⟨#[45]⟩ : ByteArray).size = 1 := rfl
      omega)
  | n + 1, s, w, h, hn => value_step s w (by omega) (fun w1 _ => value_any n _ w1 (by rw [ByteArray.size_extract]; omega) (by omega))
set_option maxRecDepth 100000 in
set_option maxHeartbeats 1600000 in
theorem refParse_any (s : ByteArray) (w : World) (hs : s.size ≤ 1000000) : Calls Tryz.prog 30 #[.string s] w (ParsePost s w) := by
  have HP := Lib.hid (fun (x : Nat) (c : Int) (w' : World) (hb : Below w.heap.size w w') (h : ParseOk s x c) => show ParsePost s w (.returned (.tuple #[.float .f64 x, .int .i64 c])) w' from ⟨hb, x, c, rfl, h⟩)
  generalize ParsePost s w = post at *
  by_cases h60 : 60 < s.size
  · have HQ := Lib.hid (HP.out 0 210 w (Below.refl _ _) ⟨by decide, .inr ⟨rfl, rfl, fun b _ h => by have := textN_small b; rw [h] at this; omega⟩⟩)
    clear HP
    go_enter Tryz.func30, Tryz.ntmps30
    go_wp2
    exact HQ.out
  · have HV := Lib.hid (value_any s.size s w (Nat.le_refl _) (by omega))
    unfold ValPost at HV
    have HPR := Lib.hid (fun (x : Nat) (w1 : World) (hx : x < 2 ^ 64) => refPrint_any x w1 hx)
    unfold TextPost at HPR
    go_enter Tryz.func30, Tryz.ntmps30
    go_wp2_with fail
    refine HV.out.mono ?_
    rintro e w1 ⟨hb1, x, rfl, hx, hv⟩
    have HB1 := Lib.hid hb1
    have HPX := Lib.hid (HPR.out x w1 hx)
    have h1 := str_ne_is (textN x) s
    have h0 := str_eq_is (textN x) s
    have HVV := Lib.hid (And.intro hx hv)
    clear hb1 hv hx HV HPR
    by_cases hts : textN x = s
    · rw [decide_eq_true hts] at h1 h0
      have HQ := Lib.hid (fun (w' : World) (hb : Below w.heap.size w w') => HP.out x 0 w' hb ⟨HVV.out.1, .inl ⟨rfl, hts⟩⟩)
      clear hts HVV HP
      generalize textN x = tx at *
      go_wp2_with fail
      refine HPX.out.mono ?_
      rintro e w2 ⟨rfl, hb2⟩
      have HB2 := Lib.hid (step_below HB1.out hb2)
      clear hb2
      go_wp2
      exact HQ.out w2 HB2.out
    · rw [decide_eq_false hts] at h1 h0
      have HQ := Lib.hid (fun (w' : World) (hb : Below w.heap.size w w') => HP.out 0 210 w' hb ⟨by decide, .inr ⟨rfl, rfl, fun b hb h => hts (HVV.out.2 b hb h)⟩⟩)
      clear hts HVV HP
      generalize textN x = tx at *
      go_wp2_with fail
      refine HPX.out.mono ?_
      rintro e w2 ⟨rfl, hb2⟩
      have HB2 := Lib.hid (step_below HB1.out hb2)
      clear hb2
      go_wp2
      exact HQ.out w2 HB2.out
theorem parse_two {s : ByteArray} {x y : Nat} {c d : Int} (h : ParseOk s x c) (h2 : ParseOk s y d) : c = d ∧ sameF x y = true ∧ ((c = 0 ∧ textN x = s) ∨ c = 210) := by
  obtain ⟨hx, ⟨c1, t1⟩ | ⟨c1, x1, n1⟩⟩ := h
  · obtain ⟨hy, ⟨c2, t2⟩ | ⟨_, _, n2⟩⟩ := h2
    · exact ⟨c1.trans c2.symm, same_key ((textN_inj hx hy).1 (t1.trans t2.symm)), .inl ⟨c1, t1⟩⟩
    · exact absurd t1 (n2 x hx)
  · obtain ⟨hy, ⟨_, t2⟩ | ⟨c2, x2, _⟩⟩ := h2
    · exact absurd t2 (n1 y hy)
    · exact ⟨c1.trans c2.symm, by rw [x1, x2]; exact same_key rfl, .inr c1⟩
set_option maxRecDepth 100000 in
set_option maxHeartbeats 1600000 in
theorem numbersParse_walk (s : ByteArray) (w : World) (hs : s.size ≤ maxLen) (he : ErrsW w) (ht : TabW w) : Calls Tryz.prog 11 #[.string s] w (YesPost w) := by
  have HP := Lib.hid (fun (w' : World) (hb : Below w.heap.size w w') => show YesPost w (.returned (.bool true)) w' from ⟨rfl, hb⟩)
  generalize YesPost w = post at *
  have KW := Lib.hid (fun (w1 : World) (hb : Below w.heap.size w w1) => works_at w w1 he ht hb)
  unfold maxLen at hs
  by_cases h100 : 100 < s.size
  · clear he ht
    go_enter Tryz.func11, Tryz.ntmps11
    go_wp2_with fail
    refine (KW.out _ (Below.refl _ _)).mono ?_
    rintro e w5 ⟨rfl, hb5⟩
    have HB5 := Lib.hid hb5
    clear hb5
    go_wp2
    exact HP.out _ HB5.out
  · have K1 := Lib.hid (parse_any s w (by omega) he ht)
    have K2 := Lib.hid (fun w1 => refParse_any s w1 (by omega))
    unfold ParsePost at K1 K2
    have K3 := Lib.hid (fun (x y : Nat) (c d : Int) (h : ParseOk s x c) (h2 : ParseOk s y d) (w1 : World) => (parse_two h h2).2.1 ▸ refSame_any x y w1 h.1 h2.1)
    have K4 := Lib.hid (fun (x : Nat) (hx : x < 2 ^ 64) (h : textN x = s) (w1 : World) (hb : Below w.heap.size w w1) => h ▸ print_any x w1 hx (ht.below hb))
    unfold TextPost at K4
    have hss := s_eq s
    clear he ht
    go_enter Tryz.func11, Tryz.ntmps11
    go_wp2_with fail
    refine K1.out.mono ?_
    rintro e w1 ⟨hb1, x, c, rfl, hp1⟩
    have HB1 := Lib.hid hb1
    have HP1 := Lib.hid hp1
    clear hb1 hp1 K1
    go_wp2_with fail
    refine (K2.out _).mono ?_
    rintro e w2 ⟨hb2, y, d, rfl, hp2⟩
    have HB2 := Lib.hid (step_below HB1.out hb2)
    have HT := Lib.hid (parse_two HP1.out hp2)
    have KS := Lib.hid (K3.out x y c d HP1.out hp2)
    clear hb2 hp2 K2 K3
    obtain rfl := HT.out.1
    rcases HT.out.2.2 with ⟨hc, htx⟩ | hc
    · have KX := Lib.hid (K4.out x HP1.out.1 htx)
      obtain rfl := hc
      clear HT K4 HP1 htx
      go_wp2_with fail
      refine (KS.out _).mono ?_
      rintro e w3 ⟨rfl, hw⟩
      obtain rfl := hw.symm
      go_wp2_with fail
      refine (KX.out _ HB2.out).mono ?_
      rintro e w4 ⟨rfl, hb4⟩
      have HB4 := Lib.hid (step_below HB2.out hb4)
      clear hb4
      go_wp2_with fail
      refine (KW.out _ HB4.out).mono ?_
      rintro e w5 ⟨rfl, hb5⟩
      have HB5 := Lib.hid hb5
      clear hb5
      go_wp2
      exact HP.out _ HB5.out
    · obtain rfl := hc
      clear HT K4 HP1
      go_wp2_with fail
      refine (KS.out _).mono ?_
      rintro e w3 ⟨rfl, hw⟩
      obtain rfl := hw.symm
      go_wp2_with fail
      refine (KW.out _ HB2.out).mono ?_
      rintro e w5 ⟨rfl, hb5⟩
      have HB5 := Lib.hid hb5
      clear hb5
      go_wp2
      exact HP.out _ HB5.out
theorem numbersParse_w (s : ByteArray) (W : World) (h : LaidW W) (hs : s.size ≤ maxLen) : Calls Tryz.prog 11 #[.string s] W fun e w' => e = .returned (.bool true) ∧ Below W.heap.size W w' := numbersParse_walk s W hs h.errs h.tab
end Go.Proofs.YtbmmoclaijoofaaGreatDoor
