/- numbers: laws, walked. -/
import Derived.Test.YtbmmoclaijoofaaGreatDoorNumVh
set_option linter.unusedVariables false
set_option linter.unusedSimpArgs false
namespace Go.Proofs.YtbmmoclaijoofaaGreatDoor
open Go.RowKit Go.BigFrame
open Num (nanB sg rg rv sv tv key eqF ltF cmpI wd infR R53 P0 wholeR flN ONE TWO decS expS textR textN oddM oddE minK)

def YesPost (w : World) (e : Ending) (w' : World) : Prop := e = .returned (.bool true) ∧ Below w.heap.size w w'
theorem works_at (w w1 : World) (he : ErrsW w) (ht : TabW w) (hb : Below w.heap.size w w1) : Calls Tryz.prog 12 #[] w1 fun e w2 => e = .returned (.bool true) ∧ Below w.heap.size w w2 :=
  (works_any w1 (he.below hb) (ht.below hb)).mono fun _ _ h => ⟨h.1, step_below hb h.2⟩
theorem same_key {r s : Nat} (h : key r = key s) : sameF r s = true := by unfold sameF; rw [decide_eq_true h]
theorem bb_eq (b : Bool) : (b == b) = true := by cases b <;> rfl
theorem ii_eq (a : Int) : (a == a) = true := by simp
theorem textN_size {x : Nat} (_hx : x < 2 ^ 64) : (textN x).size ≤ 1000000 := by
  rcases textN_cases (b := x) with ⟨_, t⟩ | ⟨_, l, ⟨_, t⟩ | ⟨_, t⟩⟩ <;> rw [t]
  · decide
  · have := textR_size l
    rw [ByteArray.size_append]
    have h1 : (⟨#[45]⟩ : ByteArray).size = 1 := rfl
    omega
  · have := textR_size l; omega
theorem parse_zero {x y : Nat} {c : Int} (h : ParseOk (textN x) y c) (hx : x < 2 ^ 64) : c = 0 := by
  obtain ⟨_, ⟨h1, _⟩ | ⟨_, _, h2⟩⟩ := h
  · exact h1
  · exact absurd rfl (h2 x hx)
theorem parse_print {x y : Nat} {c : Int} (h : ParseOk (textN x) y c) (hx : x < 2 ^ 64) : sameF x y = true := by
  obtain ⟨hy, ⟨_, h1⟩ | ⟨_, _, h2⟩⟩ := h
  · exact same_key ((textN_inj hy hx).1 h1).symm
  · exact absurd rfl (h2 x hx)
set_option maxRecDepth 100000 in
set_option maxHeartbeats 1600000 in
theorem numbersDo_walk (o x y : Nat) (w : World) (ho : o < 256) (he : ErrsW w) (ht : TabW w) : Calls Tryz.prog 9 #[.int .u8 (o : Int), .float .f64 x, .float .f64 y] w (YesPost w) := by
  have HP := Lib.hid (fun (w' : World) (hb : Below w.heap.size w w') => show YesPost w (.returned (.bool true)) w' from ⟨rfl, hb⟩)
  generalize YesPost w = post at *
  have KW := Lib.hid (fun (w1 : World) (hb : Below w.heap.size w w1) => works_at w w1 he ht hb)
  have K1 := Lib.hid (do_any o x y w ho)
  have K2 := Lib.hid (fun w1 => refDo_any o x y w1 ho)
  have K3 := Lib.hid (fun (r s : Nat) (hr : r < 2 ^ 64) (hs : s < 2 ^ 64) (h : sameF r s = true) (w1 : World) => h ▸ same_any r s w1 hr hs)
  clear he ht
  go_enter Tryz.func9, Tryz.ntmps9
  go_wp2_with fail
  refine K1.out.mono ?_
  rintro e w1 ⟨hb1, r, hr, hcase⟩
  have HB1 := Lib.hid hb1
  clear hb1
  have HC := Lib.hid hcase
  clear hcase
  rcases HC.out with ⟨op, hop, hw, rfl⟩ | ⟨hop, hr0, rfl⟩
  · have HW := Lib.hid (And.intro hop hw)
    have HR := Lib.hid hr
    clear hop hw HC hr
    go_wp2_with fail
    refine (K2.out w1).mono ?_
    rintro e w2 ⟨hb2, s, hs, hcase2⟩
    have HB2 := Lib.hid (step_below HB1.out hb2)
    clear hb2
    have h2 : ∃ b, e = .returned (.tuple #[.float .f64 s, .bool b]) ∧ b = true ∧ sameF r s = true := by
      rcases hcase2 with ⟨op2, hop2, hw2, rfl⟩ | ⟨hop2, _⟩
      · have : op2 = op := by have := HW.out.1; rw [this] at hop2; cases hop2; rfl
        subst this
        exact ⟨true, rfl, rfl, HW.out.2.same hw2⟩
      · have := HW.out.1; rw [this] at hop2; cases hop2
    obtain ⟨b, rfl, rfl, hsame⟩ := h2
    have KS := Lib.hid (K3.out r s HR.out hs hsame)
    clear hcase2 hsame hs HR HW
    go_wp2_with fail
    refine (KS.out _).mono ?_
    rintro e w3 ⟨rfl, hw⟩
    obtain rfl := hw.symm
    go_wp2_with fail
    refine (KW.out _ HB2.out).mono ?_
    rintro e w4 ⟨rfl, hb4⟩
    have HB4 := Lib.hid hb4
    clear hb4
    go_wp2
    exact HP.out _ HB4.out
  · have HW := Lib.hid hop
    clear hop hr0 HC hr
    go_wp2_with fail
    refine (K2.out w1).mono ?_
    rintro e w2 ⟨hb2, s, hs, hcase2⟩
    have HB2 := Lib.hid (step_below HB1.out hb2)
    clear hb2
    have h2 : e = .returned (.tuple #[.float .f64 0, .bool false]) := by
      rcases hcase2 with ⟨op2, hop2, _⟩ | ⟨_, _, rfl⟩
      · have := HW.out; rw [this] at hop2; cases hop2
      · rfl
    obtain rfl := h2
    have KS := Lib.hid (K3.out 0 0 (by decide) (by decide) (same_key rfl))
    clear hcase2 hs HW
    go_wp2_with fail
    refine (KS.out _).mono ?_
    rintro e w3 ⟨rfl, hw⟩
    obtain rfl := hw.symm
    go_wp2_with fail
    refine (KW.out _ HB2.out).mono ?_
    rintro e w4 ⟨rfl, hb4⟩
    have HB4 := Lib.hid hb4
    clear hb4
    go_wp2
    exact HP.out _ HB4.out
set_option maxRecDepth 100000 in
set_option maxHeartbeats 1600000 in
theorem numbersCompare_walk (x y : Nat) (w : World) (hx : x < 2 ^ 64) (hy : y < 2 ^ 64) (he : ErrsW w) (ht : TabW w) : Calls Tryz.prog 7 #[.float .f64 x, .float .f64 y] w (YesPost w) := by
  have HP := Lib.hid (fun (w' : World) (hb : Below w.heap.size w w') => show YesPost w (.returned (.bool true)) w' from ⟨rfl, hb⟩)
  generalize YesPost w = post at *
  have KW := Lib.hid (fun (w1 : World) (hb : Below w.heap.size w w1) => works_at w w1 he ht hb)
  have K1 := Lib.hid (fun w1 => compare_any x y w1 hx hy)
  have K2 := Lib.hid (fun w1 => refCompare_any x y w1 hx hy)
  have K3 := Lib.hid (fun w1 => same_any x y w1 hx hy)
  have K4 := Lib.hid (fun w1 => refSame_any x y w1 hx hy)
  have h1 := ii_eq (cmpI (key x) (key y))
  have h2 := bb_eq (sameF x y)
  clear he ht hx hy
  generalize cmpI (key x) (key y) = c at *
  generalize sameF x y = b at *
  go_enter Tryz.func7, Tryz.ntmps7
  go_wp2_with fail
  refine (K1.out _).mono ?_
  rintro e w1 ⟨rfl, hw⟩
  obtain rfl := hw.symm
  go_wp2_with fail
  refine (K2.out _).mono ?_
  rintro e w2 ⟨rfl, hw⟩
  obtain rfl := hw.symm
  go_wp2_with fail
  refine (K3.out _).mono ?_
  rintro e w3 ⟨rfl, hw⟩
  obtain rfl := hw.symm
  go_wp2_with fail
  refine (K4.out _).mono ?_
  rintro e w4 ⟨rfl, hw⟩
  obtain rfl := hw.symm
  go_wp2_with fail
  refine (KW.out _ (Below.refl _ _)).mono ?_
  rintro e w5 ⟨rfl, hb5⟩
  have HB5 := Lib.hid hb5
  clear hb5
  go_wp2
  exact HP.out _ HB5.out
set_option maxRecDepth 100000 in
set_option maxHeartbeats 1600000 in
theorem numbersLeast_walk (v : Value) (l : List Nat) (w : World) (hv : FRow w v l) (he : ErrsW w) (ht : TabW w) : Calls Tryz.prog 10 #[v] w (YesPost w) := by
  have HP := Lib.hid (fun (w' : World) (hb : Below w.heap.size w w') => show YesPost w (.returned (.bool true)) w' from ⟨rfl, hb⟩)
  generalize YesPost w = post at *
  have KW := Lib.hid (fun (w1 : World) (hb : Below w.heap.size w w1) => works_at w w1 he ht hb)
  have K1 := Lib.hid (fun (w1 : World) (hb : Below w.heap.size w w1) => least_any v l w1 (hv.below hb))
  have K2 := Lib.hid (fun (w1 : World) (hb : Below w.heap.size w w1) => refLeast_any v l w1 (hv.below hb))
  have K3 := Lib.hid (fun (w1 : World) (hb : Below w.heap.size w w1) => great_any v l w1 (hv.below hb))
  have K4 := Lib.hid (fun (w1 : World) (hb : Below w.heap.size w w1) => refGreat_any v l w1 (hv.below hb))
  have K5 := Lib.hid (fun (r s : Nat) (hr : r < 2 ^ 64) (hs : s < 2 ^ 64) (h : key r = key s) (w1 : World) => same_key h ▸ same_any r s w1 hr hs)
  obtain ⟨A, cap, rfl, hlc, hcm, _, _⟩ := hv
  clear he ht
  unfold maxLen at hcm
  by_cases h100 : 100 < l.length
  · have hi : (100 : Int) < (l.length : Int) := by omega
    go_enter Tryz.func10, Tryz.ntmps10
    go_wp2_with fail
    refine (KW.out _ (Below.refl _ _)).mono ?_
    rintro e w5 ⟨rfl, hb5⟩
    have HB5 := Lib.hid hb5
    clear hb5
    go_wp2
    exact HP.out _ HB5.out
  · have hi : ¬ (100 : Int) < (l.length : Int) := by omega
    go_enter Tryz.func10, Tryz.ntmps10
    go_wp2_with fail
    refine (K1.out _ (Below.refl _ _)).mono ?_
    rintro e w1 ⟨r1, rfl, hr1, hk1, hb1⟩
    have HB1 := Lib.hid (hb1)
    have HR1 := Lib.hid (And.intro hr1 hk1)
    clear hb1 hr1 hk1
    go_wp2_with fail
    refine (K2.out _ HB1.out).mono ?_
    rintro e w2 ⟨r2, rfl, hr2, hk2, hb2⟩
    have HB2 := Lib.hid (step_below HB1.out hb2)
    have HR2 := Lib.hid (And.intro hr2 hk2)
    clear hb2 hr2 hk2
    have KS := Lib.hid (K5.out r1 r2 HR1.out.1 HR2.out.1 (HR1.out.2.trans HR2.out.2.symm))
    go_wp2_with fail
    refine (KS.out _).mono ?_
    rintro e w3 ⟨rfl, hw⟩
    obtain rfl := hw.symm
    go_wp2_with fail
    refine (K3.out _ HB2.out).mono ?_
    rintro e w6 ⟨r6, rfl, hr6, hk6, hb6⟩
    have HB6 := Lib.hid (step_below HB2.out hb6)
    have HR6 := Lib.hid (And.intro hr6 hk6)
    clear hb6 hr6 hk6
    go_wp2_with fail
    refine (K4.out _ HB6.out).mono ?_
    rintro e w7 ⟨r7, rfl, hr7, hk7, hb7⟩
    have HB7 := Lib.hid (step_below HB6.out hb7)
    have HR7 := Lib.hid (And.intro hr7 hk7)
    clear hb7 hr7 hk7
    have KT := Lib.hid (K5.out r6 r7 HR6.out.1 HR7.out.1 (HR6.out.2.trans HR7.out.2.symm))
    go_wp2_with fail
    refine (KT.out _).mono ?_
    rintro e w8 ⟨rfl, hw⟩
    obtain rfl := hw.symm
    go_wp2_with fail
    refine (KW.out _ HB7.out).mono ?_
    rintro e w9 ⟨rfl, hb9⟩
    have HB9 := Lib.hid hb9
    clear hb9
    go_wp2
    exact HP.out _ HB9.out
set_option maxRecDepth 100000 in
set_option maxHeartbeats 1600000 in
theorem numbersPrint_walk (x : Nat) (w : World) (hx : x < 2 ^ 64) (he : ErrsW w) (ht : TabW w) : Calls Tryz.prog 5 #[.float .f64 x] w (YesPost w) := by
  have HP := Lib.hid (fun (w' : World) (hb : Below w.heap.size w w') => show YesPost w (.returned (.bool true)) w' from ⟨rfl, hb⟩)
  generalize YesPost w = post at *
  have KW := Lib.hid (fun (w1 : World) (hb : Below w.heap.size w w1) => works_at w w1 he ht hb)
  have K1 := Lib.hid (fun (w1 : World) (hb : Below w.heap.size w w1) => print_any x w1 hx (ht.below hb))
  have K2 := Lib.hid (fun (w1 : World) (hb : Below w.heap.size w w1) => parse_any (textN x) w1 (textN_size hx) (he.below hb) (ht.below hb))
  have K3 := Lib.hid (fun (w1 : World) => refPrint_any x w1 hx)
  have K4 := Lib.hid (fun (y : Nat) (c : Int) (h : ParseOk (textN x) y c) (w1 : World) => parse_print h hx ▸ refSame_any x y w1 hx h.1)
  have K5 := Lib.hid (fun (y : Nat) (c : Int) (h : ParseOk (textN x) y c) => (parse_zero h hx : c = 0))
  have hs := s_eq (textN x)
  clear he ht
  unfold TextPost at K1 K3
  generalize textN x = tx at *
  go_enter Tryz.func5, Tryz.ntmps5
  go_wp2_with fail
  refine (K1.out _ (Below.refl _ _)).mono ?_
  rintro e w1 ⟨rfl, hb1⟩
  have HB1 := Lib.hid hb1
  clear hb1
  go_wp2_with fail
  refine (K2.out _ HB1.out).mono ?_
  rintro e w2 ⟨hb2, y, c, rfl, hp⟩
  have HB2 := Lib.hid (step_below HB1.out hb2)
  obtain rfl := K5.out y c hp
  have KS := Lib.hid (K4.out y 0 hp)
  clear hb2 hp
  go_wp2_with fail
  refine (K3.out _).mono ?_
  rintro e w3 ⟨rfl, hb3⟩
  have HB3 := Lib.hid (step_below HB2.out hb3)
  clear hb3
  go_wp2_with fail
  refine (KS.out _).mono ?_
  rintro e w4 ⟨rfl, hw⟩
  obtain rfl := hw.symm
  go_wp2_with fail
  refine (KW.out _ HB3.out).mono ?_
  rintro e w5 ⟨rfl, hb5⟩
  have HB5 := Lib.hid hb5
  clear hb5
  go_wp2
  exact HP.out _ HB5.out
end Go.Proofs.YtbmmoclaijoofaaGreatDoor
