/- numbers: read, Parse. -/
import Derived.Test.YtbmmoclaijoofaaGreatDoorNumVd
set_option linter.unusedVariables false
set_option linter.unusedSimpArgs false
namespace Go.Proofs.YtbmmoclaijoofaaGreatDoor
open Go.RowKit Go.BigFrame
open Num (nanB sg rg rv sv tv key eqF ltF cmpI wd infR R53 P0 wholeR flN ONE decS expS textR textN oddM oddE)

theorem str_ne_is (x y : ByteArray) : (x.toList != y.toList) = !decide (x = y) := by rw [bne, str_eq_is]
theorem minus_text {s : ByteArray} (h : Lib.hasPrefix s.data.toList [45] = true) : s = ⟨#[45]⟩ ++ ⟨(Lib.trimPrefix s.data.toList [45]).toArray⟩ := by
  unfold Lib.trimPrefix
  rw [if_pos h]
  unfold Lib.hasPrefix at h
  obtain ⟨r, hr⟩ := List.isPrefixOf_iff_prefix.1 h
  apply str_ext
  simp [← hr]
theorem minus_in {s r : ByteArray} (h : ⟨#[45]⟩ ++ r = s) : Lib.hasPrefix s.data.toList [45] = true ∧ (⟨(Lib.trimPrefix s.data.toList [45]).toArray⟩ : ByteArray) = r := by
  subst h
  have h1 : Lib.hasPrefix ((⟨#[45]⟩ : ByteArray) ++ r).data.toList [45] = true := by
    unfold Lib.hasPrefix
    exact List.isPrefixOf_iff_prefix.2 ⟨r.data.toList, by simp⟩
  refine ⟨h1, ?_⟩
  apply str_ext
  unfold Lib.trimPrefix
  rw [if_pos h1]
  simp
theorem no_minus {r : Nat} (hr : r ≤ infR) : Lib.hasPrefix (textR r).data.toList [45] = false := by
  cases h : Lib.hasPrefix (textR r).data.toList [45] with
  | false => rfl
  | true =>
    exfalso
    unfold Lib.hasPrefix at h
    obtain ⟨t, ht⟩ := List.isPrefixOf_iff_prefix.1 h
    by_cases hi : r = infR
    · rw [hi] at ht
      unfold Num.textR at ht
      rw [if_pos rfl] at ht
      have := congrArg List.head? ht
      simp at this
    · obtain ⟨c, l, h1, h2, h3⟩ := text_head hr hi
      rw [h1] at ht
      have := congrArg List.head? ht
      simp at this
      subst this
      simp at h2
/-- What read tells: the number of a number's text. -/
def ReadOk (s : ByteArray) (x : Nat) (ok : Bool) : Prop := x < 2 ^ 64 ∧ ∀ b, b < 2 ^ 64 → textN b = s → ok = true ∧ textN x = s
theorem textN_cases {b : Nat} : (nanB b = true ∧ textN b = ⟨#[110, 97, 110]⟩) ∨ (nanB b = false ∧ rg b ≤ infR ∧ ((sg b = true ∧ textN b = ⟨#[45]⟩ ++ textR (rg b)) ∨ (sg b = false ∧ textN b = textR (rg b)))) := by
  cases hn : nanB b
  · right
    refine ⟨rfl, by unfold Num.nanB at hn; rw [decide_eq_false_iff_not] at hn; omega, ?_⟩
    cases hs : sg b
    · exact .inr ⟨rfl, by unfold Num.textN; rw [hn, hs]; rfl⟩
    · exact .inl ⟨rfl, by unfold Num.textN; rw [hn, hs]; rfl⟩
  · exact .inl ⟨rfl, by unfold Num.textN; rw [hn]; rfl⟩
theorem textN_pos {r : Nat} (hr : r ≤ infR) : textN r = textR r := by
  have h63 : r < 2 ^ 63 := by have := Num.infR_lt; omega
  obtain ⟨hs, hg⟩ := Num.pos_bits h63
  have hn : nanB r = false := by unfold Num.nanB; rw [hg]; simp; omega
  unfold Num.textN
  rw [hn, hs, hg]; rfl
theorem textN_neg {r : Nat} (hr : r ≤ infR) : textN (wd true r) = ⟨#[45]⟩ ++ textR r := by
  have h63 : r < 2 ^ 63 := by have := Num.infR_lt; omega
  have hn : nanB (wd true r) = false := by unfold Num.nanB; rw [Num.rg_wd _ h63]; simp; omega
  unfold Num.textN
  rw [hn, Num.sg_wd _ h63, Num.rg_wd _ h63]; rfl
theorem read_minus {s : ByteArray} {x : Nat} {ok : Bool} (hp : Lib.hasPrefix s.data.toList [45] = true) (h : SizeOk ⟨(Lib.trimPrefix s.data.toList [45]).toArray⟩ x ok) : ReadOk s (wd (!sg x) (rg x)) ok := by
  obtain ⟨h1, h2, _⟩ := h
  refine ⟨Num.wd_lt _ (Num.rg_lt x), fun b hb hbs => ?_⟩
  rcases textN_cases (b := b) with ⟨_, ht⟩ | ⟨hn, hle, ⟨hs, ht⟩ | ⟨hs, ht⟩⟩
  · exfalso
    rw [← hbs, ht] at hp
    revert hp; decide
  · obtain ⟨_, h4⟩ := minus_in (ht.symm.trans hbs)
    obtain ⟨h5, h6⟩ := h2 (rg b) hle h4.symm
    refine ⟨h5, ?_⟩
    have h63 := Num.rg_lt b
    obtain ⟨hs2, hg2⟩ := Num.pos_bits h63
    rw [h6, hs2, hg2, Bool.not_false, textN_neg hle, ← ht, hbs]
  · exfalso
    rw [← hbs, ht, no_minus hle] at hp
    cases hp
theorem read_plus {s : ByteArray} {x : Nat} {ok : Bool} (hp : Lib.hasPrefix s.data.toList [45] = false) (h : SizeOk s x ok) : ReadOk s x ok := by
  obtain ⟨h1, h2, h3⟩ := h
  refine ⟨h1, fun b hb hbs => ?_⟩
  rcases textN_cases (b := b) with ⟨_, ht⟩ | ⟨hn, hle, ⟨hs, ht⟩ | ⟨hs, ht⟩⟩
  · obtain ⟨h4, h5⟩ := h3 (hbs.symm.trans ht)
    refine ⟨h4, ?_⟩
    unfold Num.textN
    rw [h5, if_pos rfl, ← ht, hbs]
  · exfalso
    obtain ⟨h4, _⟩ := minus_in (ht.symm.trans hbs)
    rw [h4] at hp; cases hp
  · obtain ⟨h4, h5⟩ := h2 (rg b) hle (ht.symm.trans hbs)
    exact ⟨h4, by rw [h5, textN_pos hle, ← ht, hbs]⟩
def ReadPost (s : ByteArray) (w : World) (e : Ending) (w' : World) : Prop := Below w.heap.size w w' ∧ ∃ x ok, e = .returned (.tuple #[.float .f64 x, .bool ok]) ∧ ReadOk s x ok
set_option maxRecDepth 100000 in
set_option maxHeartbeats 1600000 in
theorem read_any (s : ByteArray) (w : World) (hs : s.size ≤ 1000000) (he : ErrsW w) : Calls Tryz.prog 35 #[.string s] w (ReadPost s w) := by
  have HP := Lib.hid (fun (x : Nat) (ok : Bool) (w' : World) (hb : Below w.heap.size w w') (h : ReadOk s x ok) => show ReadPost s w (.returned (.tuple #[.float .f64 x, .bool ok])) w' from ⟨hb, x, ok, rfl, h⟩)
  generalize ReadPost s w = post at *
  have HC := Lib.hid (Tryz.strings_CutPrefix s ⟨#[45]⟩ w)
  rw [show (⟨#[45]⟩ : ByteArray).data.toList = [45] from rfl] at HC
  cases hp : Lib.hasPrefix s.data.toList [45]
  · have HR := Lib.hid (fun (x : Nat) (ok : Bool) (h : SizeOk s x ok) => read_plus hp h)
    have HSZ := Lib.hid (size_any s w hs he)
    unfold SizePost at HSZ
    rw [hp] at HC
    clear hp he
    go_enter Tryz.func35, Tryz.ntmps35
    go_wp2_with fail
    refine HC.out.mono ?_
    rintro e w' ⟨rfl, hw⟩
    obtain rfl := hw.symm
    go_wp2_with fail
    refine HSZ.out.mono ?_
    rintro e w1 ⟨hb1, x, ok, rfl, h⟩
    have HQ := Lib.hid (HP.out x ok w1 hb1 (HR.out x ok h))
    clear hb1 h
    go_wp2
    exact HQ.out
  · have hl := congrArg ByteArray.size (minus_text hp)
    rw [ByteArray.size_append] at hl
    have hl1 : (⟨#[45]⟩ : ByteArray).size = 1 := rfl
    have HR := Lib.hid (fun (x : Nat) (ok : Bool) (h : SizeOk ⟨(Lib.trimPrefix s.data.toList [45]).toArray⟩ x ok) => read_minus hp h)
    have HSZ := Lib.hid (size_any ⟨(Lib.trimPrefix s.data.toList [45]).toArray⟩ w (by omega) he)
    unfold SizePost at HSZ
    rw [hp] at HC
    clear hp he hl hl1
    generalize (⟨(Lib.trimPrefix s.data.toList [45]).toArray⟩ : ByteArray) = rest at *
    go_enter Tryz.func35, Tryz.ntmps35
    go_wp2_with fail
    refine HC.out.mono ?_
    rintro e w' ⟨rfl, hw⟩
    obtain rfl := hw.symm
    go_wp2_with fail
    refine HSZ.out.mono ?_
    rintro e w1 ⟨hb1, x, ok, rfl, h⟩
    have hng := fun w => run_neg (P := Tryz.prog) x _ (Num.neg_bits h.1) w
    have HQ := Lib.hid (HP.out _ ok w1 hb1 (HR.out x ok h))
    clear hb1 h
    generalize wd (!sg x) (rg x) = y at *
    go_wp2
    exact HQ.out
/-- What Parse answers. -/
def ParseOk (s : ByteArray) (x : Nat) (c : Int) : Prop := x < 2 ^ 64 ∧ ((c = 0 ∧ textN x = s) ∨ (c = 210 ∧ x = 0 ∧ ∀ b, b < 2 ^ 64 → textN b ≠ s))
def ParsePost (s : ByteArray) (w : World) (e : Ending) (w' : World) : Prop := Below w.heap.size w w' ∧ ∃ x c, e = .returned (.tuple #[.float .f64 x, .int .i64 c]) ∧ ParseOk s x c
set_option maxRecDepth 100000 in
set_option maxHeartbeats 1600000 in
theorem parse_any (s : ByteArray) (w : World) (hs : s.size ≤ 1000000) (he : ErrsW w) (ht : TabW w) : Calls Tryz.prog 14 #[.string s] w (ParsePost s w) := by
  have HP := Lib.hid (fun (x : Nat) (c : Int) (w' : World) (hb : Below w.heap.size w w') (h : ParseOk s x c) => show ParsePost s w (.returned (.tuple #[.float .f64 x, .int .i64 c])) w' from ⟨hb, x, c, rfl, h⟩)
  generalize ParsePost s w = post at *
  have HRD := Lib.hid (read_any s w hs he)
  unfold ReadPost at HRD
  have HPR := Lib.hid (fun (x : Nat) (w1 : World) (hx : x < 2 ^ 64) (h : Below w.heap.size w w1) => print_any x w1 hx (ht.below h))
  unfold TextPost at HPR
  clear he ht
  go_enter Tryz.func14, Tryz.ntmps14
  go_wp2_with fail
  refine HRD.out.mono ?_
  rintro e w1 ⟨hb1, x, ok, rfl, hx, hr⟩
  have HB1 := Lib.hid hb1
  clear hb1
  cases ok
  · have HQ := Lib.hid (HP.out 0 210 w1 HB1.out ⟨by decide, .inr ⟨rfl, rfl, fun b hb h => by have := (hr b hb h).1; cases this⟩⟩)
    clear hr
    go_wp2
    exact HQ.out
  · have HR := Lib.hid hr
    have HPX := Lib.hid (HPR.out x w1 hx HB1.out)
    have h1 := str_ne_is (textN x) s
    have h0 := str_eq_is (textN x) s
    have HX := Lib.hid hx
    clear hr hx
    by_cases hts : textN x = s
    · rw [decide_eq_true hts] at h1 h0
      have HQ := Lib.hid (fun (w' : World) (hb : Below w.heap.size w w') => HP.out x 0 w' hb ⟨HX.out, .inl ⟨rfl, hts⟩⟩)
      clear hts
      generalize textN x = tx at *
      go_wp2_with fail
      refine HPX.out.mono ?_
      rintro e w2 ⟨rfl, hb2⟩
      have HB2 := Lib.hid (step_below HB1.out hb2)
      clear hb2
      go_wp2
      exact HQ.out w2 HB2.out
    · rw [decide_eq_false hts] at h1 h0
      have HQ := Lib.hid (fun (w' : World) (hb : Below w.heap.size w w') => HP.out 0 210 w' hb ⟨by decide, .inr ⟨rfl, rfl, fun b hb h => hts (HR.out b hb h).2⟩⟩)
      clear hts HR
      generalize textN x = tx at *
      go_wp2_with fail
      refine HPX.out.mono ?_
      rintro e w2 ⟨rfl, hb2⟩
      have HB2 := Lib.hid (step_below HB1.out hb2)
      clear hb2
      go_wp2
      exact HQ.out w2 HB2.out
end Go.Proofs.YtbmmoclaijoofaaGreatDoor
