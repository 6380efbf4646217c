/- The contracts of the reader's Raw, Left, Bad. -/
import Derived.Test.YtohojfgceaajfaaFldE
namespace Go.Proofs.Ytohojfgceaajfaa
open Go.RowKit

/-- What a reader answers of bytes asked for: those, or none. -/
def RawGot (w : World) (g n : Nat) (z : Int) (d : Nat → Nat) (bad : Bool) (e : Ending) (w' : World) : Prop :=
  KeptBut w w' g none ∧ if bad = false ∧ 0 ≤ z ∧ z ≤ n then (∃ v, e = .returned v ∧ w'.ownsRow w.heap.size 5 1 v z.toNat (cells d z.toNat)) ∧ Rd w' g (n - z.toNat) (shiftD z.toNat d) false
    else (∃ v, e = .returned v ∧ w'.ownsRow w.heap.size 5 1 v 0 []) ∧ Rd w' g 0 (fun _ => 0) true

theorem rd_grown {w w' : World} {g n : Nat} {d : Nat → Nat} {bad : Bool} (h : Rd w g n d bad) (hg : w.grownBy w' none) : Rd w' g n d bad :=
  h.below ⟨hg.os, hg.tape, hg.output, hg.size, fun k hk => hg.block k hk (fun e => by cases e)⟩
theorem keptbut_grown {w w1 w2 : World} {g : Nat} (h : KeptBut w w1 g none) (hg : w1.grownBy w2 none) : KeptBut w w2 g none :=
  keptbut_none h (KeptBut.of_below g none ⟨hg.os, hg.tape, hg.output, hg.size, fun k hk => hg.block k hk (fun e => by cases e)⟩)

set_option maxHeartbeats 400000 in
theorem rRaw_ok (k : Nat) (w : World) (g n : Nat) (d : Nat → Nat) (hR : Rd w g n d false) (hk : k ≤ n) (hk2 : k ≤ 20000) :
    Calls Try.prog 21 #[.pointer (some ⟨g, 0, none⟩), .int .i64 (k : Int)] w fun e w' => RawGot w g n (k : Int) d false e w' := by
  obtain ⟨i0, hi, hz0, hz1, hz2⟩ := info_parts infoU8
  have HT := Lib.hid (take_ok k w g n d hR hk)
  have HK := Lib.hid hk
  clear hR hk
  go_enter Try.func21, Try.ntmps21
  go_wp2_with fail
  refine HT.out.mono ?_
  rintro e w1 ⟨A, c, rfl, hr, hkc, hcm, hA, hR1, hkb⟩
  have HR := Lib.hid hr
  have HA := Lib.hid hA
  have HR1 := Lib.hid hR1
  have HKB := Lib.hid hkb
  have hz := hkb.size
  clear hr hA hR1 hkb
  go_wp2_with (at_builtin; refine wpList_app_holds rfl _ _ 25 rfl w.heap.size 5 i0 Try.underlying25 hi hz0 hz1 hz2 _ 0 [] rfl (World.ownsRow_nil _ _ _ _) g A k c d rfl HR.out HA.out hkc ?b5 ?b6 hz ?_)
  case b5 => unfold maxLen; omega
  case b6 => omega
  intro v1 w2 hown1 hgr1 _
  have HO := Lib.hid (show w2.ownsRow w.heap.size 5 1 v1 k (cells d k) by simpa using hown1)
  have HR2 := Lib.hid (rd_grown HR1.out hgr1)
  have HK2 := Lib.hid (keptbut_grown HKB.out hgr1)
  clear hown1 hgr1
  go_wp2_with fail
  go_ret
  refine ⟨HK2.out, ?_⟩
  rw [if_pos ⟨rfl, by omega, by have := HK.out; omega⟩]
  exact ⟨⟨v1, rfl, HO.out⟩, HR2.out⟩
set_option maxHeartbeats 400000 in
theorem rRaw_no (z : Int) (w : World) (g n : Nat) (d : Nat → Nat) (hR : Rd w g n d false) (hz : z < 0 ∨ (n : Int) < z) :
    Calls Try.prog 21 #[.pointer (some ⟨g, 0, none⟩), .int .i64 z] w fun e w' => RawGot w g n z d false e w' := by
  obtain ⟨i0, hi, hz0, hz1, hz2⟩ := info_parts infoU8
  have HT := Lib.hid (take_no z w g n d hR hz)
  have HZ := Lib.hid hz
  clear hR hz
  go_enter Try.func21, Try.ntmps21
  go_wp2_with fail
  refine HT.out.mono ?_
  rintro e w1 ⟨rfl, hR1, hkb⟩
  have HR1 := Lib.hid hR1
  have HKB := Lib.hid hkb
  have hz := hkb.size
  clear hR1 hkb
  go_wp2_with (at_builtin; refine wpList_app_holds rfl _ _ 25 rfl w.heap.size 5 i0 Try.underlying25 hi hz0 hz1 hz2 _ 0 [] rfl (World.ownsRow_nil _ _ _ _) g none 0 0 (fun _ => 0) rfl (fun h => absurd h (by omega)) (fun _ => rfl) (Nat.le_refl _) ?b5 ?b6 hz ?_)
  case b5 => decide
  case b6 => decide
  intro v1 w2 hown1 hgr1 _
  have HO := Lib.hid (show w2.ownsRow w.heap.size 5 1 v1 0 [] by simpa [cells] using hown1)
  have HR2 := Lib.hid (rd_grown HR1.out hgr1)
  have HK2 := Lib.hid (keptbut_grown HKB.out hgr1)
  clear hown1 hgr1
  go_wp2_with fail
  go_ret
  refine ⟨HK2.out, ?_⟩
  rw [if_neg (fun h => by have := HZ.out; omega)]
  exact ⟨⟨v1, rfl, HO.out⟩, HR2.out⟩
set_option maxHeartbeats 400000 in
theorem rRaw_bad (z : Int) (w : World) (g : Nat) (d : Nat → Nat) (hR : Rd w g 0 d true) :
    Calls Try.prog 21 #[.pointer (some ⟨g, 0, none⟩), .int .i64 z] w fun e w' => RawGot w g 0 z d true e w' := by
  obtain ⟨i0, hi, hz0, hz1, hz2⟩ := info_parts infoU8
  have HT := Lib.hid (take_bad z w g d hR)
  have HR1 := Lib.hid hR
  clear hR
  go_enter Try.func21, Try.ntmps21
  go_wp2_with fail
  refine HT.out.mono ?_
  rintro e w1 ⟨rfl, rfl⟩
  go_wp2_with (at_builtin; refine wpList_app_holds rfl _ _ 25 rfl w.heap.size 5 i0 Try.underlying25 hi hz0 hz1 hz2 _ 0 [] rfl (World.ownsRow_nil _ _ _ _) g none 0 0 (fun _ => 0) rfl (fun h => absurd h (by omega)) (fun _ => rfl) (Nat.le_refl _) ?b5 ?b6 (Nat.le_refl _) ?_)
  case b5 => decide
  case b6 => decide
  intro v1 w2 hown1 hgr1 _
  have HO := Lib.hid (show w2.ownsRow w.heap.size 5 1 v1 0 [] by simpa [cells] using hown1)
  have HR2 := Lib.hid (rd_grown HR1.out hgr1)
  have HK2 := Lib.hid (keptbut_grown (KeptBut.refl w g none) hgr1)
  clear hown1 hgr1
  go_wp2_with fail
  go_ret
  refine ⟨HK2.out, ?_⟩
  rw [if_neg (fun h => by cases h.1)]
  exact ⟨⟨v1, rfl, HO.out⟩, HR2.out.zero⟩
theorem rRaw_any (z : Int) (w : World) (g n : Nat) (d : Nat → Nat) (bad : Bool) (hR : Rd w g n d bad) (hb : bad = true → n = 0) (hn : n ≤ 20000) :
    Calls Try.prog 21 #[.pointer (some ⟨g, 0, none⟩), .int .i64 z] w fun e w' => RawGot w g n z d bad e w' := by
  cases bad with
  | true =>
    obtain rfl := hb rfl
    exact rRaw_bad z w g d hR
  | false =>
    by_cases h : 0 ≤ z ∧ z ≤ n
    · obtain ⟨k, rfl⟩ : ∃ k : Nat, z = (k : Int) := ⟨z.toNat, by omega⟩
      exact rRaw_ok k w g n d hR (by omega) (by omega)
    · exact rRaw_no z w g n d hR (by omega)

theorem left_any (w : World) (g n : Nat) (d : Nat → Nat) (bad : Bool) (hR : Rd w g n d bad) :
    Calls Try.prog 19 #[.pointer (some ⟨g, 0, none⟩)] w fun e w' => e = .returned (.int .i64 (n : Int)) ∧ w = w' := by
  obtain ⟨A, cap, hg, hr, h1, h2, h3⟩ := hR
  have hc0 := cell_of_row w g 0 _ _ _ hg
  simp at hc0
  clear hg hr h3
  go_enter Try.func19, Try.ntmps19
  go_wp2_with fail
  go_ret
  exact ⟨rfl, rfl⟩
theorem bad_any (w : World) (g n : Nat) (d : Nat → Nat) (bad : Bool) (hR : Rd w g n d bad) :
    Calls Try.prog 18 #[.pointer (some ⟨g, 0, none⟩)] w fun e w' => e = .returned (.bool bad) ∧ w = w' := by
  obtain ⟨A, cap, hg, hr, h1, h2, h3⟩ := hR
  have hc0 := cell_of_row w g 1 _ _ _ hg
  simp at hc0
  clear hg hr h3
  go_enter Try.func18, Try.ntmps18
  go_wp2_with fail
  go_ret
  exact ⟨rfl, rfl⟩
end Go.Proofs.Ytohojfgceaajfaa
