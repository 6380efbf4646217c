/- The contracts of put of bytes, of Byte, Short, Word, Long, Raw, and of Out. -/
import Derived.Test.YtohojfgceaajfaaFldB
namespace Go.Proofs.Ytohojfgceaajfaa
open Go.RowKit

set_option maxRecDepth 100000 in
set_option maxHeartbeats 1000000 in
theorem put_bytes (A : Option Addr) (m c : Nat) (e0 : Nat → Nat) (w : World) (g base : Nat) (v : Value) (L : Nat) (d : Nat → Nat) (hW : Wr w g base v L d) (hL : L ≤ 10000) (hm : m ≤ 10000) (hbase : base ≤ w.heap.size) (B : Nat) (hr : Holds w B A m e0) (hA : A = none → c = 0) (hmc : m ≤ c) :
    Calls Try.prog 31 #[.pointer (some ⟨g, 0, none⟩), .iface 25 (.slice A m c)] w fun e w' => e = .returned (.tuple #[]) ∧ Put w g base v (L + m) (joinD L d e0) w' := by
  obtain ⟨i0, hi, hz0, hz1, hz2⟩ := info_parts infoU8
  obtain ⟨hg, hown, hne⟩ := hW
  have hsl := ta_sl_sl
  have HO := Lib.hid hown
  have HG := Lib.hid hg
  have HR := Lib.hid hr
  have HA := Lib.hid hA
  have HNE := Lib.hid hne
  have hcell := cell_of_row w g 0 _ _ _ hg
  have hfr := frozen_of_row w g 0 _ _ hg
  have hgl := block_lt hg
  simp at hcell
  clear hg hown hne hr hA
  go_enter Try.func31, Try.ntmps31
  go_wp2_with (at_builtin; refine wpList_app_holds rfl _ _ 25 rfl base 5 i0 Try.underlying25 hi hz0 hz1 hz2 v L _ rfl HO.out B A m c e0 rfl HR.out HA.out hmc ?b5 ?b6 hbase ?_)
  case b5 => unfold maxLen; omega
  case b6 => omega
  intro v1 w1 hown1 hgr1 hmv1
  rw [join_cells] at hown1
  have hg1 := kept HG.out hgr1 (fun e => HNE.out e.symm)
  have hne1 := hmv1.ne hgl HNE.out
  have hcell1 := cell_of_row w1 g 0 _ _ _ hg1
  have hfr1 := frozen_of_row w1 g 0 _ _ hg1
  simp at hcell1
  have hp : Put w g base v (L + m) (joinD L d e0) (w1.setCell ⟨g, 0, none⟩ v1) :=
    ⟨v1, ⟨Go.Joins.block_setCell (i := 0) hg1 v1, ownsRow_setCell_other hown1 (a := ⟨g, 0, none⟩) hne1 v1, hne1⟩, ((KeptBut.refl w g v.ownBlock).grown (Moved.refl w v) hgr1).setCell (p := ⟨g, 0, none⟩) rfl v1, hmv1⟩
  have HPP := Lib.hid hp
  have hf := Go.Joins.ownsRow_forms hown1
  clear hcell hfr hown1 hgr1 hmv1 hg1 hne1 hp
  rcases hf with ⟨rfl, h0⟩ | ⟨g1, cap1, rfl⟩
  · clear h0
    go_wp2_with fail
    exact bodyPost_ret (v := .tuple #[]) (by simp [results, Try.results31, go_sem]) rfl ⟨rfl, HPP.out⟩
  · go_wp2_with fail
    exact bodyPost_ret (v := .tuple #[]) (by simp [results, Try.results31, go_sem]) rfl ⟨rfl, HPP.out⟩

theorem wByte_any (n : Nat) (hn : n < 256) (w : World) (g base : Nat) (v : Value) (L : Nat) (d : Nat → Nat) (hW : Wr w g base v L d) (hL : L ≤ 10000) (hbase : base ≤ w.heap.size) :
    Calls Try.prog 22 #[.pointer (some ⟨g, 0, none⟩), .int .u8 (n : Int)] w fun e w' => e = .returned (.tuple #[]) ∧ Put w g base v (L + 1) (joinD L d (numB n 1)) w' := by
  have H := Lib.hid (put_num 5 (.int .u8 (n : Int)) n 1 (by omega) (by decide) (by decide) w g base v L d hW hL hbase (fun w => ta_u8_sl w _) (fun w => number_u8 n w hn))
  clear hW
  go_enter Try.func22, Try.ntmps22
  go_wp2_with fail
  refine H.out.mono ?_
  rintro e w' ⟨rfl, hp⟩
  go_wp2_with fail
  go_end0
  exact ⟨rfl, hp⟩

theorem wShort_any (n : Nat) (hn : n < 65536) (w : World) (g base : Nat) (v : Value) (L : Nat) (d : Nat → Nat) (hW : Wr w g base v L d) (hL : L ≤ 10000) (hbase : base ≤ w.heap.size) :
    Calls Try.prog 23 #[.pointer (some ⟨g, 0, none⟩), .int .u16 (n : Int)] w fun e w' => e = .returned (.tuple #[]) ∧ Put w g base v (L + 2) (joinD L d (numB n 2)) w' := by
  have H := Lib.hid (put_num 54 (.int .u16 (n : Int)) n 2 (by omega) (by decide) (by decide) w g base v L d hW hL hbase (fun w => ta_u16_sl w _) (fun w => number_u16 n w hn))
  clear hW
  go_enter Try.func23, Try.ntmps23
  go_wp2_with fail
  refine H.out.mono ?_
  rintro e w' ⟨rfl, hp⟩
  go_wp2_with fail
  go_end0
  exact ⟨rfl, hp⟩

theorem wWord_any (n : Nat) (hn : n < 4294967296) (w : World) (g base : Nat) (v : Value) (L : Nat) (d : Nat → Nat) (hW : Wr w g base v L d) (hL : L ≤ 10000) (hbase : base ≤ w.heap.size) :
    Calls Try.prog 24 #[.pointer (some ⟨g, 0, none⟩), .int .u32 (n : Int)] w fun e w' => e = .returned (.tuple #[]) ∧ Put w g base v (L + 4) (joinD L d (numB n 4)) w' := by
  have H := Lib.hid (put_num 56 (.int .u32 (n : Int)) n 4 (by omega) (by decide) (by decide) w g base v L d hW hL hbase (fun w => ta_u32_sl w _) (fun w => number_u32 n w hn))
  clear hW
  go_enter Try.func24, Try.ntmps24
  go_wp2_with fail
  refine H.out.mono ?_
  rintro e w' ⟨rfl, hp⟩
  go_wp2_with fail
  go_end0
  exact ⟨rfl, hp⟩

theorem wLong_any (n : Nat) (hn : n < 18446744073709551616) (w : World) (g base : Nat) (v : Value) (L : Nat) (d : Nat → Nat) (hW : Wr w g base v L d) (hL : L ≤ 10000) (hbase : base ≤ w.heap.size) :
    Calls Try.prog 25 #[.pointer (some ⟨g, 0, none⟩), .int .u64 (n : Int)] w fun e w' => e = .returned (.tuple #[]) ∧ Put w g base v (L + 8) (joinD L d (numB n 8)) w' := by
  have H := Lib.hid (put_num 28 (.int .u64 (n : Int)) n 8 (by omega) (by decide) (by decide) w g base v L d hW hL hbase (fun w => ta_u64_sl w _) (fun w => number_u64 n w hn))
  clear hW
  go_enter Try.func25, Try.ntmps25
  go_wp2_with fail
  refine H.out.mono ?_
  rintro e w' ⟨rfl, hp⟩
  go_wp2_with fail
  go_end0
  exact ⟨rfl, hp⟩

theorem wRaw_any (A : Option Addr) (m c : Nat) (e0 : Nat → Nat) (w : World) (g base : Nat) (v : Value) (L : Nat) (d : Nat → Nat) (hW : Wr w g base v L d) (hL : L ≤ 10000) (hm : m ≤ 10000) (hbase : base ≤ w.heap.size) (B : Nat) (hr : Holds w B A m e0) (hA : A = none → c = 0) (hmc : m ≤ c) :
    Calls Try.prog 20 #[.pointer (some ⟨g, 0, none⟩), .slice A m c] w fun e w' => e = .returned (.tuple #[]) ∧ Put w g base v (L + m) (joinD L d e0) w' := by
  have H := Lib.hid (put_bytes A m c e0 w g base v L d hW hL hm hbase B hr hA hmc)
  clear hW hr hA hmc
  go_enter Try.func20, Try.ntmps20
  go_wp2_with fail
  refine H.out.mono ?_
  rintro e w' ⟨rfl, hp⟩
  go_wp2_with fail
  go_end0
  exact ⟨rfl, hp⟩

set_option maxHeartbeats 400000 in
theorem out_any (w : World) (g base : Nat) (v : Value) (L : Nat) (d : Nat → Nat) (hW : Wr w g base v L d) (hL : L ≤ 20000) :
    Calls Try.prog 12 #[.pointer (some ⟨g, 0, none⟩)] w fun e w' => (∃ v', e = .returned v' ∧ w'.ownsRow w.heap.size 5 1 v' L (cells d L)) ∧ Below w.heap.size w w' := by
  obtain ⟨i0, hi, hz0, hz1, hz2⟩ := info_parts infoU8
  obtain ⟨hg, hown, hne⟩ := hW
  obtain ⟨A, cap, rfl, h1, h2, h3, h4⟩ := own_slice hown
  have hcell := cell_of_row w g 0 _ _ _ hg
  simp at hcell
  have HR := Lib.hid h3
  have HA := Lib.hid h4
  have HC := Lib.hid h1
  clear hg hown hne h3 h4 h1 h2
  go_enter Try.func12, Try.ntmps12
  go_wp2_with (at_builtin; refine wpList_app_holds rfl _ _ 25 rfl w.heap.size 5 i0 Try.underlying25 hi hz0 hz1 hz2 _ 0 [] rfl (World.ownsRow_nil _ _ _ _) w.heap.size A L cap d rfl HR.out HA.out HC.out ?b5 ?b6 ?b7 ?_)
  case b5 => unfold maxLen; omega
  case b6 => omega
  case b7 => omega
  intro v1 w1 hown1 hgr1 _
  have hb := (Below.refl w.heap.size w).grown hgr1 (Nat.le_refl _) (fun g hg => by cases hg)
  have HO1 := Lib.hid (show w1.ownsRow w.heap.size 5 1 v1 L (cells d L) by simpa using hown1)
  clear hown1 hgr1
  go_wp2_with fail
  go_ret
  exact ⟨⟨v1, rfl, HO1.out⟩, hb⟩
end Go.Proofs.Ytohojfgceaajfaa
