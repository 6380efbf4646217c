/- numbers: the numbers at the edges, walked. -/
import Derived.Test.YtbmmoclaijoofaaGreatDoorNumZa
set_option linter.unusedVariables false
set_option linter.unusedSimpArgs false
namespace Go.Proofs.YtbmmoclaijoofaaGreatDoor
open Go.RowKit Go.BigFrame
open Num (nanB sg rg rv sv tv key eqF ltF cmpI wd infR R53 P0 wholeR flN ONE TWO decS expS textR textN oddM oddE)

theorem e_three : Go.floatBits .mul .f64 1 4613937818241073152 = some 3 := by kernel_rfl
theorem e_sub : Go.floatBits .mul .f64 1 4841369599423283198 = some 4503599627370495 := by kernel_rfl
theorem e_norm : Go.floatBits .mul .f64 1 4841369599423283200 = some 4503599627370496 := by kernel_rfl
theorem e_quo : Go.floatBits .quo .f64 9214364837600034816 4845873199050653696 = some 8975674057349398528 := by kernel_rfl
theorem e_less : Go.floatBits .sub .f64 9214364837600034816 8975674057349398528 = some 9214364837600034815 := by kernel_rfl
theorem e_most : Go.floatBits .add .f64 9214364837600034816 9214364837600034815 = some 9218868437227405312 := by kernel_rfl
theorem infoF64 : (Tryz.prog.info? 25).map (fun i => (i.zero, i.size, i.bytes)) = some (some (.float .f64 0), 1, 8) := by kernel_rfl
def edgeL : List Nat := [0, 9223372036854775808, 4607182418800017408, 4602678819172646912, 4609434218613702656, 4611686018427387904, 4613937818241073152, 4591870180066957722, 4599676419421066581, 4622945017495814144, 4845873199050653695, 4845873199050653696, 4845873199050653696, 4845873199050653697, 4841369599423283199, 4841369599423283200, 4831355200913801216, 4936209963552724370, 9094988921128908188, 1, 3, 4503599627370495, 4503599627370496, 9214364837600034816, 9218868437227405312, 9218868437227405312]
theorem edge_new (w : World) (base : Nat) (h : base ≤ w.heap.size) : FOwn (w.alloc (.cells (floats edgeL).toArray 25)) base (.slice (some ⟨w.heap.size, 0, none⟩) 26 26) edgeL := by
  refine ⟨?_, by decide⟩
  exact World.ownsRow_lit (base := base) (e := 25) (size := 1) w (floats edgeL).toArray 26 h (by decide) (by decide)
theorem cell_one_at (w : World) (T : TypeId) (x : Value) : ∀ j u, [x][j]? = some u → (w.alloc (.cells #[x] T)).cell? ((⟨w.heap.size, 0, none⟩ : Addr).add j) = some u := by
  intro j u hj
  match j, hj with
  | 0, hj => simp at hj; subst hj; simp [Addr.add]
theorem nn_zero : Go.floatBits .quo .f64 0 0 = none := zz
theorem row_at {w : World} {base : Nat} {v : Value} {l : List Nat} (h : FOwn w base v l) (h0 : 0 < l.length) : ∃ ad cap, v = .slice (some ad) l.length cap ∧ l.length ≤ cap ∧ cap ≤ maxLen ∧ ∀ k, k < l.length → w.cell? (ad.add k) = some (.float .f64 (l.getD k 0)) := by
  obtain ⟨A, cap, rfl, h1, h2, _, h4⟩ := h.row
  obtain ⟨ad, rfl, _, hc⟩ := h4 h0
  exact ⟨ad, cap, rfl, h1, h2, hc⟩
theorem own_snoc {w : World} {base n : Nat} {v : Value} {l : List Nat} {x : Nat} (hl : ∀ b ∈ l, b < 2 ^ 64) (hx : x < 2 ^ 64) (h : w.ownsRow base 25 1 v n (floats l ++ [.float .f64 x])) (hn : n = l.length + 1) : FOwn w base v (l ++ [x]) := by
  subst hn
  refine ⟨by rw [floats_snoc, List.length_append]; exact h, fun b hb => ?_⟩
  rcases List.mem_append.1 hb with h1 | h1
  · exact hl b h1
  · rw [List.mem_singleton] at h1; subst h1; exact hx
def EdgesPost (w : World) (e : Ending) (w' : World) : Prop := ∃ v l, e = .returned v ∧ FRow w' v l ∧ l.length = 53 ∧ Below w.heap.size w w'
theorem order_self (x : Nat) : (Go.FloatKind.f64.format.order x x == some .lt) = false := by
  rw [Num.ord_lt]; unfold Num.ltF; simp
set_option maxRecDepth 100000 in
set_option maxHeartbeats 4000000 in
theorem edges_any (w : World) : Calls Tryz.prog 4 #[] w (EdgesPost w) := by
  obtain ⟨i0, hi, hz0, hz1, hz2⟩ := info_parts infoF64
  have HP := Lib.hid (fun (v : Value) (l : List Nat) (w' : World) (h1 : FRow w' v l) (h2 : l.length = 53) (hb : Below w.heap.size w w') => show EdgesPost w (.returned v) w' from ⟨v, l, rfl, h1, h2, hb⟩)
  generalize EdgesPost w = post at *
  have r1 := fun w1 => run_float_arith (P := Tryz.prog) w1 .quo 25 .f64 _ _ _ q_inf
  have HI := Lib.hid (And.intro hi (And.intro hz0 (And.intro hz1 hz2)))
  clear hi hz0 hz1 hz2
  go_enter Tryz.func4, Tryz.ntmps4
  go_wp2
  go_loopw [3] (fun xv wr => ∃ i x : Nat, xv = .float .f64 x ∧ Hid (HalfAt i x) ∧ wr = w) (fun xv _ => bitsOf xv)
  case atStart => exact ⟨0, _, rfl, Lib.hid half_start, rfl⟩
  case round =>
    obtain ⟨i, x, rfl, HA, hwr⟩ := hrel
    obtain rfl := hwr.symm
    by_cases hi : i < 1074
    · obtain ⟨y, hy1, hy2, hy3⟩ := half_step HA.out hi
      have hrun := fun w1 => run_float_arith (P := Tryz.prog) w1 .quo 25 .f64 _ _ _ hy3
      have hc := pos_gt (half_pos hy1) hy1.2.1
      have HA2 := Lib.hid hy1
      clear HA hy1 hy3 hi
      go_wp2
      go_roundw
      case rel => exact ⟨i + 1, y, rfl, HA2, by trivial⟩
      case measure => exact hy2
    · obtain rfl : i = 1074 := by have := HA.out.1; omega
      obtain rfl := half_end HA.out
      have r2 := fun w1 => run_float_arith (P := Tryz.prog) w1 .quo 25 .f64 _ _ _ q_half
      have c2 : (Go.FloatKind.f64.format.order 0 0 == some .gt) = false := (Num.ord_gt 0 0).trans (by decide)
      clear HA hi
      go_wp2
      go_loopw [4] (fun xv wr => ∃ i x : Nat, xv = .float .f64 x ∧ Hid (DoubleAt i x) ∧ wr = w) (fun xv _ => infR - bitsOf xv)
      case atStart => exact ⟨0, _, rfl, Lib.hid double_start, rfl⟩
      case round =>
        obtain ⟨i, x, rfl, HA, hwr⟩ := hrel
        obtain rfl := hwr.symm
        by_cases hi : i < 1023
        · obtain ⟨y, hy1, hy2, hy3⟩ := double_step HA.out hi
          have hrun := fun w1 => run_float_arith (P := Tryz.prog) w1 .mul 25 .f64 _ _ _ hy3
          have hc := lt_inf hy1.2.1
          have HA2 := Lib.hid hy1
          have hyi := hy1.2.1
          clear HA hy1 hy3 hi
          go_wp2
          go_roundw
          case rel => exact ⟨i + 1, y, rfl, HA2, by trivial⟩
          case measure => show infR - y < infR - x; omega
        · obtain rfl : i = 1023 := by have := HA.out.1; omega
          obtain rfl := double_end HA.out
          have r3 := fun w1 => run_float_arith (P := Tryz.prog) w1 .mul 25 .f64 _ _ _ mul_top
          have c3 := order_self 9218868437227405312
          have r4 := fun w1 => run_float_arith (P := Tryz.prog) w1 .quo 25 .f64 _ _ _ q_m
          have r5 := fun w1 => run_float_arith (P := Tryz.prog) w1 .mul 25 .f64 _ _ _ e_three
          have r6 := fun w1 => run_float_arith (P := Tryz.prog) w1 .mul 25 .f64 _ _ _ e_sub
          have r7 := fun w1 => run_float_arith (P := Tryz.prog) w1 .mul 25 .f64 _ _ _ e_norm
          have r8 := fun w1 => run_float_arith (P := Tryz.prog) w1 .quo 25 .f64 _ _ _ e_quo
          have r9 := fun w1 => run_float_arith (P := Tryz.prog) w1 .sub 25 .f64 _ _ _ e_less
          have ra := fun w1 => run_float_arith (P := Tryz.prog) w1 .add 25 .f64 _ _ _ e_most
          clear HA hi
          have HN := Lib.hid (edge_new w w.heap.size (Nat.le_refl _))
          go_wp2
          go_loopw [5, 7] (fun lv iv wr => ∃ (k : Nat) (ls : List Nat), iv = .int .i64 (k : Int) ∧ k ≤ 26 ∧ ls.length = 26 + k ∧ Hid (FOwn wr w.heap.size lv ls) ∧ Hid (Below w.heap.size w wr)) (fun _ iv _ => 26 - (intOf iv).toNat)
          case atStart => exact ⟨0, edgeL, rfl, by omega, rfl, HN, Lib.hid ((Below.refl _ _).alloc (Nat.le_refl _) _)⟩
          case round =>
            obtain ⟨k, ls, rfl, hk, hls, HO, HB⟩ := hrel
            obtain ⟨ad, cap, rfl, hcap, hcm, hcs⟩ := row_at HO.out (by omega)
            unfold maxLen at hcm
            have hbs := HB.out.size
            by_cases hlt : k < 26
            · have hc := hcs k (by omega)
              have hxl : ls.getD k 0 < 2 ^ 64 := by
                have e : ls.getD k 0 = ls[k]'(by omega) := by simp [List.getD, show k < ls.length by omega]
                rw [e]; exact HO.out.2 _ (List.getElem_mem _)
              have HXL := Lib.hid hxl
              obtain ⟨x, hx⟩ : ∃ x, x = ls.getD k 0 := ⟨_, rfl⟩
              rw [← hx] at hc hxl HXL
              have hng := fun w => run_neg (P := Tryz.prog) x _ (Num.neg_bits hxl) w
              have hy := Num.wd_lt (!sg x) (Num.rg_lt x)
              have HY := Lib.hid hy
              generalize wd (!sg x) (rg x) = y at *
              clear hcs hxl hy hx
              go_wp2_with (at_builtin; refine wpList_app rfl _ _ 22 rfl w.heap.size 25 i0 (.float .f64 0) 8 Tryz.underlying22 HI.out.1 HI.out.2.1 HI.out.2.2.1 HI.out.2.2.2 rfl _ _ _ rfl (HO.out.1.alloc _) ⟨wr.heap.size, 0, none⟩ 1 1 [.float .f64 y] rfl rfl (cell_one_at _ _ _) ?h1 ?h63 ?hby ?hba ?_)
              case h1 => simp [Value.oneCell']
              case h63 => unfold maxLen; omega
              case hby => omega
              case hba => simp; omega
              intro v' w1 hown1 hgrow1 _
              have HB1 := Lib.hid ((HB.out.alloc hbs (.cells #[.float .f64 y] 25)).grown hgrow1 (by simp; omega) (fun g e => (HO.out.1.lt g e).1))
              have HO2 := Lib.hid (own_snoc HO.out.2 HY.out hown1 (by omega))
              clear HO HB hgrow1 hown1 hc
              go_wp2
              go_roundw
              case rel => exact ⟨k + 1, ls ++ [y], by go_num, by omega, by rw [List.length_append, hls]; simp; omega, HO2, HB1⟩
              case measure => simp [intOf]; omega
            · obtain rfl : k = 26 := by omega
              obtain ⟨r, hr1, hr2, hrun⟩ := run_nan (P := Tryz.prog) wr .quo 25 0 0 (by simp) zz
              have HR := Lib.hid hr2
              have HBD := Lib.hid HB.out.drew
              have hbs2 := HBD.out.size
              clear hcs hr1 hr2
              go_wp2_with (at_builtin; refine wpList_app rfl _ _ 22 rfl w.heap.size 25 i0 (.float .f64 0) 8 Tryz.underlying22 HI.out.1 HI.out.2.1 HI.out.2.2.1 HI.out.2.2.2 rfl _ _ _ rfl (World.ownsRow.alloc (w := wr.drew) HO.out.1 _) ⟨wr.drew.heap.size, 0, none⟩ 1 1 [.float .f64 r] rfl rfl (cell_one_at _ _ _) ?h1b ?h63b ?hbyb ?hbab ?_)
              case h1b => simp [Value.oneCell']
              case h63b => unfold maxLen; omega
              case hbyb => omega
              case hbab => simp; omega
              intro v' w1 hown1 hgrow1 _
              have HB1 := Lib.hid ((HBD.out.alloc hbs2 (.cells #[.float .f64 r] 25)).grown hgrow1 (by simp; omega) (fun g e => (HO.out.1.lt g e).1))
              have HO2 := Lib.hid (own_snoc HO.out.2 HR.out hown1 (by omega))
              have HQ := Lib.hid (HP.out v' _ w1 HO2.out.row (by rw [List.length_append, hls]; rfl) HB1.out)
              obtain ⟨ad2, cap2, rfl, _⟩ := row_at HO2.out (by simp)
              clear HO HB hgrow1 hown1 HO2 HB1 HP
              go_wp2
              exact HQ.out
end Go.Proofs.YtbmmoclaijoofaaGreatDoor
