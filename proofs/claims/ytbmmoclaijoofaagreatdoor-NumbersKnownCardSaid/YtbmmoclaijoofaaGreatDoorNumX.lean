/- numbers: what the program's text lays. -/
import Derived.Test.YtbmmoclaijoofaaGreatDoorNumWa
import Derived.Test.YtbmmoclaijoofaaGreatDoorRows
import Derived.Test.YtbmmoclaijoofaaGreatDoorTie
import Derived.LaidMore
import Derived.Lib.LaidTab
import Derived.Stop.LaidErr
import Derived.Laws.Cover2
set_option linter.unusedVariables false
set_option linter.unusedSimpArgs false
namespace Go.Proofs.YtbmmoclaijoofaaGreatDoor
open Go.ChangeShapes Go.WideShapes Go.ChangeAt Go.RowKit Go.BigFrame

def laidL : List (String × DataW Unit) := [("math/bits.deBruijn32tab", Rows.laid_math_bits_deBruijn32tab), ("math/bits.deBruijn64tab", Rows.laid_math_bits_deBruijn64tab), ("internal/strconv.uint64pow10", Rows.laid_internal_strconv_uint64pow10), ("strconv.ErrRange", Rows.laid_strconv_ErrRange), ("strconv.ErrSyntax", Rows.laid_strconv_ErrSyntax)]
theorem tTab : (Tryz.prog.globals[1]?).map (·.type) = some 89 := by kernel_rfl
theorem cellsU64 : Tryz.prog.cellsOf 61 = 1 := by kernel_rfl
theorem cellsTab : Tryz.prog.cellsOf 89 = 20 := by kernel_rfl
theorem tab_data : (Rows.laid_internal_strconv_uint64pow10 : DataW Unit) = Lib.tabData .u64 Lib.pow10Tab := rfl
theorem tab_of {W : World} (h : laidMetH Tryz.prog laidL W) : TabW W := by
  rw [MakeChecks.laidMetH_plain _ _ _ (by kernel_rfl)] at h
  obtain ⟨ps, ⟨g0, t0, cs0, f0, p0, q0, hg0, ht0, hv0, hd0, ⟨g1, t1, cs1, f1, p1, q1, hg1, ht1, hv1, hd1, ⟨g2, t2, cs2, f2, p2, q2, hg2, ht2, hv2, hd2, _, _⟩, _⟩, _⟩, _, _⟩ := h
  obtain rfl := Option.some.inj (gTab.symm.trans hg2)
  obtain rfl := Option.some.inj (tTab.symm.trans ht2)
  rw [tab_data] at hd2
  unfold TabW Lib.TabIs
  rw [hv2, ← Lib.cells_of_tab Tryz.underlying89 Tryz.underlying61 cellsU64 cellsTab hd2]
theorem star : "*" ++ "errors.errorString" = "*errors.errorString" := by decide
theorem rowErr (u : TypeId) (h : Tryz.prog.typeName? 3 u = some "*errors.errorString") : u = 112 :=
  typeName_ptr_named (nm := "errors.errorString") (by rw [star]; kernel_rfl) (by kernel_rfl) (by decide) u (by rw [star]; exact h)
theorem gSyn : Tryz.prog.globalNamed "strconv.ErrSyntax" = some 3 := by kernel_rfl
theorem gRng : Tryz.prog.globalNamed "strconv.ErrRange" = some 4 := by kernel_rfl
theorem tSyn : (Tryz.prog.globals[3]?).map (·.type) = some 72 := by kernel_rfl
theorem tRng : (Tryz.prog.globals[4]?).map (·.type) = some 72 := by kernel_rfl
theorem cellsES : Tryz.prog.cellsOf 114 = 1 := by kernel_rfl
theorem cellsStr : Tryz.prog.cellsOf 9 = 1 := by kernel_rfl
theorem errs_of {W : World} (h : laidMetH Tryz.prog laidL W) : ErrsW W := by
  rw [MakeChecks.laidMetH_plain _ _ _ (by kernel_rfl)] at h
  have h3 := laidMet.tail (laidMet.tail (laidMet.tail h))
  obtain ⟨a0, s0, hv0, _⟩ := laid_sentinel h3 gRng tRng Tryz.underlying72 rowErr Tryz.underlying112 Tryz.underlying114 rfl rfl Tryz.underlying9 cellsES cellsStr
  obtain ⟨a1, s1, hv1, _⟩ := laid_sentinel (laidMet.tail h3) gSyn tSyn Tryz.underlying72 rowErr Tryz.underlying112 Tryz.underlying114 rfl rfl Tryz.underlying9 cellsES cellsStr
  exact ⟨⟨_, by simpa using World.var?_cell gSyn hv1 0, .inr ⟨_, _, rfl⟩⟩, ⟨_, by simpa using World.var?_cell gRng hv0 0, .inr ⟨_, _, rfl⟩⟩⟩
structure LaidW (W : World) : Prop where
  errs : ErrsW W
  tab : TabW W
theorem of_laid {W : World} (h : laidMetH Tryz.prog laidL W) : LaidW W := ⟨errs_of h, tab_of h⟩
/-- A number that came in. -/
theorem open_num {H : Type} {enc : TypeId × Value → H} {P : Program} {w : World} {base : Nat} {sp : Nat → Bool} {held : Bool} {r : Reach} {b0 : Nat} {T : TypeId} {v : Value} {x : DataW H} {ps : List MemPlace}
    (hT : P.underlying T = some (.float .f64)) (_lt : ∀ x ∈ ps, x.block < w.heap.size)
    (hval : Value.okWide P w r b0 T v) (hd : DataW.Trod enc P w base sp held T v x ps) : ∃ b : Nat, b < 2 ^ 64 ∧ v = .float .f64 b := by
  obtain ⟨b, h1, _, _, hw⟩ := open_float hT hval hd
  exact ⟨b, by simpa [Lit.wf] using hw, h1⟩
/-- A row of numbers that came in. -/
theorem open_nums {H : Type} {enc : TypeId × Value → H} {P : Program} {w : World} {base : Nat} {sp : Nat → Bool} {held : Bool} {r : Reach} {b0 : Nat} {T e : TypeId} {v : Value} {x : DataW H} {ps : List MemPlace}
    (hT : P.underlying T = some (.slice e)) (he : P.underlying e = some (.float .f64)) (h1 : P.cellsOf e = 1) (_lt : ∀ x ∈ ps, x.block < w.heap.size)
    (hval : Value.okWide P w r b0 T v) (hd : DataW.Trod enc P w base sp held T v x ps) : ∃ (l : List Nat), FRow w v l := by
  obtain ⟨A, n, cap, rfl⟩ := okWide_slice hT hval
  obtain ⟨fuel, hf⟩ := hd
  rcases Go.Deep.open_slice1 hT h1 hf with ⟨hcs, _⟩ | ⟨a, len, cap', m, k, V, D, Pl, hcs, _, hl, hm, hmm, _, hel⟩
  · simp [Value.cells] at hcs
    obtain ⟨rfl, rfl, rfl⟩ := hcs
    exact ⟨[], none, 0, rfl, Nat.le_refl _, by decide, fun _ => by simp, fun h => absurd h (by simp)⟩
  · simp [Value.cells] at hcs
    obtain ⟨rfl, rfl, rfl⟩ := hcs
    have hnm : n ≤ m := by rw [hmm]; split <;> omega
    have hc : ∀ i, i < n → ∃ b : Nat, b < 2 ^ 64 ∧ w.cell? (a.add i) = some (.float .f64 b) := by
      intro i hi
      obtain ⟨h2, h3⟩ := hel i (by omega)
      obtain ⟨b, eb, wb⟩ : ∃ b, V i = .float .f64 b ∧ b < 2 ^ 64 := by
        cases k with
        | zero => simp [DataW.trod] at h3
        | succ q =>
          unfold DataW.trod at h3
          rw [he] at h3
          split at h3 <;> first | (simp_all; done) | skip
          rename_i kk kb bb e1 e2
          cases e1
          split at h3
          · rename_i hw
            obtain ⟨rfl, hw⟩ := hw
            simp only [List.cons.injEq, and_true] at e2
            exact ⟨bb, e2, by simpa [Lit.wf] using hw⟩
          · cases h3
      exact ⟨b, wb, by rw [h2, eb]⟩
    obtain ⟨g, hg⟩ : ∃ g : Nat → Nat, ∀ i, i < n → g i < 2 ^ 64 ∧ w.cell? (a.add i) = some (.float .f64 (g i)) :=
      ⟨fun i => if h : i < n then Classical.choose (hc i h) else 0, fun i hi => by
        have := Classical.choose_spec (hc i hi)
        simp only [hi, dite_true]
        exact this⟩
    have hlen : ((List.range n).map g).length = n := by simp
    have hget : ∀ i, i < n → ((List.range n).map g).getD i 0 = g i := fun i hi => by simp [List.getD, hi]
    refine ⟨(List.range n).map g, some a, cap, by rw [hlen], by rw [hlen]; exact hl, hm, fun i => ?_, fun h0 => ⟨a, rfl, ?_, fun i hi => ?_⟩⟩
    · by_cases hi : i < n
      · rw [hget i hi]; exact (hg i hi).1
      · simp [List.getD, hi]
    · rw [hlen] at h0
      have := block_lt_of_cell (hg 0 h0).2
      rwa [add_block] at this
    · rw [hlen] at hi
      rw [hget i hi]; exact (hg i hi).2
/-- A byte that came in. -/
theorem open_u8 {H : Type} {enc : TypeId × Value → H} {P : Program} {w : World} {base : Nat} {sp : Nat → Bool} {held : Bool} {r : Reach} {b0 : Nat} {T : TypeId} {v : Value} {x : DataW H} {ps : List MemPlace}
    (hT : P.underlying T = some (.int .u8)) (_lt : ∀ x ∈ ps, x.block < w.heap.size)
    (hval : Value.okWide P w r b0 T v) (hd : DataW.Trod enc P w base sp held T v x ps) : ∃ o : Nat, o < 256 ∧ v = .int .u8 (o : Int) := by
  obtain ⟨a, h1, _, _, hw⟩ := open_int hT hval hd
  have hb := bounds_u8 hw
  exact ⟨a.toNat, by omega, by rw [h1]; congr 1; omega⟩
set_option maxRecDepth 100000 in
theorem cellsF64 : Tryz.prog.cellsOf 25 = 1 := by kernel_rfl
set_option maxRecDepth 100000 in
theorem open_f {H : Type} {enc : TypeId × Value → H} {w : World} {base : Nat} {sp : Nat → Bool} {held : Bool} {r : Reach} {b0 : Nat} {v : Value} {x : DataW H} {ps : List MemPlace} (lt : ∀ x ∈ ps, x.block < w.heap.size) (hval : Value.okWide Tryz.prog w r b0 25 v) (hd : DataW.Trod enc Tryz.prog w base sp held 25 v x ps) : ∃ b : Nat, b < 2 ^ 64 ∧ v = .float .f64 b := open_num Tryz.underlying25 lt hval hd
set_option maxRecDepth 100000 in
theorem open_o {H : Type} {enc : TypeId × Value → H} {w : World} {base : Nat} {sp : Nat → Bool} {held : Bool} {r : Reach} {b0 : Nat} {v : Value} {x : DataW H} {ps : List MemPlace} (lt : ∀ x ∈ ps, x.block < w.heap.size) (hval : Value.okWide Tryz.prog w r b0 5 v) (hd : DataW.Trod enc Tryz.prog w base sp held 5 v x ps) : ∃ o : Nat, o < 256 ∧ v = .int .u8 (o : Int) := open_u8 Tryz.underlying5 lt hval hd
set_option maxRecDepth 100000 in
theorem open_l {H : Type} {enc : TypeId × Value → H} {w : World} {base : Nat} {sp : Nat → Bool} {held : Bool} {r : Reach} {b0 : Nat} {v : Value} {x : DataW H} {ps : List MemPlace} (lt : ∀ x ∈ ps, x.block < w.heap.size) (hval : Value.okWide Tryz.prog w r b0 22 v) (hd : DataW.Trod enc Tryz.prog w base sp held 22 v x ps) : ∃ (vv : Value) (l : List Nat), FRow w vv l ∧ v = vv := by
  obtain ⟨l, h⟩ := open_nums Tryz.underlying22 Tryz.underlying25 cellsF64 lt hval hd
  exact ⟨v, l, h, rfl⟩
theorem numbersDo_w (o x y : Nat) (W : World) (h : LaidW W) (ho : o < 256) (_hx : x < 2 ^ 64) (_hy : y < 2 ^ 64) : Calls Tryz.prog 9 #[.int .u8 (o : Int), .float .f64 x, .float .f64 y] W fun e w' => e = .returned (.bool true) ∧ Below W.heap.size W w' := numbersDo_walk o x y W ho h.errs h.tab
theorem numbersCompare_w (x y : Nat) (W : World) (h : LaidW W) (hx : x < 2 ^ 64) (hy : y < 2 ^ 64) : Calls Tryz.prog 7 #[.float .f64 x, .float .f64 y] W fun e w' => e = .returned (.bool true) ∧ Below W.heap.size W w' := numbersCompare_walk x y W hx hy h.errs h.tab
theorem numbersLeast_w (v : Value) (l : List Nat) (W : World) (h : LaidW W) (hv : FRow W v l) : Calls Tryz.prog 10 #[v] W fun e w' => e = .returned (.bool true) ∧ Below W.heap.size W w' := numbersLeast_walk v l W hv h.errs h.tab
theorem numbersPrint_w (x : Nat) (W : World) (h : LaidW W) (hx : x < 2 ^ 64) : Calls Tryz.prog 5 #[.float .f64 x] W fun e w' => e = .returned (.bool true) ∧ Below W.heap.size W w' := numbersPrint_walk x W hx h.errs h.tab
end Go.Proofs.YtbmmoclaijoofaaGreatDoor
