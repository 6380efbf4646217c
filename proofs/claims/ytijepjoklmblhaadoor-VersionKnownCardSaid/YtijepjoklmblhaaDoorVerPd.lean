/- The tables that the program's text lays; the walk of the law VersionPrint. -/
import Derived.Test.YtijepjoklmblhaaDoorVerPc
import Derived.Test.YtijepjoklmblhaaDoorRows
import Derived.Test.YtijepjoklmblhaaDoorTie
import Derived.LaidMore
import Derived.Lib.LaidTab
namespace Go.Proofs.YtijepjoklmblhaaDoor
open Go.ChangeShapes Go.WideShapes Go.ChangeAt Go.RowKit Go.BigFrame
open Ver (prt okTag BL)

def laidL : List (String × DataW Unit) := [("math/bits.deBruijn32tab", Rows.laid_math_bits_deBruijn32tab), ("math/bits.deBruijn64tab", Rows.laid_math_bits_deBruijn64tab), ("internal/strconv.uint64pow10", Rows.laid_internal_strconv_uint64pow10)]
theorem tTab : (Tryd.prog.globals[1]?).map (·.type) = some 110 := by kernel_rfl
theorem cellsU64 : Tryd.prog.cellsOf 93 = 1 := by kernel_rfl
theorem cellsTab : Tryd.prog.cellsOf 110 = 20 := by kernel_rfl
theorem tab_data : (Rows.laid_internal_strconv_uint64pow10 : DataW Unit) = Lib.tabData .u64 Lib.pow10Tab := rfl
theorem of_laid {W : World} (h : laidMetH Tryd.prog laidL W) : TabW W := by
  rw [MakeChecks.laidMetH_plain _ _ _ (by kernel_rfl)] at h
  obtain ⟨ps, ⟨g0, t0, cs0, f0, p0, q0, hg0, ht0, hv0, hd0, ⟨g1, t1, cs1, f1, p1, q1, hg1, ht1, hv1, hd1, ⟨g2, t2, cs2, f2, p2, q2, hg2, ht2, hv2, hd2, _, _⟩, _⟩, _⟩, _, _⟩ := h
  obtain rfl := Option.some.inj (gTab.symm.trans hg2)
  obtain rfl := Option.some.inj (tTab.symm.trans ht2)
  rw [tab_data] at hd2
  unfold TabW Lib.TabIs
  rw [hv2, ← Lib.cells_of_tab Tryd.underlying110 Tryd.underlying93 cellsU64 cellsTab hd2]
set_option maxRecDepth 100000 in
set_option maxHeartbeats 2000000 in
theorem versionPrint_walk (a : Value) (xs : List Int) (p : ByteArray) (w : World) (htab : TabW w) (ha : Reads w w.heap.size a (ints xs)) :
    Calls Tryd.prog 3 #[.agg #[a, .string p]] w fun e w' => e = .returned (.bool true) ∧ Below w.heap.size w w' := by
  obtain ⟨A, ca, rfl⟩ := ha.form
  have HRA := Lib.hid ha
  have HTAB := Lib.hid htab
  clear ha htab
  by_cases hall : xs.length ≤ 100 ∧ p.size ≤ 100
  · obtain ⟨h1, h2⟩ := hall
    go_enter Tryd.func3, Tryd.ntmps3
    go_upto_region 1 with (fail)
    obtain ⟨W1, hW1, hg0, hb1, hz1⟩ := row_new w (.cells #[.slice A xs.length ca, .string p] 24)
    rw [← hW1]
    clear hW1
    have hR1 := Lib.hid ((HRA.out.below hb1).more hb1.size)
    have HT1 := Lib.hid (HTAB.out.below hb1)
    obtain ⟨hc0, hc1, _, _⟩ := cell_two hg0
    have hz : w.heap.size < W1.heap.size := by omega
    obtain ⟨ps, hps⟩ : ∃ ps, ps = printS xs p := ⟨_, rfl⟩
    obtain ⟨ep, hep⟩ : ∃ ep, ep = errP xs p := ⟨_, rfl⟩
    have HP := Lib.hid (fun w' h => print_any (.slice A xs.length ca) xs p W1.heap.size w' h)
    have HQ := Lib.hid (fun w' h => refPrint_any (.slice A xs.length ca) xs p W1.heap.size w' h)
    rw [← hps, ← hep] at HP HQ
    have e1 : (ps.toList == ps.toList) = true := by simp
    have e2 : (ep == ep) = true := by simp
    clear hps hep hg0 hz1
    go_wp2_with fail
    refine (HP.out _ hR1.out (Nat.le_refl _) (by omega) HT1.out).mono ?_
    rintro e w2 ⟨rfl, hb2⟩
    have hd0 := (hb2.cell (p := ⟨w.heap.size, 0, none⟩) hz).trans hc0
    have hd1 := (hb2.cell (p := ⟨w.heap.size, 1, none⟩) hz).trans hc1
    go_wp2_with fail
    refine (plain_any A xs.length ca p _).mono ?_
    rintro e w3 ⟨rfl, hb3⟩
    have hb23 := below_step hb2 hb3 hb2.size
    go_wp2_with fail
    refine (HQ.out _ (hR1.out.below hb23) hb23.size (by omega)).mono ?_
    rintro e w4 ⟨rfl, hb4⟩
    have hbf := below_step (below_step hb1 hb23 hb1.size) hb4 (below_step hb1 hb23 hb1.size).size
    go_wp2_with fail
    refine (works_any _).mono ?_
    rintro e w5 ⟨rfl, hb5⟩
    go_wp2_with fail
    go_ret
    exact ⟨rfl, below_step hbf hb5 hbf.size⟩
  · have hR : ∀ wk : World, Below w.heap.size w wk → Calls Tryd.prog 6 #[] wk fun e w2 => e = .returned (.bool true) ∧ Below w.heap.size w w2 := fun wk h => (works_any wk).mono fun _ _ ⟨he, hb⟩ => ⟨he, below_step h hb h.size⟩
    have HW := Lib.hid hR
    have HH : 100 < xs.length ∨ (xs.length ≤ 100 ∧ 100 < p.size) := by omega
    clear hall hR
    rcases HH with h1 | ⟨h1, h2⟩
    all_goals
      go_enter Tryd.func3, Tryd.ntmps3
      go_wp2_with (go_at_call 6; refine (HW.out _ ((Below.refl _ _).alloc (Nat.le_refl _) _)).mono ?_; rintro e w2 ⟨rfl, hb2⟩)
      go_ret
      exact ⟨rfl, hb2⟩
end Go.Proofs.YtijepjoklmblhaaDoor
