/- drv's reference: Get. -/
import Derived.Test.YtbniilajffjfcaaGreatDoorDmU1
set_option linter.unusedVariables false
set_option linter.unusedSimpArgs false
namespace Go.Proofs.YtbniilajffjfcaaGreatDoor
open Go.RowKit Go.BigFrame

set_option maxRecDepth 100000 in
set_option maxHeartbeats 1000000 in
theorem refGetD_any (u : Value) (b : List UInt8) (w : World) (hu : Byt w u b) (hl : b.length ≤ 1000000) :
    Calls Tryz.prog 22 #[u] w (GetP b w) := by
  have HNO := Lib.hid (fun (h : getS b = none) (w' : World) (hb : Below w.heap.size w w') => GetP.no h hb)
  have HYES := Lib.hid (fun (nm : ByteArray) (ins : List ByteArray) (rc : ByteArray) (v : Value) (w' : World) (h : getS b = some (nm, ins, rc)) (hb : Below w.heap.size w w') (ho : w'.ownsRow w.heap.size 9 1 v ins.length (strs ins)) => GetP.yes h hb ho)
  generalize GetP b w = post at *
  obtain ⟨w1, hw1, hg0, hb1, hz1⟩ := row_new w (.cells #[.string ⟨#[]⟩, .slice none 0 0, .string ⟨#[]⟩] 28)
  have HPA := Lib.hid (parts_any u b w1 (hu.below hb1) hl)
  have HS1 := Lib.hid hg0
  have HB1 := Lib.hid hb1
  have HZ1 := Lib.hid hz1
  obtain ⟨A, cap, rfl, _⟩ := hu
  cases hg : getS b with
  | none =>
    have HP2 := Lib.hid (HPA.out.mono fun e w2 h => show Below w1.heap.size w1 w2 ∧ ∃ s A n cap t, e = .returned (.tuple #[.agg #[.string s, .slice A n cap, .string t], .bool false]) from by
      obtain ⟨h1, h2⟩ := h; rw [hg] at h2; exact ⟨h1, h2⟩)
    have HN := Lib.hid hg
    clear hg HPA
    go_enter Tryz.func22, Tryz.ntmps22
    go_upto_region 1 with (fail)
    rw [← hw1]
    clear hw1 hg0 hb1
    go_wp2_with fail
    refine HP2.out.mono ?_
    rintro e w2 ⟨hb2, s, A2, n2, c2, t2, rfl⟩
    have HS2 := Lib.hid ((hb2.block _ (block_lt HS1.out)).trans HS1.out)
    have HB2 := Lib.hid (below_step HB1.out hb2 HB1.out.size)
    obtain ⟨hx0, hx1, hx2⟩ := three_cells HS2.out
    have hg0 := blk_free HS2.out 0
    have hg1 := blk_free HS2.out 1
    have hg2 := blk_free HS2.out 2
    have hlt := block_lt HS2.out
    clear hb2
    go_wp2_with fail
    have HS3 := Lib.hid (three_set HS2.out (.string ⟨#[]⟩) (.slice none 0 0) (.string ⟨#[]⟩))
    have HB3 := Lib.hid (three_below HB2.out (Nat.le_refl _) (.string ⟨#[]⟩) (.slice none 0 0) (.string ⟨#[]⟩))
    exact bodyPost_ret (v := .tuple #[.agg #[.string ⟨#[]⟩, .slice none 0 0, .string ⟨#[]⟩], .int .i64 150]) (results_cell_tmp Tryz.results22 _ _ w.heap.size 28 _ (0, 0) _ _ rfl rfl ((old_block _ _ _ (block_lt HS3.out)).trans HS3.out) Tryz.underlying28 rfl infoDrv) rfl (HNO.out HN.out _ (HB3.out.alloc HB3.out.size _))
  | some p =>
    obtain ⟨nm, ins, rc⟩ := p
    have HP2 := Lib.hid (HPA.out.mono fun e w2 h => show Below w1.heap.size w1 w2 ∧ ∃ v, e = .returned (.tuple #[.agg #[.string nm, v, .string rc], .bool true]) ∧ w2.ownsRow w1.heap.size 9 1 v ins.length (strs ins) from by
      obtain ⟨h1, h2⟩ := h; rw [hg] at h2; exact ⟨h1, h2⟩)
    have HY := Lib.hid (fun (v : Value) (w' : World) => HYES.out nm ins rc v w' hg)
    clear hg HPA
    go_enter Tryz.func22, Tryz.ntmps22
    go_upto_region 1 with (fail)
    rw [← hw1]
    clear hw1 hg0 hb1
    go_wp2_with fail
    refine HP2.out.mono ?_
    rintro e w2 ⟨hb2, v, rfl, ho⟩
    have HO2 := Lib.hid ho
    obtain ⟨A2, c2, rfl⟩ := own_form ho
    have HS2 := Lib.hid ((hb2.block _ (block_lt HS1.out)).trans HS1.out)
    have HB2 := Lib.hid (below_step HB1.out hb2 HB1.out.size)
    obtain ⟨hx0, hx1, hx2⟩ := three_cells HS2.out
    have hg0 := blk_free HS2.out 0
    have hg1 := blk_free HS2.out 1
    have hg2 := blk_free HS2.out 2
    have hlt := block_lt HS2.out
    clear hb2 ho
    go_wp2_with fail
    have HS3 := Lib.hid (three_set HS2.out (.string nm) (.slice A2 ins.length c2) (.string rc))
    have HB3 := Lib.hid (three_below HB2.out (Nat.le_refl _) (.string nm) (.slice A2 ins.length c2) (.string rc))
    have HO3 := Lib.hid (three_own HO2.out (g := w.heap.size) (fun e => by have := (HO2.out.lt _ e).1; have := block_lt HS1.out; omega) (.string nm) (.slice A2 ins.length c2) (.string rc))
    exact bodyPost_ret (v := .tuple #[.agg #[.string nm, .slice A2 ins.length c2, .string rc], .int .i64 0]) (results_cell_tmp Tryz.results22 _ _ w.heap.size 28 _ (0, 0) _ _ rfl rfl ((old_block _ _ _ (block_lt HS3.out)).trans HS3.out) Tryz.underlying28 rfl infoDrv) rfl (HY.out _ _ (HB3.out.alloc HB3.out.size _) ((own_base HO3.out (by rw [HZ1.out]; omega)).alloc _))
end Go.Proofs.YtbniilajffjfcaaGreatDoor
