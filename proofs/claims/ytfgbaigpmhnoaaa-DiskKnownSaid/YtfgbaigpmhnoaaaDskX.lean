/- disk: Rename. -/
import Derived.Test.YtfgbaigpmhnoaaaDmV
set_option linter.unusedVariables false
set_option linter.unusedSimpArgs false
namespace Go.Proofs.Ytfgbaigpmhnoaaa
open Go.RowKit Go.BigFrame Go.Maps
open Dsk (Fl St Ok get put drop used)

def renameS (S : St) (s t : ByteArray) : St := if refC S [s, t] ≠ 0 then S else match get S.fs s with
  | none => S
  | some f => stepEnd S { plus1 S with fs := renFs S.fs s t f } false
def renameC (S : St) (s t : ByteArray) : Int := if refC S [s, t] ≠ 0 then refC S [s, t] else match get S.fs s with
  | none => 5
  | some _ => stepC S.armed
theorem refC_two {S : St} {s t : ByteArray} (h : refC S [s, t] = 0) : (0 < s.size ∧ s.size ≤ 128) ∧ (0 < t.size ∧ t.size ≤ 128) := by
  unfold refC at h
  split at h
  · cases h
  · split at h
    · rename_i _ h2
      simp [nameOk] at h2
      omega
    · cases h
theorem nrow_two (w : World) (s t : ByteArray) (hs : s.size ≤ maxLen) (ht : t.size ≤ maxLen) : NRow (w.alloc (.cells #[.string s, .string t] 9)) (.slice (some ⟨w.heap.size, 0, none⟩) 2 2) [s, t] :=
  ⟨reads_new w #[.string s, .string t] 9 (strs [s, t]) rfl (by simp [strs]), fun u hu => by simp at hu; rcases hu with rfl | rfl; exact hs; exact ht⟩
set_option maxRecDepth 100000 in
set_option maxHeartbeats 4000000 in
theorem rename_any (w : World) (base db : Nat) (ro : Nat → Role) (S : St) (s t : ByteArray) (h : DiskAt w base db ro S) (hs : s.size ≤ maxLen) (ht : t.size ≤ maxLen) (hst : S.steps < 1000000000) :
    Calls Try.prog 22 #[.pointer (some ⟨db, 0, none⟩), .string s, .string t] w (DoneR w base db ro (renameS S s t) (.int .i64 (renameC S s t))) := by
  have HP := Lib.hid (fun (c : Int) (w' : World) (hc : c = renameC S s t) (S' : St) (hS : S' = renameS S s t) (ro1 : Nat → Role) (hl : Left w w' base db ro S' ro1) => show DoneR w base db ro (renameS S s t) (.int .i64 (renameC S s t)) (.returned (.int .i64 c)) w' from ⟨by rw [hc], ro1, hS ▸ hl⟩)
  generalize DoneR w base db ro (renameS S s t) (.int .i64 (renameC S s t)) = post at *
  have HD := Lib.hid h
  have HST := Lib.hid hst
  go_enter Try.func22, Try.ntmps22
  go_upto_region 1 with (fail)
  obtain ⟨W1, hW1, hg0, hg1, hg2, hb1, hz1⟩ := rows3 w (.cells #[.pointer (some ⟨db, 0, none⟩)] 25) (.cells #[.string s] 9) (.cells #[.string t] 9)
  rw [← hW1]
  have c0 : W1.cell? ⟨w.heap.size, 0, none⟩ = some (.pointer (some ⟨db, 0, none⟩)) := by rw [blk_cell hg0]; rfl
  have c1 : W1.cell? ⟨w.heap.size + 1, 0, none⟩ = some (.string s) := by rw [blk_cell hg1]; rfl
  have c2 : W1.cell? ⟨w.heap.size + 1 + 1, 0, none⟩ = some (.string t) := by rw [blk_cell hg2]; rfl
  have hb2 : Below W1.heap.size W1 (W1.alloc (.cells #[.string s, .string t] 9)) := (Below.refl _ _).alloc (Nat.le_refl _) _
  have hbw2 : Below w.heap.size w (W1.alloc (.cells #[.string s, .string t] 9)) := hb1.alloc (by omega) _
  obtain ⟨mb, n, D, av, hd⟩ := HD.out.below hbw2
  have HF := Lib.hid (find_any (W1.alloc (.cells #[.string s, .string t] 9)) base db mb n D av ro S _ [s, t] hd (nrow_two W1 s t hs ht) (by simp))
  unfold FindPost at HF
  have HD2 := Lib.hid hd
  have HL0 := Lib.hid (fun nq => Left.below HD.out (below_drewN hbw2 nq))
  have HB2 := Lib.hid hb2
  have HZ1 := Lib.hid hz1
  have HC := Lib.hid (And.intro c0 (And.intro c1 c2))
  clear hW1 hg0 hg1 hg2 hb1 hb2 hz1 hbw2 hd h
  go_wp2_with fail
  refine HF.out.mono ?_
  rintro e w1 ⟨⟨nq, hw1⟩, hcase⟩
  have HW1 := Lib.hid hw1
  have hb3 : Below W1.heap.size W1 w1 := hw1 ▸ below_drewN HB2.out nq
  have c0 := (hb3.cell (p := ⟨w.heap.size, 0, none⟩) (by show w.heap.size < _; have := HZ1.out; omega)).trans c0
  have c1 := (hb3.cell (p := ⟨w.heap.size + 1, 0, none⟩) (by show w.heap.size + 1 < _; have := HZ1.out; omega)).trans c1
  have c2 := (hb3.cell (p := ⟨w.heap.size + 1 + 1, 0, none⟩) (by show w.heap.size + 1 + 1 < _; have := HZ1.out; omega)).trans c2
  have hlw : Left w w1 base db ro S ro := hw1 ▸ HL0.out nq
  have HLW := Lib.hid hlw
  have hd1 : DiskIn w1 base db mb n D av ro S := hw1 ▸ HD2.out.drewN nq
  have hz3 : w.heap.size + 3 < w1.heap.size := by have h1 := HZ1.out; have : (W1.alloc (.cells #[.string s, .string t] 9)).heap.size = W1.heap.size + 1 := by simp
                                                  rw [hw1, heap_drewN]; omega
  clear hw1
  rcases hcase with ⟨hc, rfl⟩ | ⟨hc, hg, rfl⟩ | ⟨hc, f, fb, v, hg, rfl, hat, hfa⟩
  · have HQ := Lib.hid (fun (o : Obj) => HP.out (refC S [s, t]) (w1.alloc o) (by unfold renameC; rw [if_pos hc]) S (by unfold renameS; rw [if_pos hc]) ro (HLW.out.trans (Left.below HLW.out.disk ((Below.refl _ _).alloc (Nat.le_refl _) o))))
    obtain ⟨cc, hcc⟩ : ∃ cc, cc = refC S [s, t] := ⟨_, rfl⟩
    rw [← hcc] at HQ hc ⊢
    have hc1 : (cc == 0) = false := by simpa using hc
    have hc2 : (cc != 0) = true := by simpa using hc
    clear hcc HP HF hd1 hlw hb3 c0 c1 c2
    go_wp2
    exact HQ.out _
  · have hg' : get S.fs s = none := hg
    have HQ := Lib.hid (fun (o : Obj) => HP.out 5 (w1.alloc o) (by unfold renameC; rw [if_neg (by simpa using hc), hg']) S (by unfold renameS; rw [if_neg (by simpa using hc), hg']) ro (HLW.out.trans (Left.below HLW.out.disk ((Below.refl _ _).alloc (Nat.le_refl _) o))))
    clear hg hg' hc HP HF hd1 hlw hb3 c0 c1 c2
    go_wp2
    exact HQ.out _
  · have hg' : get S.fs s = some f := hg
    obtain ⟨hsz, htz⟩ := refC_two hc
    have hfa1 : FileAt w1 base ro s fb v f := hfa.ch (HW1.out ▸ (Ch.refl _ (fun _ => False)).drewN nq) (fun _ _ h => h)
    obtain ⟨W3, hW3⟩ : ∃ W3, W3 = w1.alloc (.cells #[.pointer (some ⟨fb, 0, none⟩)] 62) := ⟨_, rfl⟩
    have hb4 : Below w1.heap.size w1 W3 := hW3 ▸ (Below.refl _ _).alloc (Nat.le_refl _) _
    have hcW : Ch w1 W3 (fun b => w1.heap.size ≤ b) := Ch.of_below hb4 _ fun k _ hk => hk
    have hd3 : DiskIn W3 base db mb n D av ro S := hd1.ch hcW fun b hb hM => by have := (hd1.old b hb).2; omega
    have hfa3 : FileAt W3 base ro s fb v f := hfa1.ch hcW fun b hb hM => by have := (hd1.old b (by rcases hb with hb | hb <;> rw [hb] <;> simp)).2; omega
    have k0 : W3.cell? ⟨w.heap.size, 0, none⟩ = some (.pointer (some ⟨db, 0, none⟩)) := hcW.cell c0 (by show ¬ (w1.heap.size ≤ w.heap.size); omega)
    have k1 : W3.cell? ⟨w.heap.size + 1, 0, none⟩ = some (.string s) := hcW.cell c1 (by show ¬ (w1.heap.size ≤ w.heap.size + 1); omega)
    have k2 : W3.cell? ⟨w.heap.size + 1 + 1, 0, none⟩ = some (.string t) := hcW.cell c2 (by show ¬ (w1.heap.size ≤ w.heap.size + 1 + 1); omega)
    have k3 : W3.cell? ⟨w1.heap.size, 0, none⟩ = some (.pointer (some ⟨fb, 0, none⟩)) := by rw [hW3, World.cell?_alloc_new]; rfl
    have hfree : ∀ p, w.heap.size ≤ p → ro p = .none := fun p hp => free_new HD.out hp
    have hdp := hd3.plus HST.out
    have hcP : Ch W3 (world1 W3 db S) (fun b => b = db) := (Ch.refl W3 (fun b => b = db)).setCell (p := ⟨db, 3, none⟩) rfl _
    have hdn : ∀ p, w.heap.size ≤ p → p ≠ db := fun p hp e => by have := hfree p hp; rw [e, hd3.rdb] at this; cases this
    have hdo := rename1_any (world1 W3 db S) base db mb n D av v ro (plus1 S) s t fb f w1.heap.size (w.heap.size + 1) (w.heap.size + 1 + 1) w.heap.size hdp.1 hg' hat (hfa3.ch hcP fun b hb hM => by subst hM; rw [hd3.rdb] at hb; rcases hb with hb | hb <;> cases hb)
      (hcP.cell k3 (hdn w1.heap.size (by omega))) (hcP.cell k1 (hdn (w.heap.size + 1) (by omega))) (hcP.cell k2 (hdn (w.heap.size + 1 + 1) (by omega))) (hcP.cell k0 (hdn w.heap.size (by omega))) ⟨hfree _ (by omega), hfree _ (by omega), hfree _ (by omega), hfree _ (by omega)⟩ htz.1 htz.2 hsz.2 (by have := hd3.bnd; show n + 1 ≤ S.steps + 1; omega)
    have HS := Lib.hid (step_rename W3 base db mb n D av ro S { plus1 S with fs := renFs S.fs s t f } false w1.heap.size (w.heap.size + 1) (w.heap.size + 1 + 1) w.heap.size hd3 HST.out rfl (fun _ => hdo))
    unfold DoneR at HS
    have hlw3 : Left w W3 base db ro S ro := HLW.out.trans (Left.below HLW.out.disk hb4)
    have HFQ := Lib.hid (fun (w7 : World) (ro7 : Nat → Role) (hl : Left W3 w7 base db ro (stepEnd S { plus1 S with fs := renFs S.fs s t f } false) ro7) => HP.out (stepC S.armed) w7 (by unfold renameC; rw [if_neg (by simpa using hc), hg']) _ (by unfold renameS; rw [if_neg (by simpa using hc), hg']) ro7 (hlw3.trans hl))
    have HW3 := Lib.hid hW3
    rw [hW3] at HS k0
    clear hg hg' hc hd1 hfa1 hd3 hfa3 hdp hdo hat hfa HP HF k1 k2 k3 hlw hlw3 hcW hcP hb4 hb3 hfree hdn hsz htz hs ht hst hW3
    go_wp2_with fail
    refine HS.out.mono ?_
    rintro e w7 ⟨rfl, ro7, hl7⟩
    have HQ := Lib.hid (HFQ.out w7 ro7 (by rw [HW3.out]; exact hl7))
    clear hl7 HFQ HS
    go_wp2
    exact HQ.out
end Go.Proofs.Ytfgbaigpmhnoaaa
