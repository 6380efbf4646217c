/- catalogue: CatalogueFind walked. -/
import Derived.Test.YtcnedecmmplmoaaGreatDoorCm35
import Derived.Test.YtcnedecmmplmoaaGreatDoorCmTZ
import Derived.Test.YtcnedecmmplmoaaGreatDoorCmTZa
import Derived.Test.YtcnedecmmplmoaaGreatDoorCmTZb
set_option linter.unusedVariables false
set_option linter.unusedSimpArgs false
namespace Go.Proofs.YtcnedecmmplmoaaGreatDoor
open Go Go.RowKit Go.BigFrame
open Ver (cmpV BL parts brk)

theorem sameI_is (a b : Value) (xs : List Int) (w : World) (ha : RdS w AllB a xs.length (ints xs)) (hb : RdS w AllB b xs.length (ints xs)) :
    Calls Tryz.prog 23 #[a, b] w fun e w' => e = .returned (.bool true) ∧ Below w.heap.size w w' := by
  rw [← ints_len xs] at ha hb
  refine (sameInts_any a b xs xs _ w ha.reads hb.reads).mono ?_
  rintro e w' ⟨rfl, n, rfl⟩
  exact ⟨by rw [decide_eq_true rfl], below_drewN (Below.refl _ _) n⟩
/-- A row of one need, just made. -/
theorem one_need (w : World) (n : Nde) (A : Option Addr) (c : Nat) (h : RngAt w (.slice A n.2.length c) n.2) : NdsAt (w.alloc (.cells #[.string n.1, .slice A n.2.length c] 40)) (.slice (some ⟨w.heap.size, 0, none⟩) 1 1) [n] := by
  have h1 := heap_alloc_new w (.cells #[.string n.1, .slice A n.2.length c] 40)
  refine ⟨[.string n.1, .slice A n.2.length c], ⟨some ⟨w.heap.size, 0, none⟩, 1, rfl, Nat.le_refl _, by decide, (fun e => by cases e), fun _ => ⟨_, rfl, block_lt h1, trivial, fun j u hu => row_cells h1 j u (by simpa using hu)⟩⟩, ?_⟩
  exact (ItemsM.nil (R := NdC) (m := 2) _ _).snoc rfl ⟨_, rfl, RngAt.below h ((Below.refl _ _).alloc (Nat.le_refl _) _)⟩
set_option maxRecDepth 100000 in
set_option maxHeartbeats 1000000 in
theorem catalogueFind_walk (v : Value) (l : List Va) (u : Value) (n : Nde) (w : World) (_ : True) (hl : VasAt w v l) (hu : RngAt w u n.2) (hn : n.1.size ≤ maxLen) : Calls Tryz.prog 6 #[v, .agg #[.string n.1, u]] w fun e w' => e = .returned (.bool true) ∧ Below w.heap.size w w' := by
  obtain ⟨A, c, rfl, hlc, hcm⟩ := OutM.form hl
  obtain ⟨A2, c2, rfl, hlc2, hcm2⟩ := OutS.form hu
  obtain ⟨W0, hW0, hg0, hb0, hz0⟩ : ∃ W0, W0 = w.alloc (.cells #[.string n.1, .slice A2 n.2.length c2] 40) ∧ W0.heap[w.heap.size]? = some (.cells #[.string n.1, .slice A2 n.2.length c2] 40 (0, 0)) ∧ Below w.heap.size w W0 ∧ W0.heap.size = w.heap.size + 1 := ⟨_, rfl, heap_alloc_new _ _, (Below.refl _ _).alloc (Nat.le_refl _) _, by simp⟩
  have HL := Lib.hid (VasAt.below hl hb0)
  have HU := Lib.hid (RngAt.below hu hb0)
  have HG := Lib.hid hg0
  have HB := Lib.hid hb0
  have HNZ := Lib.hid hn
  clear hl hu hg0 hb0 hz0 hn
  go_enter Tryz.func6, Tryz.ntmps6
  go_upto_region 1 with (fail)
  rw [← hW0]
  clear hW0
  go_wp2_with fail
  refine (smallL_any _ _ _ HL.out).mono ?_
  rintro e w1 ⟨b, rfl, hsm, hb1⟩
  cases b with
  | false =>
    clear hsm
    go_wp2_with fail
    refine (works_any _).mono ?_
    rintro e w4 ⟨rfl, hb4⟩
    go_wp2
    go_ret
    exact ⟨rfl, below_step (below_step HB.out hb1 HB.out.size) hb4 (Nat.le_trans HB.out.size hb1.size)⟩
  | true =>
    have HSM := Lib.hid (hsm rfl)
    obtain ⟨x0, x1, _, _⟩ := cell_two ((hb1.block _ (block_lt HG.out)).trans HG.out)
    have hU1 := RngAt.below HU.out hb1
    have HB1 := Lib.hid (below_step HB.out hb1 HB.out.size)
    have HZ1 := Lib.hid (Nat.le_trans HB.out.size hb1.size)
    have HL1 := Lib.hid (VasAt.below HL.out hb1)
    have HG1 := Lib.hid ((hb1.block _ (block_lt HG.out)).trans HG.out)
    have HN1 := Lib.hid (one_need w1 n A2 c2 hU1)
    have HU1 := Lib.hid hU1
    clear hsm hb1 hU1
    go_wp2_with fail
    refine (smallN_any _ _ _ HN1.out).mono ?_
    rintro e w' ⟨b, rfl, hsn, hw⟩
    obtain ⟨W2, hW2, hb2⟩ : ∃ W2, W2 = w1.alloc (.cells #[.string n.1, .slice A2 n.2.length c2] 40) ∧ Below w1.heap.size w1 W2 := ⟨_, rfl, (Below.refl _ _).alloc (Nat.le_refl _) _⟩
    rw [← hW2] at hw
    subst hw
    clear hW2
    have HB2 := Lib.hid (below_step HB1.out hb2 HZ1.out)
    have HZ2 := Lib.hid (Nat.le_trans HZ1.out hb2.size)
    cases b with
    | false =>
      clear hsn
      go_wp2_with fail
      refine (works_any _).mono ?_
      rintro e w4 ⟨rfl, hb4⟩
      go_wp2
      go_ret
      exact ⟨rfl, below_step HB2.out hb4 HZ2.out⟩
    | true =>
      have HSN := Lib.hid (hsn rfl)
      have hsh : Short n.2 := (HSN.out.2 n (by simp)).2.short
      have hL2 := VasAt.below HL1.out hb2
      have hU2 := RngAt.below HU1.out hb2
      have HG2 := Lib.hid ((hb2.block _ (block_lt HG1.out)).trans HG1.out)
      obtain ⟨y0, y1, _, _⟩ := cell_two HG2.out
      have HFF := Lib.hid (fun W (hb : Below w'.heap.size w' W) => find_any l (.slice A l.length c) n (.slice A2 n.2.length c2) W (VasAt.below hL2 hb) (RngAt.below hU2 hb) hsh HNZ.out (fun x hx => by have := (HSM.out.2 x hx).2.1; omega) (by have := HSM.out.1; omega))
      have HRF := Lib.hid (fun W (hb : Below w'.heap.size w' W) => refFind_any l (.slice A l.length c) n (.slice A2 n.2.length c2) W (VasAt.below hL2 hb) (RngAt.below hU2 hb) hsh HNZ.out (fun x hx => by have := (HSM.out.2 x hx).2.1; omega) (by have := HSM.out.1; omega))
      clear hsn hsh hL2 hU2 x0 x1 hb2
      go_wp2_with fail
      refine (HFF.out _ (Below.refl _ _)).mono ?_
      rintro e w3 ⟨A3, c3, rfl, hr3, hb3⟩
      obtain ⟨z0, z1, _, _⟩ := cell_two ((hb3.block _ (block_lt HG2.out)).trans HG2.out)
      clear y0 y1
      go_wp2_with fail
      refine (HRF.out _ hb3).mono ?_
      rintro e w4 ⟨A4, c4, rfl, hr4, hb4⟩
      go_wp2_with fail
      refine (sameI_is _ _ _ _ (hr3.below hb4) hr4).mono ?_
      rintro e w5 ⟨rfl, hb5⟩
      have hb6 := below_step (below_step HB2.out hb3 HZ2.out) hb4 (Nat.le_trans HZ2.out hb3.size)
      have hz6 := Nat.le_trans (Nat.le_trans HZ2.out hb3.size) hb4.size
      go_wp2_with fail
      refine (works_any _).mono ?_
      rintro e w7 ⟨rfl, hb7⟩
      go_wp2
      go_ret
      exact ⟨rfl, below_step (below_step hb6 hb5 hz6) hb7 (Nat.le_trans hz6 hb5.size)⟩
end Go.Proofs.YtcnedecmmplmoaaGreatDoor
