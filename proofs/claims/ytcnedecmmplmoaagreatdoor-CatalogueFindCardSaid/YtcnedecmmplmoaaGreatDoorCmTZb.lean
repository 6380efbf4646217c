/- catalogue: SameInts; the reference's Find. -/
import Derived.Test.YtcnedecmmplmoaaGreatDoorCm32
import Derived.Test.YtcnedecmmplmoaaGreatDoorCm34
import Derived.Deep.RegionHeld3
set_option linter.unusedVariables false
set_option linter.unusedSimpArgs false
namespace Go.Proofs.YtcnedecmmplmoaaGreatDoor
open Go Go.RowKit Go.BigFrame
open Ver (cmpV BL parts brk)

set_option maxRecDepth 100000 in
set_option maxHeartbeats 800000 in
theorem sameInts_any (a b : Value) (xs ys : List Int) (B : Nat) (w : World) (ha : Reads w B a (ints xs)) (hb : Reads w B b (ints ys)) :
    Calls Tryz.prog 23 #[a, b] w fun e w' => e = .returned (.bool (decide (xs = ys))) ∧ ∃ nq, w' = w.drewN nq := by
  obtain ⟨A, ca, rfl, hla, hma, hza, hra⟩ := ha
  obtain ⟨A', cb, rfl, hlb, hmb, hzb, hrb⟩ := hb
  simp only [ints_len] at *
  have HRA := Lib.hid hra
  have HRB := Lib.hid hrb
  unfold maxLen at *
  clear hra hrb hza hzb
  by_cases hl : xs.length = ys.length
  · have HL := Lib.hid hl
    have hbn : ((xs.length : Int) != (ys.length : Int)) = false := by rw [hl]; simp
    have hl1 : xs.length ≤ ys.length := by omega
    clear hl
    go_enter Tryz.func23, Tryz.ntmps23
    go_wp2
    go_loopw [5] (fun i wr => ∃ (k nq : Nat), k ≤ xs.length ∧ i = .int .i64 k ∧ Hid (wr = w.drewN nq) ∧ Hid (∀ j, j < k → xs.getD j 0 = ys.getD j 0)) (fun i _ => xs.length - (intOf i).toNat)
    case atStart => exact ⟨0, 0, by omega, rfl, Lib.hid rfl, Lib.hid fun j h => absurd h (Nat.not_lt_zero j)⟩
    case round =>
      obtain ⟨k, nq, hk, rfl, HW, HS⟩ := hrel
      by_cases hlt : k < xs.length
      · obtain ⟨ad, rfl, hbl, hc⟩ := HRA.out (by omega)
        obtain ⟨ad', rfl, hbl', hc'⟩ := HRB.out (by omega)
        have hcx := (cell_drew HW.out _).trans (hc k _ (ints_get xs k (by omega)))
        have hcy := (cell_drew HW.out _).trans (hc' k _ (ints_get ys k (by omega)))
        clear hc hc' hbl hbl'
        have hi1 : (k : Int) < (xs.length : Int) := by omega
        have hi2 : (k : Int) < (ys.length : Int) := by omega
        have hi0 : (0 : Int) ≤ (k : Int) := by omega
        obtain ⟨x, hx⟩ : ∃ x, x = xs.getD k 0 := ⟨_, rfl⟩
        obtain ⟨y, hy⟩ : ∃ y, y = ys.getD k 0 := ⟨_, rfl⟩
        rw [← hx] at hcx
        rw [← hy] at hcy
        by_cases hxy : x = y
        · have HS' : Hid (∀ j, j < k + 1 → xs.getD j 0 = ys.getD j 0) := Lib.hid fun j hj => by
            rcases Nat.lt_or_ge j k with h | h
            · exact HS.out j h
            · obtain rfl : j = k := by omega
              rw [← hx, ← hy]; exact hxy
          have hbe : (x != y) = false := by rw [hxy]; simp
          clear hx hy hxy
          go_wp2
          go_quiet (fail)
          go_wp2
          go_roundw
          case rel => exact ⟨k + 1, _, by omega, by go_num, Lib.hid (by rw [HW.out]; exact World.drewN_drewN _ _ _), HS'⟩
          case measure => simp [intOf]; omega
        · have HF := Lib.hid (show decide (xs = ys) = false by
            rw [decide_eq_false_iff_not]; exact list_ne xs ys _ k (by rw [← hx, ← hy]; exact hxy))
          have hbe : (x != y) = true := by rw [bne_iff_ne]; exact hxy
          clear hx hy hxy
          go_wp2
          go_quiet (fail)
          go_wp2
          go_ret
          exact ⟨ret_bool HF.out.symm, _, by rw [HW.out]; exact World.drewN_drewN _ _ _⟩
      · have HF := Lib.hid (show decide (xs = ys) = true by
          rw [decide_eq_true_eq]; exact list_eq xs ys _ HL.out fun j hj => HS.out j (by omega))
        go_wp2
        go_ret
        exact ⟨ret_bool HF.out.symm, _, HW.out⟩
  · have hbn : ((xs.length : Int) != (ys.length : Int)) = true := by rw [bne_iff_ne]; omega
    have HF := Lib.hid (show decide (xs = ys) = false by rw [decide_eq_false_iff_not]; exact fun e => hl (by rw [e]))
    go_enter Tryz.func23, Tryz.ntmps23
    go_wp2
    go_ret
    exact ⟨ret_bool HF.out.symm, 0, rfl⟩
theorem find_none (l : List Va) (n : Nde) (h : needB n = false) : findL l n = [] := by unfold findL; rw [if_neg (by rw [h]; decide)]
theorem find_some (l : List Va) (n : Nde) (h : needB n = true) : findL l n = placesL l n l.length := by unfold findL; rw [if_pos h]
/-- What Find has found ahead of a place. -/
def foundL (l : List Va) (n : Nde) (k : Nat) : List Int := if needB n = true then placesL l n k else []
theorem found_next (l : List Va) (n : Nde) (k : Nat) : foundL l n (k + 1) = if (needB n && fitsB n (l.getD k default)) = true then foundL l n k ++ [(k : Int)] else foundL l n k := by
  unfold foundL
  cases h : needB n with
  | false => rfl
  | true => rw [if_pos rfl, if_pos rfl, places_next, Bool.true_and]
theorem found_all (l : List Va) (n : Nde) : foundL l n l.length = findL l n := rfl
theorem found_zero (l : List Va) (n : Nde) : foundL l n 0 = [] := by unfold foundL placesL; split <;> rfl
set_option maxRecDepth 100000 in
set_option maxHeartbeats 4000000 in
theorem refFind_any (l : List Va) (v : Value) (n : Nde) (u : Value) (w : World) (hl : VasAt w v l) (hu : RngAt w u n.2) (hsz : Short n.2) (hn : n.1.size ≤ maxLen) (hv : ∀ x ∈ l, x.ver.size ≤ 1000000) (hlen : l.length ≤ 1000000) :
    Calls Tryz.prog 24 #[v, .agg #[.string n.1, u]] w (FindPost l n w) := by
  obtain ⟨A, c, rfl, hlc, hcm⟩ := OutM.form hl
  obtain ⟨A2, c2, rfl, hlc2, hcm2⟩ := OutS.form hu
  obtain ⟨nm, r⟩ := n
  dsimp only at *
  unfold maxLen at hcm
  obtain ⟨W0, hW0, hg0, hb0, hz0⟩ : ∃ W0, W0 = w.alloc (.cells #[.string nm, .slice A2 r.length c2] 40) ∧ W0.heap[w.heap.size]? = some (.cells #[.string nm, .slice A2 r.length c2] 40 (0, 0)) ∧ Below w.heap.size w W0 ∧ W0.heap.size = w.heap.size + 1 := ⟨_, rfl, heap_alloc_new _ _, (Below.refl _ _).alloc (Nat.le_refl _) _, by simp⟩
  have HL := Lib.hid (VasAt.below hl hb0)
  have HU := Lib.hid (RngAt.below hu hb0)
  have HG := Lib.hid hg0
  have HB := Lib.hid hb0
  have HZ := Lib.hid hz0
  have HV := Lib.hid hv
  have HSZ := Lib.hid hsz
  have HNZ := Lib.hid hn
  obtain ⟨i0, hi, hz0', hz1, hz2⟩ := info_parts infoInt
  have HI := Lib.hid (And.intro hi (And.intro hz0' (And.intro hz1 hz2)))
  clear hl hu hsz hn hg0 hb0 hz0 hv hi hz0' hz1 hz2
  go_enter Tryz.func24, Tryz.ntmps24
  go_upto_region 1 with (fail)
  rw [← hW0]
  clear hW0
  go_wp2
  go_loopw [5, 6] (fun pv i wr => ∃ (k : Nat) (xs : List Int), k ≤ l.length ∧ i = .int .i64 (k : Int) ∧ xs.length ≤ k ∧ Hid (xs = foundL l (nm, r) k) ∧ Hid (wr.ownsRow W0.heap.size 3 1 pv xs.length (ints xs)) ∧ Hid (Below W0.heap.size W0 wr)) (fun _ i _ => l.length - (intOf i).toNat)
  case atStart => exact ⟨0, [], by omega, rfl, Nat.le_refl _, Lib.hid (found_zero _ _).symm, Lib.hid (World.ownsRow_nil _ _ _ _), Lib.hid (Below.refl _ _)⟩
  case round =>
    obtain ⟨k, xs, hk, rfl, hxk, HX, HOWN, HBL⟩ := hrel
    obtain ⟨A1, cap1, rfl⟩ := own_form HOWN.out
    by_cases hlt : k < l.length
    · have hltI : (k : Int) < (l.length : Int) := by omega
      have hk0' : (0 : Int) ≤ (k : Int) := by omega
      obtain ⟨ad, An, cn, Ac, cc, rfl, hadb, g0, g1, _, _, _, _, _⟩ := VasAt.get (VasAt.below HL.out HBL.out) k hlt
      obtain ⟨x, hx⟩ : ∃ x, x = l.getD k default := ⟨_, rfl⟩
      rw [← hx] at g0 g1
      replace hadb := block_lt_of_cell g0
      have HXK := Lib.hid (show l[k]? = some x by rw [hx]; exact getD_get l k _ hlt)
      have hvz : x.ver.size ≤ 1000000 := HV.out x (List.mem_of_getElem? HXK.out)
      have hgw := (HBL.out.block _ (block_lt HG.out)).trans HG.out
      obtain ⟨hx0, hx1, _, _⟩ := cell_two hgw
      have hlv := block_lt hgw
      have HNX := Lib.hid (show foundL l (nm, r) (k + 1) = if (needB (nm, r) && (decide (x.name = nm) && allowR r x.ver)) = true then xs ++ [(k : Int)] else xs by rw [found_next, HX.out, hx]; rfl)
      have HRA := Lib.hid (RngAt.below HU.out HBL.out)
      clear hx hgw
      obtain ⟨xn, xv, xne, xco, xre⟩ := x
      dsimp only at *
      have HMN := Lib.hid (fun w' (hk : KeepW wr wr.heap.size w') => hk.calls (mayNeed_any (nm, r) (.slice A2 r.length c2) w' (RngAt.below HRA.out hk.1) HSZ.out HNZ.out))
      have HKK := Lib.hid (fun w' (h : KeepW wr wr.heap.size w') => (show (w'.cell? ⟨(ad.add (k * 5)).block, (ad.add (k * 5)).off, (ad.add (k * 5)).3⟩ = some (.string xn) ∧ w'.cell? ⟨(ad.add (k * 5)).block, (ad.add (k * 5)).off + 1, none⟩ = some (.string xv)) ∧ w'.cell? ⟨w.heap.size, 0, none⟩ = some (.string nm) ∧ w'.cell? ⟨w.heap.size, 1, none⟩ = some (.slice A2 r.length c2) from
        ⟨⟨(h.1.cell (p := ⟨(ad.add (k * 5)).block, (ad.add (k * 5)).off, (ad.add (k * 5)).3⟩) hadb).trans g0, (h.1.cell (p := ⟨(ad.add (k * 5)).block, (ad.add (k * 5)).off + 1, none⟩) hadb).trans g1⟩, (h.1.cell (p := ⟨w.heap.size, 0, none⟩) hlv).trans hx0, (h.1.cell (p := ⟨w.heap.size, 1, none⟩) hlv).trans hx1⟩))
      have hk0 : KeepW wr wr.heap.size wr := KeepW.start (Nat.le_refl _)
      cases hnb : needB (nm, r) with
      | false =>
        rw [hnb] at HMN
        have HN := Lib.hid (show xs = foundL l (nm, r) (k + 1) by rw [HNX.out, hnb, Bool.false_and, if_neg (by decide)])
        clear hnb g0 g1 hx0 hx1
        go_wp2
        refine wp_region_held (S := fun w' => (w'.cell? ⟨(ad.add (k * 5)).block, (ad.add (k * 5)).off, (ad.add (k * 5)).3⟩ = some (.string xn) ∧ w'.cell? ⟨(ad.add (k * 5)).block, (ad.add (k * 5)).off + 1, none⟩ = some (.string xv)) ∧ w'.cell? ⟨w.heap.size, 0, none⟩ = some (.string nm) ∧ w'.cell? ⟨w.heap.size, 1, none⟩ = some (.slice A2 r.length c2)) (by kernel_rfl) ?_
        have hS := HKK.out _ (KeepW.drew hk0)
        change wpAnyH _ _ _ _ _ _ _ _ wr.drew
        refine wpAnyH_take (i := 0) rfl (by kernel_rfl) (by kernel_rfl) (by kernel_rfl) (fun _ _ _ h => h) (v := .agg #[.string nm, .slice A2 r.length c2]) ?_ hS ?_
        · exact Or.inl ⟨by kernel_rfl, fun wx hSx => by (try dsimp only at hSx); go_simp⟩
        simp only [Act.put, List.setIfInBounds_toArray, List.set_cons_zero, List.set_cons_succ, List.getElem_toArray, List.getElem_cons_succ, List.getElem_cons_zero]
        refine wpAnyH_ready (rs := [1]) (by kernel_rfl) (by simp) ?_
        refine AllReadyH.cons rfl (fun K hK => ?_) AllReadyH.nil
        go_simp
        refine (HMN.out _ (KeepW.drew hk0)).mono ?_
        rintro e W2 ⟨rfl, hk2⟩
        dsimp only
        refine hK.out _ _ (HKK.out _ hk2) (fun hS2 => ?_)
        clear hK K hS
        try simp only [Act.put, List.setIfInBounds_toArray, List.set_cons_zero, List.set_cons_succ, List.getElem_toArray, List.getElem_cons_succ, List.getElem_cons_zero]
        refine wpAnyH_take (i := 2) rfl (by kernel_rfl) (by kernel_rfl) (by kernel_rfl) (fun _ _ _ h => h) (v := .bool false) ?_ hS2 ?_
        · exact Or.inl ⟨by kernel_rfl, fun wx hSx => by (try dsimp only at hSx); go_simp⟩
        simp only [Act.put, List.setIfInBounds_toArray, List.set_cons_zero, List.set_cons_succ, List.getElem_toArray, List.getElem_cons_succ, List.getElem_cons_zero]
        refine wpAnyH_take (i := 3) rfl (by kernel_rfl) (by kernel_rfl) (by kernel_rfl) (fun _ _ _ h => h) (v := undef) ?_ hS2 ?_
        · exact Or.inr ⟨by kernel_rfl, rfl⟩
        simp only [Act.put, List.setIfInBounds_toArray, List.set_cons_zero, List.set_cons_succ, List.getElem_toArray, List.getElem_cons_succ, List.getElem_cons_zero]
        refine wpAnyH_take (i := 4) rfl (by kernel_rfl) (by kernel_rfl) (by kernel_rfl) (fun _ _ _ h => h) (v := undef) ?_ hS2 ?_
        · exact Or.inr ⟨by kernel_rfl, rfl⟩
        simp only [Act.put, List.setIfInBounds_toArray, List.set_cons_zero, List.set_cons_succ, List.getElem_toArray, List.getElem_cons_succ, List.getElem_cons_zero]
        refine wpAnyH_take (i := 5) rfl (by kernel_rfl) (by kernel_rfl) (by kernel_rfl) (fun _ _ _ h => h) (v := undef) ?_ hS2 ?_
        · exact Or.inr ⟨by kernel_rfl, rfl⟩
        simp only [Act.put, List.setIfInBounds_toArray, List.set_cons_zero, List.set_cons_succ, List.getElem_toArray, List.getElem_cons_succ, List.getElem_cons_zero]
        refine wpAnyH_take (i := 6) rfl (by kernel_rfl) (by kernel_rfl) (by kernel_rfl) (fun _ _ _ h => h) (v := undef) ?_ hS2 ?_
        · exact Or.inr ⟨by kernel_rfl, rfl⟩
        simp only [Act.put, List.setIfInBounds_toArray, List.set_cons_zero, List.set_cons_succ, List.getElem_toArray, List.getElem_cons_succ, List.getElem_cons_zero]
        refine wpAnyH_take (i := 7) rfl (by kernel_rfl) (by kernel_rfl) (by kernel_rfl) (fun _ _ _ h => h) (v := undef) ?_ hS2 ?_
        · exact Or.inr ⟨by kernel_rfl, rfl⟩
        simp only [Act.put, List.setIfInBounds_toArray, List.set_cons_zero, List.set_cons_succ, List.getElem_toArray, List.getElem_cons_succ, List.getElem_cons_zero]
        refine wpAnyH_take (i := 8) rfl (by kernel_rfl) (by kernel_rfl) (by kernel_rfl) (fun _ _ _ h => h) (v := undef) ?_ hS2 ?_
        · exact Or.inr ⟨by kernel_rfl, rfl⟩
        simp only [Act.put, List.setIfInBounds_toArray, List.set_cons_zero, List.set_cons_succ, List.getElem_toArray, List.getElem_cons_succ, List.getElem_cons_zero]
        refine wpAnyH_take (i := 9) rfl (by kernel_rfl) (by kernel_rfl) (by kernel_rfl) (fun _ _ _ h => h) (v := undef) ?_ hS2 ?_
        · exact Or.inr ⟨by kernel_rfl, rfl⟩
        simp only [Act.put, List.setIfInBounds_toArray, List.set_cons_zero, List.set_cons_succ, List.getElem_toArray, List.getElem_cons_succ, List.getElem_cons_zero]
        refine wpAnyH_take (i := 10) rfl (by kernel_rfl) (by kernel_rfl) (by kernel_rfl) (fun _ _ _ h => h) (v := undef) ?_ hS2 ?_
        · exact Or.inr ⟨by kernel_rfl, rfl⟩
        simp only [Act.put, List.setIfInBounds_toArray, List.set_cons_zero, List.set_cons_succ, List.getElem_toArray, List.getElem_cons_succ, List.getElem_cons_zero]
        refine wpAnyH_take (i := 11) rfl (by kernel_rfl) (by kernel_rfl) (by kernel_rfl) (fun _ _ _ h => h) (v := .bool false) ?_ hS2 ?_
        · exact Or.inl ⟨by kernel_rfl, fun wx hSx => by (try dsimp only at hSx); go_simp⟩
        simp only [Act.put, List.setIfInBounds_toArray, List.set_cons_zero, List.set_cons_succ, List.getElem_toArray, List.getElem_cons_succ, List.getElem_cons_zero]
        refine wpAnyH_take (i := 12) rfl (by kernel_rfl) (by kernel_rfl) (by kernel_rfl) (fun _ _ _ h => h) (v := .bool false) ?_ hS2 ?_
        · exact Or.inl ⟨by kernel_rfl, fun wx hSx => by (try dsimp only at hSx); go_simp⟩
        simp only [Act.put, List.setIfInBounds_toArray, List.set_cons_zero, List.set_cons_succ, List.getElem_toArray, List.getElem_cons_succ, List.getElem_cons_zero]
        refine wpAnyH_take (i := 13) rfl (by kernel_rfl) (by kernel_rfl) (by kernel_rfl) (fun _ _ _ h => h) (v := undef) ?_ hS2 ?_
        · exact Or.inr ⟨by kernel_rfl, rfl⟩
        simp only [Act.put, List.setIfInBounds_toArray, List.set_cons_zero, List.set_cons_succ, List.getElem_toArray, List.getElem_cons_succ, List.getElem_cons_zero]
        refine wpAnyH_take (i := 14) rfl (by kernel_rfl) (by kernel_rfl) (by kernel_rfl) (fun _ _ _ h => h) (v := undef) ?_ hS2 ?_
        · exact Or.inr ⟨by kernel_rfl, rfl⟩
        simp only [Act.put, List.setIfInBounds_toArray, List.set_cons_zero, List.set_cons_succ, List.getElem_toArray, List.getElem_cons_succ, List.getElem_cons_zero]
        refine wpAnyH_take (i := 15) rfl (by kernel_rfl) (by kernel_rfl) (by kernel_rfl) (fun _ _ _ h => h) (v := undef) ?_ hS2 ?_
        · exact Or.inr ⟨by kernel_rfl, rfl⟩
        simp only [Act.put, List.setIfInBounds_toArray, List.set_cons_zero, List.set_cons_succ, List.getElem_toArray, List.getElem_cons_succ, List.getElem_cons_zero]
        refine wpAnyH_take (i := 16) rfl (by kernel_rfl) (by kernel_rfl) (by kernel_rfl) (fun _ _ _ h => h) (v := undef) ?_ hS2 ?_
        · exact Or.inr ⟨by kernel_rfl, rfl⟩
        simp only [Act.put, List.setIfInBounds_toArray, List.set_cons_zero, List.set_cons_succ, List.getElem_toArray, List.getElem_cons_succ, List.getElem_cons_zero]
        refine wpAnyH_take (i := 17) rfl (by kernel_rfl) (by kernel_rfl) (by kernel_rfl) (fun _ _ _ h => h) (v := undef) ?_ hS2 ?_
        · exact Or.inr ⟨by kernel_rfl, rfl⟩
        simp only [Act.put, List.setIfInBounds_toArray, List.set_cons_zero, List.set_cons_succ, List.getElem_toArray, List.getElem_cons_succ, List.getElem_cons_zero]
        refine wpAnyH_take (i := 18) rfl (by kernel_rfl) (by kernel_rfl) (by kernel_rfl) (fun _ _ _ h => h) (v := undef) ?_ hS2 ?_
        · exact Or.inr ⟨by kernel_rfl, rfl⟩
        simp only [Act.put, List.setIfInBounds_toArray, List.set_cons_zero, List.set_cons_succ, List.getElem_toArray, List.getElem_cons_succ, List.getElem_cons_zero]
        refine wpAnyH_take (i := 19) rfl (by kernel_rfl) (by kernel_rfl) (by kernel_rfl) (fun _ _ _ h => h) (v := undef) ?_ hS2 ?_
        · exact Or.inr ⟨by kernel_rfl, rfl⟩
        simp only [Act.put, List.setIfInBounds_toArray, List.set_cons_zero, List.set_cons_succ, List.getElem_toArray, List.getElem_cons_succ, List.getElem_cons_zero]
        refine wpAnyH_take (i := 20) rfl (by kernel_rfl) (by kernel_rfl) (by kernel_rfl) (fun _ _ _ h => h) (v := undef) ?_ hS2 ?_
        · exact Or.inr ⟨by kernel_rfl, rfl⟩
        simp only [Act.put, List.setIfInBounds_toArray, List.set_cons_zero, List.set_cons_succ, List.getElem_toArray, List.getElem_cons_succ, List.getElem_cons_zero]
        refine wpAnyH_take (i := 21) rfl (by kernel_rfl) (by kernel_rfl) (by kernel_rfl) (fun _ _ _ h => h) (v := .bool false) ?_ hS2 ?_
        · exact Or.inl ⟨by kernel_rfl, fun wx hSx => by (try dsimp only at hSx); go_simp⟩
        simp only [Act.put, List.setIfInBounds_toArray, List.set_cons_zero, List.set_cons_succ, List.getElem_toArray, List.getElem_cons_succ, List.getElem_cons_zero]
        refine wpAnyH_done (by kernel_rfl) ?_ _
        all_goals
          have HB4 := Lib.hid (below_step HBL.out hk2.1 HBL.out.size)
          have HOW4 := Lib.hid (own_below HOWN.out hk2.1 (Nat.le_refl _))
          go_wp2
          go_roundw
          case rel => exact ⟨k + 1, xs, by omega, by go_num, by omega, Lib.hid HN.out, HOW4, HB4⟩
          case measure => simp [intOf]; omega
      | true =>
        rw [hnb] at HMN
        by_cases hnn : xn = nm
        · have hsb : (xn.toList == nm.toList) = true := by rw [hnn]; simp
          obtain ⟨ok, hok⟩ : ∃ ok, ok = allowR r xv := ⟨_, rfl⟩
          have HAL := Lib.hid (fun w' (hk : KeepW wr wr.heap.size w') => hk.calls (show Calls Tryz.prog 51 #[.slice A2 r.length c2, .string xv] w' fun e w'' => e = .returned (.bool ok) ∧ Below w'.heap.size w' w'' by rw [hok]; exact refAllow_any r _ xv w' (RngAt.below HRA.out hk.1) HSZ.out hvz))
          have HN := Lib.hid (show foundL l (nm, r) (k + 1) = if ok = true then xs ++ [(k : Int)] else xs by rw [HNX.out, hnb, decide_eq_true hnn, Bool.true_and, Bool.true_and, hok])
          clear hok hnn hnb g0 g1 hx0 hx1
          go_wp2
          refine wp_region_held (S := fun w' => (w'.cell? ⟨(ad.add (k * 5)).block, (ad.add (k * 5)).off, (ad.add (k * 5)).3⟩ = some (.string xn) ∧ w'.cell? ⟨(ad.add (k * 5)).block, (ad.add (k * 5)).off + 1, none⟩ = some (.string xv)) ∧ w'.cell? ⟨w.heap.size, 0, none⟩ = some (.string nm) ∧ w'.cell? ⟨w.heap.size, 1, none⟩ = some (.slice A2 r.length c2)) (by kernel_rfl) ?_
          have hS := HKK.out _ (KeepW.drew hk0)
          change wpAnyH _ _ _ _ _ _ _ _ wr.drew
          refine wpAnyH_take (i := 0) rfl (by kernel_rfl) (by kernel_rfl) (by kernel_rfl) (fun _ _ _ h => h) (v := .agg #[.string nm, .slice A2 r.length c2]) ?_ hS ?_
          · exact Or.inl ⟨by kernel_rfl, fun wx hSx => by (try dsimp only at hSx); go_simp⟩
          simp only [Act.put, List.setIfInBounds_toArray, List.set_cons_zero, List.set_cons_succ, List.getElem_toArray, List.getElem_cons_succ, List.getElem_cons_zero]
          refine wpAnyH_ready (rs := [1]) (by kernel_rfl) (by simp) ?_
          refine AllReadyH.cons rfl (fun K hK => ?_) AllReadyH.nil
          go_simp
          refine (HMN.out _ (KeepW.drew hk0)).mono ?_
          rintro e W2 ⟨rfl, hk2⟩
          dsimp only
          refine hK.out _ _ (HKK.out _ hk2) (fun hS2 => ?_)
          clear hK K hS
          try simp only [Act.put, List.setIfInBounds_toArray, List.set_cons_zero, List.set_cons_succ, List.getElem_toArray, List.getElem_cons_succ, List.getElem_cons_zero]
          refine wpAnyH_take (i := 2) rfl (by kernel_rfl) (by kernel_rfl) (by kernel_rfl) (fun _ _ _ h => h) (v := .bool true) ?_ hS2 ?_
          · exact Or.inl ⟨by kernel_rfl, fun wx hSx => by (try dsimp only at hSx); go_simp⟩
          simp only [Act.put, List.setIfInBounds_toArray, List.set_cons_zero, List.set_cons_succ, List.getElem_toArray, List.getElem_cons_succ, List.getElem_cons_zero]
          refine wpAnyH_take (i := 3) rfl (by kernel_rfl) (by kernel_rfl) (by kernel_rfl) (fun _ _ _ h => h) (v := .slice (some ad) l.length c) ?_ hS2 ?_
          · exact Or.inl ⟨by kernel_rfl, fun wx hSx => by (try dsimp only at hSx); go_simp⟩
          simp only [Act.put, List.setIfInBounds_toArray, List.set_cons_zero, List.set_cons_succ, List.getElem_toArray, List.getElem_cons_succ, List.getElem_cons_zero]
          refine wpAnyH_take (i := 4) rfl (by kernel_rfl) (by kernel_rfl) (by kernel_rfl) (fun _ _ _ h => h) (v := .int .i64 (k : Int)) ?_ hS2 ?_
          · exact Or.inl ⟨by kernel_rfl, fun wx hSx => by (try dsimp only at hSx); go_simp⟩
          simp only [Act.put, List.setIfInBounds_toArray, List.set_cons_zero, List.set_cons_succ, List.getElem_toArray, List.getElem_cons_succ, List.getElem_cons_zero]
          refine wpAnyH_take (i := 5) rfl (by kernel_rfl) (by kernel_rfl) (by kernel_rfl) (fun _ _ _ h => h) (v := .pointer (some (ad.add (k * 5)))) ?_ hS2 ?_
          · exact Or.inl ⟨by kernel_rfl, fun wx hSx => by (try dsimp only at hSx); go_simp⟩
          simp only [Act.put, List.setIfInBounds_toArray, List.set_cons_zero, List.set_cons_succ, List.getElem_toArray, List.getElem_cons_succ, List.getElem_cons_zero]
          refine wpAnyH_take (i := 6) rfl (by kernel_rfl) (by kernel_rfl) (by kernel_rfl) (fun _ _ _ h => h) (v := .pointer (some (ad.add (k * 5)))) ?_ hS2 ?_
          · exact Or.inl ⟨by kernel_rfl, fun wx hSx => by (try dsimp only at hSx); go_simp⟩
          simp only [Act.put, List.setIfInBounds_toArray, List.set_cons_zero, List.set_cons_succ, List.getElem_toArray, List.getElem_cons_succ, List.getElem_cons_zero]
          refine wpAnyH_take (i := 7) rfl (by kernel_rfl) (by kernel_rfl) (by kernel_rfl) (fun _ _ _ h => h) (v := .string xn) ?_ hS2 ?_
          · exact Or.inl ⟨by kernel_rfl, fun wx hSx => by (try dsimp only at hSx); go_simp⟩
          simp only [Act.put, List.setIfInBounds_toArray, List.set_cons_zero, List.set_cons_succ, List.getElem_toArray, List.getElem_cons_succ, List.getElem_cons_zero]
          refine wpAnyH_take (i := 8) rfl (by kernel_rfl) (by kernel_rfl) (by kernel_rfl) (fun _ _ _ h => h) (v := .pointer (some ⟨w.heap.size, 0, none⟩)) ?_ hS2 ?_
          · exact Or.inl ⟨by kernel_rfl, fun wx hSx => by (try dsimp only at hSx); go_simp⟩
          simp only [Act.put, List.setIfInBounds_toArray, List.set_cons_zero, List.set_cons_succ, List.getElem_toArray, List.getElem_cons_succ, List.getElem_cons_zero]
          refine wpAnyH_take (i := 9) rfl (by kernel_rfl) (by kernel_rfl) (by kernel_rfl) (fun _ _ _ h => h) (v := .string nm) ?_ hS2 ?_
          · exact Or.inl ⟨by kernel_rfl, fun wx hSx => by (try dsimp only at hSx); go_simp⟩
          simp only [Act.put, List.setIfInBounds_toArray, List.set_cons_zero, List.set_cons_succ, List.getElem_toArray, List.getElem_cons_succ, List.getElem_cons_zero]
          refine wpAnyH_take (i := 10) rfl (by kernel_rfl) (by kernel_rfl) (by kernel_rfl) (fun _ _ _ h => h) (v := .bool true) ?_ hS2 ?_
          · exact Or.inl ⟨by kernel_rfl, fun wx hSx => by (try dsimp only at hSx); go_simp⟩
          simp only [Act.put, List.setIfInBounds_toArray, List.set_cons_zero, List.set_cons_succ, List.getElem_toArray, List.getElem_cons_succ, List.getElem_cons_zero]
          refine wpAnyH_take (i := 11) rfl (by kernel_rfl) (by kernel_rfl) (by kernel_rfl) (fun _ _ _ h => h) (v := .bool true) ?_ hS2 ?_
          · exact Or.inl ⟨by kernel_rfl, fun wx hSx => by (try dsimp only at hSx); go_simp⟩
          simp only [Act.put, List.setIfInBounds_toArray, List.set_cons_zero, List.set_cons_succ, List.getElem_toArray, List.getElem_cons_succ, List.getElem_cons_zero]
          refine wpAnyH_take (i := 12) rfl (by kernel_rfl) (by kernel_rfl) (by kernel_rfl) (fun _ _ _ h => h) (v := .bool true) ?_ hS2 ?_
          · exact Or.inl ⟨by kernel_rfl, fun wx hSx => by (try dsimp only at hSx); go_simp⟩
          simp only [Act.put, List.setIfInBounds_toArray, List.set_cons_zero, List.set_cons_succ, List.getElem_toArray, List.getElem_cons_succ, List.getElem_cons_zero]
          refine wpAnyH_take (i := 13) rfl (by kernel_rfl) (by kernel_rfl) (by kernel_rfl) (fun _ _ _ h => h) (v := .pointer (some ⟨w.heap.size, 1, none⟩)) ?_ hS2 ?_
          · exact Or.inl ⟨by kernel_rfl, fun wx hSx => by (try dsimp only at hSx); go_simp⟩
          simp only [Act.put, List.setIfInBounds_toArray, List.set_cons_zero, List.set_cons_succ, List.getElem_toArray, List.getElem_cons_succ, List.getElem_cons_zero]
          refine wpAnyH_take (i := 14) rfl (by kernel_rfl) (by kernel_rfl) (by kernel_rfl) (fun _ _ _ h => h) (v := .slice A2 r.length c2) ?_ hS2 ?_
          · exact Or.inl ⟨by kernel_rfl, fun wx hSx => by (try dsimp only at hSx); go_simp⟩
          simp only [Act.put, List.setIfInBounds_toArray, List.set_cons_zero, List.set_cons_succ, List.getElem_toArray, List.getElem_cons_succ, List.getElem_cons_zero]
          refine wpAnyH_take (i := 15) rfl (by kernel_rfl) (by kernel_rfl) (by kernel_rfl) (fun _ _ _ h => h) (v := .slice (some ad) l.length c) ?_ hS2 ?_
          · exact Or.inl ⟨by kernel_rfl, fun wx hSx => by (try dsimp only at hSx); go_simp⟩
          simp only [Act.put, List.setIfInBounds_toArray, List.set_cons_zero, List.set_cons_succ, List.getElem_toArray, List.getElem_cons_succ, List.getElem_cons_zero]
          refine wpAnyH_take (i := 16) rfl (by kernel_rfl) (by kernel_rfl) (by kernel_rfl) (fun _ _ _ h => h) (v := .int .i64 (k : Int)) ?_ hS2 ?_
          · exact Or.inl ⟨by kernel_rfl, fun wx hSx => by (try dsimp only at hSx); go_simp⟩
          simp only [Act.put, List.setIfInBounds_toArray, List.set_cons_zero, List.set_cons_succ, List.getElem_toArray, List.getElem_cons_succ, List.getElem_cons_zero]
          refine wpAnyH_take (i := 17) rfl (by kernel_rfl) (by kernel_rfl) (by kernel_rfl) (fun _ _ _ h => h) (v := .pointer (some (ad.add (k * 5)))) ?_ hS2 ?_
          · exact Or.inl ⟨by kernel_rfl, fun wx hSx => by (try dsimp only at hSx); go_simp⟩
          simp only [Act.put, List.setIfInBounds_toArray, List.set_cons_zero, List.set_cons_succ, List.getElem_toArray, List.getElem_cons_succ, List.getElem_cons_zero]
          refine wpAnyH_take (i := 18) rfl (by kernel_rfl) (by kernel_rfl) (by kernel_rfl) (fun _ _ _ h => h) (v := .pointer (some ⟨(ad.add (k * 5)).block, (ad.add (k * 5)).off + 1, none⟩)) ?_ hS2 ?_
          · exact Or.inl ⟨by kernel_rfl, fun wx hSx => by (try dsimp only at hSx); go_simp⟩
          simp only [Act.put, List.setIfInBounds_toArray, List.set_cons_zero, List.set_cons_succ, List.getElem_toArray, List.getElem_cons_succ, List.getElem_cons_zero]
          refine wpAnyH_take (i := 19) rfl (by kernel_rfl) (by kernel_rfl) (by kernel_rfl) (fun _ _ _ h => h) (v := .string xv) ?_ hS2 ?_
          · exact Or.inl ⟨by kernel_rfl, fun wx hSx => by (try dsimp only at hSx); go_simp⟩
          simp only [Act.put, List.setIfInBounds_toArray, List.set_cons_zero, List.set_cons_succ, List.getElem_toArray, List.getElem_cons_succ, List.getElem_cons_zero]
          refine wpAnyH_ready (rs := [20]) (by kernel_rfl) (by simp) ?_
          refine AllReadyH.cons rfl (fun K hK => ?_) AllReadyH.nil
          go_simp
          refine (HAL.out _ hk2).mono ?_
          rintro e W3 ⟨rfl, hk3⟩
          dsimp only
          refine hK.out _ _ (HKK.out _ hk3) (fun hS3 => ?_)
          clear hK K hS2
          try simp only [Act.put, List.setIfInBounds_toArray, List.set_cons_zero, List.set_cons_succ, List.getElem_toArray, List.getElem_cons_succ, List.getElem_cons_zero]
          refine wpAnyH_take (i := 21) rfl (by kernel_rfl) (by kernel_rfl) (by kernel_rfl) (fun _ _ _ h => h) (v := .bool ok) ?_ hS3 ?_
          · exact Or.inl ⟨by kernel_rfl, fun wx hSx => by (try dsimp only at hSx); go_simp⟩
          simp only [Act.put, List.setIfInBounds_toArray, List.set_cons_zero, List.set_cons_succ, List.getElem_toArray, List.getElem_cons_succ, List.getElem_cons_zero]
          refine wpAnyH_done (by kernel_rfl) ?_ _
          all_goals
            have HB4 := Lib.hid (below_step HBL.out hk3.1 HBL.out.size)
            have HOW4 := Lib.hid (own_below HOWN.out hk3.1 (Nat.le_refl _))
            have HZ4 := Lib.hid hk3.2
            cases ok with
            | false =>
              go_wp2
              go_roundw
              case rel => exact ⟨k + 1, xs, by omega, by go_num, by omega, Lib.hid (by rw [HN.out]; simp), HOW4, HB4⟩
              case measure => simp [intOf]; omega
            | true =>
              go_wp2_with (at_builtin; refine wpList_app rfl _ _ 43 rfl W0.heap.size 3 i0 (.int .i64 0) 8 Tryz.underlying43 HI.out.1 HI.out.2.1 HI.out.2.2.1 HI.out.2.2.2 rfl _ xs.length _ rfl (HOW4.out.alloc _) ⟨W3.heap.size, 0, none⟩ 1 1 [.int .i64 (k : Int)] rfl rfl ?c1 ?c2 ?c3 ?c4 ?c5 ?_)
              case c2 => simp [Value.oneCell']
              case c3 => unfold maxLen; omega
              case c4 => omega
              case c5 => have := HBL.out.size; have := HZ4.out; simp; omega
              intro v' w6 hown6 hgrow6 hmov6
              obtain ⟨A6, cap6, rfl⟩ := own_form hown6
              have HR5 := Lib.hid ((HB4.out.alloc (by have := HBL.out.size; have := HZ4.out; omega) (.cells #[.int .i64 (k : Int)] 3)).grown hgrow6 (by have := HBL.out.size; have := HZ4.out; simp; omega) fun g hg => (HOW4.out.lt g hg).1)
              have HR1 := Lib.hid (show w6.ownsRow W0.heap.size 3 1 (.slice A6 (xs.length + 1) cap6) (xs ++ [(k : Int)]).length (ints (xs ++ [(k : Int)])) by rw [List.length_append, ints_snoc]; exact hown6)
              clear hown6 hgrow6 hmov6
              go_wp2
              go_roundw
              case rel => exact ⟨k + 1, xs ++ [(k : Int)], by omega, by go_num, by simp; omega, Lib.hid (by rw [HN.out]; simp), HR1, HR5⟩
              case measure => simp [intOf]; omega
        · have hsb : (xn.toList == nm.toList) = false := by rw [str_ne_iff, decide_eq_false hnn]
          have HN := Lib.hid (show xs = foundL l (nm, r) (k + 1) by rw [HNX.out, hnb, decide_eq_false hnn, Bool.true_and, Bool.false_and, if_neg (by decide)])
          clear hnn hnb g0 g1 hx0 hx1
          go_wp2
          refine wp_region_held (S := fun w' => (w'.cell? ⟨(ad.add (k * 5)).block, (ad.add (k * 5)).off, (ad.add (k * 5)).3⟩ = some (.string xn) ∧ w'.cell? ⟨(ad.add (k * 5)).block, (ad.add (k * 5)).off + 1, none⟩ = some (.string xv)) ∧ w'.cell? ⟨w.heap.size, 0, none⟩ = some (.string nm) ∧ w'.cell? ⟨w.heap.size, 1, none⟩ = some (.slice A2 r.length c2)) (by kernel_rfl) ?_
          have hS := HKK.out _ (KeepW.drew hk0)
          change wpAnyH _ _ _ _ _ _ _ _ wr.drew
          refine wpAnyH_take (i := 0) rfl (by kernel_rfl) (by kernel_rfl) (by kernel_rfl) (fun _ _ _ h => h) (v := .agg #[.string nm, .slice A2 r.length c2]) ?_ hS ?_
          · exact Or.inl ⟨by kernel_rfl, fun wx hSx => by (try dsimp only at hSx); go_simp⟩
          simp only [Act.put, List.setIfInBounds_toArray, List.set_cons_zero, List.set_cons_succ, List.getElem_toArray, List.getElem_cons_succ, List.getElem_cons_zero]
          refine wpAnyH_ready (rs := [1]) (by kernel_rfl) (by simp) ?_
          refine AllReadyH.cons rfl (fun K hK => ?_) AllReadyH.nil
          go_simp
          refine (HMN.out _ (KeepW.drew hk0)).mono ?_
          rintro e W2 ⟨rfl, hk2⟩
          dsimp only
          refine hK.out _ _ (HKK.out _ hk2) (fun hS2 => ?_)
          clear hK K hS
          try simp only [Act.put, List.setIfInBounds_toArray, List.set_cons_zero, List.set_cons_succ, List.getElem_toArray, List.getElem_cons_succ, List.getElem_cons_zero]
          refine wpAnyH_take (i := 2) rfl (by kernel_rfl) (by kernel_rfl) (by kernel_rfl) (fun _ _ _ h => h) (v := .bool true) ?_ hS2 ?_
          · exact Or.inl ⟨by kernel_rfl, fun wx hSx => by (try dsimp only at hSx); go_simp⟩
          simp only [Act.put, List.setIfInBounds_toArray, List.set_cons_zero, List.set_cons_succ, List.getElem_toArray, List.getElem_cons_succ, List.getElem_cons_zero]
          refine wpAnyH_take (i := 3) rfl (by kernel_rfl) (by kernel_rfl) (by kernel_rfl) (fun _ _ _ h => h) (v := .slice (some ad) l.length c) ?_ hS2 ?_
          · exact Or.inl ⟨by kernel_rfl, fun wx hSx => by (try dsimp only at hSx); go_simp⟩
          simp only [Act.put, List.setIfInBounds_toArray, List.set_cons_zero, List.set_cons_succ, List.getElem_toArray, List.getElem_cons_succ, List.getElem_cons_zero]
          refine wpAnyH_take (i := 4) rfl (by kernel_rfl) (by kernel_rfl) (by kernel_rfl) (fun _ _ _ h => h) (v := .int .i64 (k : Int)) ?_ hS2 ?_
          · exact Or.inl ⟨by kernel_rfl, fun wx hSx => by (try dsimp only at hSx); go_simp⟩
          simp only [Act.put, List.setIfInBounds_toArray, List.set_cons_zero, List.set_cons_succ, List.getElem_toArray, List.getElem_cons_succ, List.getElem_cons_zero]
          refine wpAnyH_take (i := 5) rfl (by kernel_rfl) (by kernel_rfl) (by kernel_rfl) (fun _ _ _ h => h) (v := .pointer (some (ad.add (k * 5)))) ?_ hS2 ?_
          · exact Or.inl ⟨by kernel_rfl, fun wx hSx => by (try dsimp only at hSx); go_simp⟩
          simp only [Act.put, List.setIfInBounds_toArray, List.set_cons_zero, List.set_cons_succ, List.getElem_toArray, List.getElem_cons_succ, List.getElem_cons_zero]
          refine wpAnyH_take (i := 6) rfl (by kernel_rfl) (by kernel_rfl) (by kernel_rfl) (fun _ _ _ h => h) (v := .pointer (some (ad.add (k * 5)))) ?_ hS2 ?_
          · exact Or.inl ⟨by kernel_rfl, fun wx hSx => by (try dsimp only at hSx); go_simp⟩
          simp only [Act.put, List.setIfInBounds_toArray, List.set_cons_zero, List.set_cons_succ, List.getElem_toArray, List.getElem_cons_succ, List.getElem_cons_zero]
          refine wpAnyH_take (i := 7) rfl (by kernel_rfl) (by kernel_rfl) (by kernel_rfl) (fun _ _ _ h => h) (v := .string xn) ?_ hS2 ?_
          · exact Or.inl ⟨by kernel_rfl, fun wx hSx => by (try dsimp only at hSx); go_simp⟩
          simp only [Act.put, List.setIfInBounds_toArray, List.set_cons_zero, List.set_cons_succ, List.getElem_toArray, List.getElem_cons_succ, List.getElem_cons_zero]
          refine wpAnyH_take (i := 8) rfl (by kernel_rfl) (by kernel_rfl) (by kernel_rfl) (fun _ _ _ h => h) (v := .pointer (some ⟨w.heap.size, 0, none⟩)) ?_ hS2 ?_
          · exact Or.inl ⟨by kernel_rfl, fun wx hSx => by (try dsimp only at hSx); go_simp⟩
          simp only [Act.put, List.setIfInBounds_toArray, List.set_cons_zero, List.set_cons_succ, List.getElem_toArray, List.getElem_cons_succ, List.getElem_cons_zero]
          refine wpAnyH_take (i := 9) rfl (by kernel_rfl) (by kernel_rfl) (by kernel_rfl) (fun _ _ _ h => h) (v := .string nm) ?_ hS2 ?_
          · exact Or.inl ⟨by kernel_rfl, fun wx hSx => by (try dsimp only at hSx); go_simp⟩
          simp only [Act.put, List.setIfInBounds_toArray, List.set_cons_zero, List.set_cons_succ, List.getElem_toArray, List.getElem_cons_succ, List.getElem_cons_zero]
          refine wpAnyH_take (i := 10) rfl (by kernel_rfl) (by kernel_rfl) (by kernel_rfl) (fun _ _ _ h => h) (v := .bool false) ?_ hS2 ?_
          · exact Or.inl ⟨by kernel_rfl, fun wx hSx => by (try dsimp only at hSx); go_simp⟩
          simp only [Act.put, List.setIfInBounds_toArray, List.set_cons_zero, List.set_cons_succ, List.getElem_toArray, List.getElem_cons_succ, List.getElem_cons_zero]
          refine wpAnyH_take (i := 11) rfl (by kernel_rfl) (by kernel_rfl) (by kernel_rfl) (fun _ _ _ h => h) (v := .bool false) ?_ hS2 ?_
          · exact Or.inl ⟨by kernel_rfl, fun wx hSx => by (try dsimp only at hSx); go_simp⟩
          simp only [Act.put, List.setIfInBounds_toArray, List.set_cons_zero, List.set_cons_succ, List.getElem_toArray, List.getElem_cons_succ, List.getElem_cons_zero]
          refine wpAnyH_take (i := 12) rfl (by kernel_rfl) (by kernel_rfl) (by kernel_rfl) (fun _ _ _ h => h) (v := .bool false) ?_ hS2 ?_
          · exact Or.inl ⟨by kernel_rfl, fun wx hSx => by (try dsimp only at hSx); go_simp⟩
          simp only [Act.put, List.setIfInBounds_toArray, List.set_cons_zero, List.set_cons_succ, List.getElem_toArray, List.getElem_cons_succ, List.getElem_cons_zero]
          refine wpAnyH_take (i := 13) rfl (by kernel_rfl) (by kernel_rfl) (by kernel_rfl) (fun _ _ _ h => h) (v := undef) ?_ hS2 ?_
          · exact Or.inr ⟨by kernel_rfl, rfl⟩
          simp only [Act.put, List.setIfInBounds_toArray, List.set_cons_zero, List.set_cons_succ, List.getElem_toArray, List.getElem_cons_succ, List.getElem_cons_zero]
          refine wpAnyH_take (i := 14) rfl (by kernel_rfl) (by kernel_rfl) (by kernel_rfl) (fun _ _ _ h => h) (v := undef) ?_ hS2 ?_
          · exact Or.inr ⟨by kernel_rfl, rfl⟩
          simp only [Act.put, List.setIfInBounds_toArray, List.set_cons_zero, List.set_cons_succ, List.getElem_toArray, List.getElem_cons_succ, List.getElem_cons_zero]
          refine wpAnyH_take (i := 15) rfl (by kernel_rfl) (by kernel_rfl) (by kernel_rfl) (fun _ _ _ h => h) (v := undef) ?_ hS2 ?_
          · exact Or.inr ⟨by kernel_rfl, rfl⟩
          simp only [Act.put, List.setIfInBounds_toArray, List.set_cons_zero, List.set_cons_succ, List.getElem_toArray, List.getElem_cons_succ, List.getElem_cons_zero]
          refine wpAnyH_take (i := 16) rfl (by kernel_rfl) (by kernel_rfl) (by kernel_rfl) (fun _ _ _ h => h) (v := undef) ?_ hS2 ?_
          · exact Or.inr ⟨by kernel_rfl, rfl⟩
          simp only [Act.put, List.setIfInBounds_toArray, List.set_cons_zero, List.set_cons_succ, List.getElem_toArray, List.getElem_cons_succ, List.getElem_cons_zero]
          refine wpAnyH_take (i := 17) rfl (by kernel_rfl) (by kernel_rfl) (by kernel_rfl) (fun _ _ _ h => h) (v := undef) ?_ hS2 ?_
          · exact Or.inr ⟨by kernel_rfl, rfl⟩
          simp only [Act.put, List.setIfInBounds_toArray, List.set_cons_zero, List.set_cons_succ, List.getElem_toArray, List.getElem_cons_succ, List.getElem_cons_zero]
          refine wpAnyH_take (i := 18) rfl (by kernel_rfl) (by kernel_rfl) (by kernel_rfl) (fun _ _ _ h => h) (v := undef) ?_ hS2 ?_
          · exact Or.inr ⟨by kernel_rfl, rfl⟩
          simp only [Act.put, List.setIfInBounds_toArray, List.set_cons_zero, List.set_cons_succ, List.getElem_toArray, List.getElem_cons_succ, List.getElem_cons_zero]
          refine wpAnyH_take (i := 19) rfl (by kernel_rfl) (by kernel_rfl) (by kernel_rfl) (fun _ _ _ h => h) (v := undef) ?_ hS2 ?_
          · exact Or.inr ⟨by kernel_rfl, rfl⟩
          simp only [Act.put, List.setIfInBounds_toArray, List.set_cons_zero, List.set_cons_succ, List.getElem_toArray, List.getElem_cons_succ, List.getElem_cons_zero]
          refine wpAnyH_take (i := 20) rfl (by kernel_rfl) (by kernel_rfl) (by kernel_rfl) (fun _ _ _ h => h) (v := undef) ?_ hS2 ?_
          · exact Or.inr ⟨by kernel_rfl, rfl⟩
          simp only [Act.put, List.setIfInBounds_toArray, List.set_cons_zero, List.set_cons_succ, List.getElem_toArray, List.getElem_cons_succ, List.getElem_cons_zero]
          refine wpAnyH_take (i := 21) rfl (by kernel_rfl) (by kernel_rfl) (by kernel_rfl) (fun _ _ _ h => h) (v := .bool false) ?_ hS2 ?_
          · exact Or.inl ⟨by kernel_rfl, fun wx hSx => by (try dsimp only at hSx); go_simp⟩
          simp only [Act.put, List.setIfInBounds_toArray, List.set_cons_zero, List.set_cons_succ, List.getElem_toArray, List.getElem_cons_succ, List.getElem_cons_zero]
          refine wpAnyH_done (by kernel_rfl) ?_ _
          all_goals
            have HB4 := Lib.hid (below_step HBL.out hk2.1 HBL.out.size)
            have HOW4 := Lib.hid (own_below HOWN.out hk2.1 (Nat.le_refl _))
            go_wp2
            go_roundw
            case rel => exact ⟨k + 1, xs, by omega, by go_num, by omega, Lib.hid HN.out, HOW4, HB4⟩
            case measure => simp [intOf]; omega
    · have hke : k = l.length := by omega
      subst hke
      have hltI : ¬ (l.length : Int) < (l.length : Int) := by omega
      have HE := Lib.hid (show xs = findL l (nm, r) by rw [HX.out, found_all])
      go_wp2
      go_ret
      refine ⟨A1, cap1, by rw [← HE.out]; rfl, by rw [← HE.out]; exact (RdS.own HOWN.out).all, below_step HB.out HBL.out HB.out.size⟩
end Go.Proofs.YtcnedecmmplmoaaGreatDoor
