/- The walk of the law ShaChains. -/
import Derived.Test.YtnenjljcopbdeaaDoorShaT
namespace Go.Proofs.YtnenjljcopbdeaaDoor
open Go.RowKit Go.BigFrame

theorem shaChains_long (A : Option Addr) (n cap : Nat) (w : World) (ht : Tabs w) (h5 : 3000 < n) :
    Calls Tryd.prog 7 #[.slice A n cap] w fun e w' => e = .returned (.bool true) ∧ Below w.heap.size w w' := by
  have HT := Lib.hid ht
  clear ht
  go_enter Tryd.func7, Tryd.ntmps7
  go_wp2_with fail
  refine (works_any _ HT.out).mono ?_
  rintro e w4 ⟨rfl, hb4⟩
  go_wp2_with fail
  go_ret
  exact ⟨rfl, hb4⟩

/-- What is known of bytes of the call's own, in a block that is known whole. -/
def Row (cur : Array Value) (T : Nat) (m : Nat → Nat) : Prop := ∀ i, i < T → cur[i]? = some (.int .u8 (m i : Int))
theorem own_block {w : World} {base n : Nat} {e : TypeId} {v : Value} {d : Nat → Nat} (h : w.ownsRow base e 1 v n (cells d n)) (hn : 0 < n) :
    ∃ g cap cur, v = .slice (some ⟨g, 0, none⟩) n cap ∧ base ≤ g ∧ w.heap[g]? = some (.cells cur e (0, 0)) ∧ Row cur n d ∧ n ≤ cap ∧ cap ≤ maxLen := by
  obtain ⟨hl, ⟨rfl, h0⟩ | ⟨g, cap, cur, rfl, hg, hgg, h1, h2, h3, h4⟩⟩ := h
  · omega
  · refine ⟨g, cap, cur, rfl, hg, hgg, fun j hj => ?_, h1, h2⟩
    have := cells_get d n j hj
    rw [← h4, List.getElem?_take_of_lt (by omega)] at this
    simpa using this
def cpTo (m : Nat → Nat) (a j i : Nat) : Nat := if i < j then m (a + i) else 0
theorem cp_zero (m : Nat → Nat) (a : Nat) : digA (fun _ => 0) 64 = digA (cpTo m a 0) 64 := digA_congr _ _ _ fun i _ => by simp [cpTo]
theorem cp_all (m : Nat → Nat) (a : Nat) : digA (cpTo m a 64) 64 = digA (fun i => m (a + i)) 64 := digA_congr _ _ _ fun i hi => by simp [cpTo, hi]
theorem cp_set (m : Nat → Nat) (a j : Nat) : (digA (cpTo m a j) 64).setIfInBounds j (.int .u8 (m (a + j) : Int)) = digA (cpTo m a (j + 1)) 64 := by
  have e : m (a + j) = cpTo m a (j + 1) j := by simp [cpTo]
  rw [e]
  exact digA_set _ _ _ _ fun i _ hne => by unfold cpTo; split <;> split <;> first | rfl | omega
theorem zeros64 : #[Value.int IntKind.u8 0, Value.int IntKind.u8 0, Value.int IntKind.u8 0, Value.int IntKind.u8 0, Value.int IntKind.u8 0, Value.int IntKind.u8 0, Value.int IntKind.u8 0, Value.int IntKind.u8 0, Value.int IntKind.u8 0, Value.int IntKind.u8 0, Value.int IntKind.u8 0, Value.int IntKind.u8 0, Value.int IntKind.u8 0, Value.int IntKind.u8 0, Value.int IntKind.u8 0, Value.int IntKind.u8 0, Value.int IntKind.u8 0, Value.int IntKind.u8 0, Value.int IntKind.u8 0, Value.int IntKind.u8 0, Value.int IntKind.u8 0, Value.int IntKind.u8 0, Value.int IntKind.u8 0, Value.int IntKind.u8 0, Value.int IntKind.u8 0, Value.int IntKind.u8 0, Value.int IntKind.u8 0, Value.int IntKind.u8 0, Value.int IntKind.u8 0, Value.int IntKind.u8 0, Value.int IntKind.u8 0, Value.int IntKind.u8 0, Value.int IntKind.u8 0, Value.int IntKind.u8 0, Value.int IntKind.u8 0, Value.int IntKind.u8 0, Value.int IntKind.u8 0, Value.int IntKind.u8 0, Value.int IntKind.u8 0, Value.int IntKind.u8 0, Value.int IntKind.u8 0, Value.int IntKind.u8 0, Value.int IntKind.u8 0, Value.int IntKind.u8 0, Value.int IntKind.u8 0, Value.int IntKind.u8 0, Value.int IntKind.u8 0, Value.int IntKind.u8 0, Value.int IntKind.u8 0, Value.int IntKind.u8 0, Value.int IntKind.u8 0, Value.int IntKind.u8 0, Value.int IntKind.u8 0, Value.int IntKind.u8 0, Value.int IntKind.u8 0, Value.int IntKind.u8 0, Value.int IntKind.u8 0, Value.int IntKind.u8 0, Value.int IntKind.u8 0, Value.int IntKind.u8 0, Value.int IntKind.u8 0, Value.int IntKind.u8 0, Value.int IntKind.u8 0, Value.int IntKind.u8 0] = digA (fun _ => 0) 64 := rfl
def SC (gC : Nat) (c : Nat → UInt32) (w : World) : Prop := w.rangeAt gC 0 (wcells c 8) ∧ gC < w.heap.size
theorem SC.below {gC : Nat} {c : Nat → UInt32} {w w' : World} (s : SC gC c w) (hb : Below w.heap.size w w') : SC gC c w' := ⟨range_below hb s.2 s.1, Nat.lt_of_lt_of_le s.2 hb.size⟩
theorem range_words (w : World) (g : Nat) (c : Nat → UInt32) (n : Nat) (t : TypeId) (hg : w.heap[g]? = some (.cells (wrow c n) t (0, 0))) : w.rangeAt g 0 (wcells c n) := fun j v hv => by
  have hj : j < n := by
    have := (List.getElem?_eq_some_iff.1 hv).1
    rwa [wcells_len] at this
  rw [wcells_get _ _ _ hj] at hv
  rw [Nat.zero_add, cell_of_row _ _ _ _ _ _ hg, wrow_get _ _ _ hj, hv]
theorem info8c (c : Nat → UInt32) : (Tryd.prog.info? 28).map (·.size) = some (wcells c 8).length := by rw [wcells_len]; exact info8w

set_option maxRecDepth 100000 in
set_option maxHeartbeats 2000000 in
theorem shaChains_short (d : Nat → Nat) (hd : ∀ i, d i < 256) (A : Option Addr) (n cap : Nat) (w : World) (ht : Tabs w) (hnc : n ≤ cap) (hcm : cap ≤ maxLen) (hr : Holds w w.heap.size A n d) (hA : A = none → cap = 0) (h5 : ¬ 3000 < n) :
    Calls Tryd.prog 7 #[.slice A n cap] w fun e w' => e = .returned (.bool true) ∧ Below w.heap.size w w' := by
  obtain ⟨i0, hi, hz0, hz1, hz2⟩ := info_parts infoU8
  have HT := Lib.hid ht
  have HD := Lib.hid hd
  have HR := Lib.hid hr
  have HA := Lib.hid hA
  have HCM := Lib.hid hcm
  have HNC := Lib.hid hnc
  unfold maxLen at hcm
  clear ht hd hr hA
  go_enter Tryd.func7, Tryd.ntmps7
  go_wp2_with fail
  refine (pad_any n _).mono ?_
  rintro e w1 ⟨rfl, hb1, hg1⟩
  have hL1 : padLen n ≤ 72 := by have := noughts_lt n; unfold padLen; omega
  have hL2 : 9 ≤ padLen n := by unfold padLen; omega
  have HM := Lib.hid (msg_mod n)
  have HML := Lib.hid (show msgLen n = n + padLen n from rfl)
  have HMC := Lib.hid (msg_cells d n)
  obtain ⟨gP, GP⟩ : ∃ g, Hid (g = w.heap.size) := ⟨_, Lib.hid rfl⟩
  rw [← GP.out] at hg1 ⊢
  have HP0 : Hid (padB n 0 = 128) := Lib.hid rfl
  obtain ⟨pb, PB⟩ : ∃ p, Hid (p = padB n) := ⟨_, Lib.hid rfl⟩
  rw [← PB.out] at hg1 HMC HP0
  generalize padLen n = L at *
  have hmod : (((n : Int) + (L : Int)) % 64 != 0) = false := by rw [bne_eq_false_iff_eq]; have := HM.out; have := HML.out; omega
  have h9 : decide ((L : Int) < 9) = false := decide_eq_false (by omega)
  have h72 : decide (72 < (L : Int)) = false := decide_eq_false (by omega)
  have hc0 : w1.cell? ⟨gP, 0, none⟩ = some (.int .u8 128) := by rw [cell_of_row _ _ _ _ _ _ hg1, digA_get _ _ _ (by omega), HP0.out]; rfl
  have hz1' : w.heap.size < w1.heap.size := by have := block_lt hg1; have := GP.out; omega
  go_upto_region 7 with (fail)
  clear hc0 hmod h9 h72
  go_wp2_with (at_builtin; refine wpList_append_holds rfl _ _ 23 rfl w1.heap.size 5 i0 Tryd.underlying23 hi hz0 hz1 hz2 _ 0 [] rfl (World.ownsRow_nil _ _ _ _) w.heap.size A n cap _ rfl (HR.out.below hb1) HA.out HNC.out ?b5 ?b6 ?b7 ?_)
  case b5 => unfold maxLen; omega
  case b6 => omega
  case b7 => omega
  intro v2 w2 hown2 hgr2
  have hB2 := hb1.grown hgr2 hb1.size (fun g hg => by cases hg)
  have hg2 := kept hg1 hgr2 (fun e => by cases e)
  have hz2' : w1.heap.size ≤ w2.heap.size := hgr2.size
  clear hgr2 hb1
  have HO2 := Lib.hid hown2
  have HP2 : Hid (Holds w2 w2.heap.size (some ⟨gP, 0, none⟩) L pb) := Lib.hid fun _ => ⟨_, rfl, block_lt hg2, fun i hi => row_cells hg2 i _ (digA_get _ _ _ hi)⟩
  have HN2 : Hid ((some ⟨gP, 0, none⟩ : Option Addr) = none → L = 0) := Lib.hid fun h => by cases h
  clear hown2 hg2 hg1
  go_wp2_with (at_builtin; refine wpList_append_holds rfl _ _ 23 rfl w1.heap.size 5 i0 Tryd.underlying23 hi hz0 hz1 hz2 v2 n _ rfl HO2.out w2.heap.size (some ⟨gP, 0, none⟩) L L pb rfl HP2.out HN2.out (Nat.le_refl _) ?b5 ?b6 ?b7 ?_)
  case b5 => unfold maxLen; omega
  case b6 => omega
  case b7 => omega
  intro v3 w3 hown3 hgr3
  have hB3 := hB2.grown hgr3 (by omega) (fun g hg => by have := (HO2.out.lt g hg).1; omega)
  rw [HMC.out] at hown3
  have HTL : Hid (n + L = msgLen n) := Lib.hid HML.out.symm
  rw [HTL.out] at hown3
  obtain ⟨T, TT⟩ : ∃ T, Hid (T = msgLen n) := ⟨_, Lib.hid rfl⟩
  obtain ⟨m, MM⟩ : ∃ m, Hid (m = msgB d n) := ⟨_, Lib.hid rfl⟩
  rw [← TT.out, ← MM.out] at hown3
  have hT9 : 9 ≤ T := by have := TT.out; have := HTL.out; omega
  have hTb : T ≤ 3072 := by have := TT.out; have := HTL.out; omega
  obtain ⟨gL, capL, cur, rfl, hgL, hgR3, hrow, hTc, hcmL⟩ := own_block hown3 (by omega)
  have HROW := Lib.hid hrow
  unfold maxLen at hcmL
  have HGL := Lib.hid (show w.heap.size < gL by omega)
  clear hgr3 hB2 HO2 HP2 HN2 hown3 hrow hgL
  have hz3 : w.heap.size < w3.heap.size := by have := block_lt hgR3; have := HGL.out; omega
  go_wp2_with fail
  refine (first_any _).mono ?_
  rintro e w4 ⟨rfl, hb4⟩
  have hgL4 := (hb4.block gL (block_lt hgR3)).trans hgR3
  have hB4 := below_step hB3 hb4 hB3.size
  clear hb4 hB3 hgR3
  go_upto_region 10 with (refine wpList_store_row rfl 28 _ _ rfl w4.heap.size (wrow hW 8) rfl rfl 28 _ (heap_alloc_new _ _) (by rw [wrow_size]; exact info8w) (by rw [wrow_size]; rfl) (wrow_ok _ _) ?_)
  rw [zeros8]
  obtain ⟨w5, hw5, hgC5, hold5, hB5, hz5⟩ := row_put w.heap.size w w4 (wrow (fun _ => 0) 8) (wrow hW 8) 28 hB4 hB4.size
  rw [← hw5]
  have hgL5 := (hold5 gL (block_lt hgL4)).trans hgL4
  obtain ⟨gC, GC⟩ : ∃ g, Hid (g = w4.heap.size) := ⟨_, Lib.hid rfl⟩
  have HGC := Lib.hid (show w.heap.size < gC ∧ gL < gC by have := GC.out; have := block_lt hgL4; have := HGL.out; omega)
  rw [← GC.out] at hgC5 ⊢
  clear hw5 hold5 hgL4 hB4 hz5 GC
  go_wp2_with fail
  go_loopw [6] (fun i wr => ∃ k a : Nat, i = .int .i64 (a : Int) ∧ a ≤ T ∧ Hid (a = 64 * k) ∧ wr.heap[gL]? = some (.cells cur 5) ∧ wr.heap[gC]? = some (.cells (wrow (chainN m hW k) 8) 28) ∧ Below w.heap.size w wr) (fun i _ => T - (intOf i).toNat)
  case atStart => exact ⟨0, 0, rfl, by omega, Lib.hid rfl, hgL5, hgC5, hB5⟩
  case round =>
    clear hgL5 hgC5 hB5
    obtain ⟨k, a, rfl, ha, HAK, hgL, hgC, hB⟩ := hrel
    by_cases hlt : a + 64 ≤ T
    · have hle : decide ((a : Int) + 64 ≤ (T : Int)) = true := decide_eq_true (by omega)
      obtain ⟨wo, hwo⟩ : ∃ wo : World, wo = wr := ⟨_, rfl⟩
      go_upto_region 14 with (fail)
      rw [zeros64]
      obtain ⟨w6, hw6, hgB6, hb6, hsz6⟩ := row_new wr (.cells (digA (fun _ => 0) 64) 29)
      rw [← hw6]
      have hgL6 := (hb6.block gL (block_lt hgL)).trans hgL
      have hgC6 := (hb6.block gC (block_lt hgC)).trans hgC
      have hB6 := below_step hB hb6 hB.size
      obtain ⟨gB, GB⟩ : ∃ g, Hid (g = wr.heap.size) := ⟨_, Lib.hid rfl⟩
      have HGB := Lib.hid (show w.heap.size < gB ∧ gL < gB ∧ gC < gB by have := GB.out; have := block_lt hgL; have := block_lt hgC; have := HGL.out; omega)
      rw [← GB.out] at hgB6 ⊢
      rw [cp_zero m a] at hgB6
      clear hw6 hb6 hsz6 hgL hgC hB GB hwo wo
      go_wp2_with fail
      go_loopw [8] (fun i wr => ∃ j : Nat, j ≤ 64 ∧ i = .int .i64 j ∧ wr.heap[gL]? = some (.cells cur 5) ∧ wr.heap[gC]? = some (.cells (wrow (chainN m hW k) 8) 28) ∧ wr.heap[gB]? = some (.cells (digA (cpTo m a j) 64) 29) ∧ Below w.heap.size w wr) (fun i _ => 64 - (intOf i).toNat)
      case atStart => exact ⟨0, by omega, rfl, hgL6, hgC6, hgB6, hB6⟩
      case round =>
        clear hgL6 hgC6 hgB6 hB6
        obtain ⟨j, hj, rfl, hgL, hgC, hgB, hB⟩ := hrel
        by_cases hlj : j < 64
        · have haj : a + j < T := by omega
          have haj2 : (a : Int) + (j : Int) < (T : Int) := by omega
          obtain ⟨q, hq⟩ : ∃ q, q = a + j := ⟨_, rfl⟩
          have eq1 : (a : Int) + (j : Int) = (q : Int) := by omega
          have hqT : (q : Int) < (T : Int) := by omega
          have HQ := Lib.hid hq
          have hcq : wr.cell? ⟨gL, q, none⟩ = some (.int .u8 (m q : Int)) := by rw [cell_of_row _ _ _ _ _ _ hgL, HROW.out q (by omega)]
          have hcb : wr.cell? ⟨gB, j, none⟩ = some (.int .u8 (cpTo m a j j : Int)) := by rw [cell_of_row _ _ _ _ _ _ hgB, digA_get _ _ _ hlj]
          have hfb : wr.frozen? ⟨gB, j, none⟩ = false := frozen_of_row _ _ _ _ _ hgB
          obtain ⟨wz, hwz, hgLz, hgCz, hgBz, hBz⟩ : ∃ wz, wz = wr.setCell ⟨gB, j, none⟩ (.int .u8 (m q : Int)) ∧ wz.heap[gL]? = some (.cells cur 5) ∧ wz.heap[gC]? = some (.cells (wrow (chainN m hW k) 8) 28) ∧ wz.heap[gB]? = some (.cells (digA (cpTo m a (j + 1)) 64) 29) ∧ Below w.heap.size w wz := by
            have := HGB.out
            refine ⟨_, rfl, (heap_setCell_other wr _ _ _ (by show gL ≠ gB; omega)).trans hgL, (heap_setCell_other wr _ _ _ (by show gC ≠ gB; omega)).trans hgC, ?_, hB.setCell (by show w.heap.size ≤ gB; omega) _⟩
            rw [heap_setCell_same wr gB j _ _ _ hgB, HQ.out, cp_set]
          clear hgL hgC hgB hB hq
          go_wp2_with fail
          rw [← hwz]
          go_roundw
          case rel => exact ⟨j + 1, by omega, by go_num, hgLz, hgCz, hgBz, hBz⟩
          case measure => simp [intOf]; omega
        · obtain rfl : j = 64 := by omega
          rw [cp_all] at hgB
          go_wp2_with (first | (refine wpList_load_row rfl 28 _ rfl gC rfl 28 _ (0, 0) _ hgC Tryd.underlying28 rfl (by rw [wrow_size]; exact info8w) ?_) | (refine wpList_load_row rfl 29 _ rfl gB rfl 29 _ (0, 0) _ hgB Tryd.underlying29 rfl (by rw [digA_size]; exact info64) ?_))
          refine (block_any (chainN m hW k) (fun i => m (a + i)) (fun i => by rw [MM.out]; exact msgB_lt d HD.out n _) _ (HT.out.below hB)).mono ?_
          rintro e w7 ⟨rfl, hb7⟩
          have hgL7 := (hb7.block gL (block_lt hgL)).trans hgL
          have hgC7 := (hb7.block gC (block_lt hgC)).trans hgC
          have hB7 := below_step hB hb7 hB.size
          have HCH : Hid (block (chainN m hW k) (fun i => m (a + i)) = chainN m hW (k + 1)) := Lib.hid (by rw [HAK.out]; rfl)
          clear hgL hgC hgB hB hb7
          go_wp2_with (refine wpList_store_row rfl 28 _ _ rfl gC (wrow (block (chainN m hW k) (fun i => m (a + i))) 8) rfl rfl 28 _ hgC7 (by rw [wrow_size]; exact info8w) (by rw [wrow_size, wrow_size]) (wrow_ok _ _) ?_)
          have hgL8 := (setRow_other w7 gC gL (wrow (block (chainN m hW k) (fun i => m (a + i))) 8) (by have := HGC.out; omega)).trans hgL7
          have hgC8 := setRow_heap w7 gC (wrow (fun i => chainN m hW k i) 8) (wrow (block (chainN m hW k) (fun i => m (a + i))) 8) 28 (0, 0) hgC7
          have hB8 := below_setRow hB7 (show w.heap.size ≤ gC by have := HGC.out; omega) (wrow (block (chainN m hW k) (fun i => m (a + i))) 8)
          rw [HCH.out] at hgL8 hgC8 hB8 ⊢
          generalize w7.setRow gC (wrow (chainN m hW (k + 1)) 8) = w8 at *
          clear hgL7 hgC7 hB7
          go_roundw
          case rel => exact ⟨k + 1, a + 64, by go_num, by omega, Lib.hid (by have := HAK.out; omega), hgL8, hgC8, hB8⟩
          case measure => simp [intOf]; omega
    · have hle : decide ((a : Int) + 64 ≤ (T : Int)) = false := decide_eq_false (by omega)
      have HKK := Lib.hid (show chainN m hW k = sumC d n by
        have h1 := HAK.out
        have h2 := TT.out
        have h3 := HM.out
        rw [MM.out, show k = msgLen n / 64 by omega]
        exact sumC_msg d n)
      rw [HKK.out] at hgC
      clear hlt hgL
      go_wp2_with fail
      have hS : SC gC (sumC d n) wr := ⟨range_words _ _ _ _ _ hgC, block_lt hgC⟩
      clear hgC
      have hu := Tryd.underlying28
      have hi8 := info8c (sumC d n)
      have heq : ∀ wx : World, (Op.equalIn 10000 33 (.agg (digA (sumB d n) 32)) (.agg (digA (dig (sumC d n)) 32))).run Tryd.prog wx = .ok true wx := fun wx => (run_equal_dig wx _ _).trans (by rw [sameB_of 32 (sumB d n) (dig (sumC d n)) (fun i _ => rfl)])
      refine wp_region_held (S := SC gC (sumC d n)) (by kernel_rfl) ?_
      refine wpAnyH_take (i := 0) rfl (by kernel_rfl) (by kernel_rfl) (by kernel_rfl) (fun _ _ _ h => h) (Or.inl ⟨by rfl, fun wx _ => run_move _ rfl wx⟩) hS ?_
      simp only [Act.put]
      refine wpAnyH_take (i := 2) rfl (by kernel_rfl) (by kernel_rfl) (by kernel_rfl) (fun _ _ _ h => h) (yieldsIf_load_mid (by rfl) 28 _ rfl gC 0 rfl (wcells (sumC d n) 8) _ (fun w' h => h.1) hu rfl hi8) hS ?_
      simp only [Act.put]
      refine wpAnyH_ready (rs := [1]) (by kernel_rfl) (by simp) ?_
      refine AllReadyH.cons rfl (fun K hK => ?_) AllReadyH.nil
      go_simp
      refine (sum_any d HD.out A n cap HNC.out HCM.out _ (HT.out.below hB.drew) ((HR.out.below hB.drew).more hB.size) HA.out).mono ?_
      rintro e w7 ⟨rfl, hb7⟩
      refine hK.out _ _ (SC.below (w := wr.drew) hS hb7) (fun hH7 => ?_)
      clear hK K
      refine wpAnyH_ready (rs := [3]) (by kernel_rfl) (by simp) ?_
      refine AllReadyH.cons rfl (fun K hK => ?_) AllReadyH.nil
      go_simp
      refine (digest_any (sumC d n) _).mono ?_
      rintro e w8 ⟨rfl, hb8⟩
      refine hK.out _ _ (SC.below hH7 hb8) (fun hH8 => ?_)
      clear hK K
      refine wpAnyH_ready (rs := [4]) (by kernel_rfl) (by simp) ?_
      refine AllReadyH.cons rfl (fun K hK => ?_) AllReadyH.nil
      go_simp
      refine hK.out _ _ hH8 (fun _ => ?_)
      clear hK K
      refine wpAnyH_ready (rs := [5]) (by kernel_rfl) (by simp) ?_
      refine AllReadyH.cons rfl (fun K hK => ?_) AllReadyH.nil
      go_simp
      refine hK.out _ _ hH8 (fun _ => ?_)
      clear hK K
      have hB8 := below_step (below_step hB.drew hb7 hB.size) hb8 (by have := hb7.size; have := hB.size; show w.heap.size ≤ w7.heap.size; exact Nat.le_trans hB.size hb7.size)
      refine wpAnyH_ready (rs := [6]) (by kernel_rfl) (by simp) ?_
      refine AllReadyH.cons rfl (fun K hK => ?_) AllReadyH.nil
      go_simp
      refine (works_any _ (HT.out.below hB8)).mono ?_
      rintro e w9 ⟨rfl, hb9⟩
      refine hK.out _ _ (SC.below hH8 hb9) (fun hH9 => ?_)
      clear hK K
      refine wpAnyH_ready (rs := [7]) (by kernel_rfl) (by simp) ?_
      refine AllReadyH.cons rfl (fun K hK => ?_) AllReadyH.nil
      go_simp
      refine hK.out _ _ hH9 (fun _ => ?_)
      clear hK K
      refine wpAnyH_ready (rs := [8]) (by kernel_rfl) (by simp) ?_
      refine AllReadyH.cons rfl (fun K hK => ?_) AllReadyH.nil
      go_simp
      refine hK.out _ _ hH9 (fun _ => ?_)
      clear hK K
      refine wpAnyH_done (by kernel_rfl) ?_ _
      go_wp2_with fail
      go_ret
      exact ⟨rfl, below_step hB8 hb9 hB8.size⟩
theorem shaChains_walk (d : Nat → Nat) (A : Option Addr) (n cap : Nat) (w : World) (ht : Tabs w) (hd : ∀ i, d i < 256) (hnc : n ≤ cap) (hcm : cap ≤ maxLen) (hr : Holds w w.heap.size A n d) (hA : A = none → cap = 0) :
    Calls Tryd.prog 7 #[.slice A n cap] w fun e w' => e = .returned (.bool true) ∧ Below w.heap.size w w' := by
  by_cases h5 : 3000 < n
  · exact shaChains_long A n cap w ht h5
  · exact shaChains_short d hd A n cap w ht hnc hcm hr hA h5
end Go.Proofs.YtnenjljcopbdeaaDoor
