/- The walk of the law RangesApart: its loop. -/
import Derived.Test.YtjckcdemkpmheaaDoorRngAi
import Derived.Deep.DeepCutAuto
namespace Go.Proofs.YtjckcdemkpmheaaDoor
open Go.RowKit Go.BigFrame
open Ver (cmpV BL)

def tab6 : List Nat := [3, 6, 1, 2, 5, 4]
/-- What is kept from a world on, and what a range reads as. -/
def Carries (w w' : World) : Prop := ∀ v r, RngAt w v r → RngAt w' v r
def OneP (W1 : World) (o : Nat) (s : ByteArray) (w : World) (e : Ending) (w' : World) : Prop := ∃ u, e = .returned u ∧ RngAt w' u [[(o, s)]] ∧ KeepW W1 W1.heap.size w' ∧ Carries w w'
theorem one_p (W1 : World) (o : Nat) (s : ByteArray) (w : World) (h : KeepW W1 W1.heap.size w) : Calls Tryd.prog 21 #[.int .u8 (o : Int), .string s] w (OneP W1 o s w) :=
  (one_any o s w).mono fun _ _ ⟨u, he, hr, hb⟩ => ⟨u, he, hr, h.step hb, fun _ _ h => h.below hb⟩
def AllowP (W1 : World) (b : Bool) (w : World) (e : Ending) (w' : World) : Prop := e = .returned (.bool b) ∧ KeepW W1 W1.heap.size w' ∧ Carries w w'
theorem allow_p (W1 : World) (b : Bool) (r : List (List Bd)) (v : Value) (s : ByteArray) (w : World) (hk : KeepW W1 W1.heap.size w) (h : RngAt w v r) (hsz : Short r) (hs : s.size ≤ 1000000) (he : allowR r s = b) :
    Calls Tryd.prog 16 #[v, .string s] w (AllowP W1 b w) :=
  (allow_is b r v s w h hsz hs he).mono fun _ _ ⟨he, hb⟩ => ⟨he, hk.step hb, fun _ _ h => h.below hb⟩
def AllowQ (W1 : World) (b : Bool) (w : World) (e : Ending) (w' : World) : Prop := e = .returned (.bool b) ∧ KeepW W1 W1.heap.size w' ∧ Below w.heap.size w w'
theorem heap_new' {w : World} {o : Obj} {g : Nat} (h : g = w.heap.size) : (w.alloc o).heap[g]? = some o := by subst h; exact heap_alloc_new w o
theorem heap_drew {w : World} {v : Obj} {g : Nat} (h : w.heap[g]? = some v) : w.drew.heap[g]? = some v := h
theorem alloc_heap (w : World) (o : Obj) : (w.alloc o).heap = w.heap.push o := rfl
theorem ne2 (n : Nat) : (n = n + 1 + 1) = False := by simp; omega
theorem ne3 (n : Nat) : (n = n + 1 + 1 + 1) = False := by simp; omega
theorem drew_heap (w : World) : w.drew.heap = w.heap := rfl
theorem heap_old' {w : World} {o v : Obj} {g : Nat} (h : w.heap[g]? = some v) : (w.alloc o).heap[g]? = some v := (((Below.refl w.heap.size w).alloc (Nat.le_refl _) o).block g (block_lt h)).trans h
theorem heap_below {w w' : World} {v : Obj} {g : Nat} (hb : Below w.heap.size w w') (h : w.heap[g]? = some v) : w'.heap[g]? = some v := (hb.block g (block_lt h)).trans h
theorem short_one (o : Nat) (s : ByteArray) (h : s.size ≤ 1000000) : Short [[(o, s)]] := by
  intro row hr b hb
  simp at hr; subst hr
  simp at hb; subst hb
  exact h
theorem dec_ge (c : Int) : decide (c ≥ 0) = !decide (c < 0) := by by_cases h : c < 0 <;> simp [h] <;> omega
theorem dec_le (c : Int) : decide (c ≤ 0) = !decide (c > 0) := by by_cases h : c > 0 <;> simp [h] <;> omega
/-- What near allows is not below. -/
theorem near_ge (o s : ByteArray) (ho : okS o = true) (hs : okS s = true) (h : allowR [[(7, s)]] o = true) : allowR [[(6, s)]] o = true := by
  rw [allow_one _ o (may_op 7 s (by decide) (by decide) hs) ho] at h
  rw [allow_one _ o (may_op 6 s (by decide) (by decide) hs) ho]
  have h' : nearV (verOf s) (verOf o) = true := h
  unfold nearV at h'
  simp only [Bool.and_eq_true] at h'
  exact h'.2
theorem bnd_mod (o : Nat) (s : ByteArray) (w : World) : Calls Tryd.prog 22 #[.int .u8 ((o : Int) % 8), .string s] w fun e w' => e = .returned (.agg #[.int .u8 ((bndOf (o % 8) s).1 : Int), .string (bndOf (o % 8) s).2]) ∧ Below w.heap.size w w' := by
  have h := bnd_any (o % 8) s w
  rw [show (((o % 8 : Nat)) : Int) = (o : Int) % 8 by omega] at h
  rw [show ((bndOf (o % 8) s).1 : Int) = (o : Int) % 8 by unfold bndOf; omega]
  exact h
set_option maxRecDepth 100000 in
set_option maxHeartbeats 4000000 in
theorem rangesApart_walk (v x y : ByteArray) (op up : Int) (w : World) (_ : True) (hv : v.size ≤ maxLen) (hx : x.size ≤ maxLen) (hy : y.size ≤ maxLen) (hop : (Lit.int .u8 op).wf = true) (hup : (Lit.int .u8 up).wf = true) :
    Calls Tryd.prog 7 #[.string v, .string x, .string y, .int .u8 op, .int .u8 up] w fun e w' => e = .returned (.bool true) ∧ Below w.heap.size w w' := by
  unfold maxLen at hv hx hy
  obtain ⟨o1, ho1, rfl⟩ : ∃ c : Nat, c < 256 ∧ op = (c : Int) := by
    have hb : 0 ≤ op ∧ op ≤ 255 := by simpa [Lit.wf, IntKind.min, IntKind.max, IntKind.signed, IntKind.bits] using hop
    exact ⟨op.toNat, by omega, by omega⟩
  obtain ⟨o2, ho2, rfl⟩ : ∃ c : Nat, c < 256 ∧ up = (c : Int) := by
    have hb : 0 ≤ up ∧ up ≤ 255 := by simpa [Lit.wf, IntKind.min, IntKind.max, IntKind.signed, IntKind.bits] using hup
    exact ⟨up.toNat, by omega, by omega⟩
  clear hop hup
  by_cases hall : v.size ≤ 60 ∧ x.size ≤ 60 ∧ y.size ≤ 60
  · obtain ⟨hv6, hx6, hy6⟩ := hall
    cases h1 : okST v x
    · have HT1 := Lib.hid (fun w => texts_any v x w (by omega) (by omega))
      have HT2 := Lib.hid (fun w => texts_any v y w (by omega) (by omega))
      rw [h1] at HT1
      obtain ⟨c1, hc1⟩ : ∃ c, c = cmpS v x := ⟨_, rfl⟩
      obtain ⟨c2, hc2⟩ : ∃ c, c = cmpS v y := ⟨_, rfl⟩
      obtain ⟨k2, hk2⟩ : ∃ k, k = okST v y := ⟨_, rfl⟩
      rw [← hc1] at HT1
      rw [← hc2, ← hk2] at HT2
      clear h1 hc1 hc2 hk2
      go_enter Tryd.func7, Tryd.ntmps7
      go_wp2_with fail
      refine (HT1.out _).mono ?_
      rintro e w1 ⟨rfl, hb1⟩
      go_wp2_with fail
      refine (HT2.out _).mono ?_
      rintro e w2 ⟨rfl, hb2⟩
      replace hb1 := below_step hb1 hb2 hb1.size
      clear hb2
      go_wp2_with fail
      refine (works_any _).mono ?_
      rintro e w3 ⟨rfl, hb3⟩
      go_wp2
      go_ret
      exact ⟨rfl, below_step hb1 hb3 hb1.size⟩
    · cases h2 : okST v y
      · have HT1 := Lib.hid (fun w => texts_any v x w (by omega) (by omega))
        have HT2 := Lib.hid (fun w => texts_any v y w (by omega) (by omega))
        rw [h1] at HT1
        rw [h2] at HT2
        obtain ⟨c1, hc1⟩ : ∃ c, c = cmpS v x := ⟨_, rfl⟩
        obtain ⟨c2, hc2⟩ : ∃ c, c = cmpS v y := ⟨_, rfl⟩
        rw [← hc1] at HT1
        rw [← hc2] at HT2
        clear h1 h2 hc1 hc2
        go_enter Tryd.func7, Tryd.ntmps7
        go_wp2_with fail
        refine (HT1.out _).mono ?_
        rintro e w1 ⟨rfl, hb1⟩
        go_wp2_with fail
        refine (HT2.out _).mono ?_
        rintro e w2 ⟨rfl, hb2⟩
        replace hb1 := below_step hb1 hb2 hb1.size
        clear hb2
        go_wp2_with fail
        refine (works_any _).mono ?_
        rintro e w3 ⟨rfl, hb3⟩
        go_wp2
        go_ret
        exact ⟨rfl, below_step hb1 hb3 hb1.size⟩
      · have HT1 := Lib.hid (fun w => texts_any v x w (by omega) (by omega))
        have HT2 := Lib.hid (fun w => texts_any v y w (by omega) (by omega))
        rw [h1] at HT1
        rw [h2] at HT2
        obtain ⟨c1, hc1⟩ : ∃ c, c = cmpS v x := ⟨_, rfl⟩
        obtain ⟨c2, hc2⟩ : ∃ c, c = cmpS v y := ⟨_, rfl⟩
        rw [← hc1] at HT1
        rw [← hc2] at HT2
        have hoks : okS v = true ∧ okS x = true ∧ okS y = true := by
          unfold okST at h1 h2
          simp only [Bool.and_eq_true] at h1 h2
          exact ⟨h1.1, h1.2, h2.2⟩
        obtain ⟨hov, hox, hoy⟩ := hoks
        have HOV := Lib.hid hov
        have HOX := Lib.hid hox
        have HOY := Lib.hid hoy
        clear h1 h2 hc1 hc2 hov hox hoy
        go_enter Tryd.func7, Tryd.ntmps7
        go_wp2_with fail
        refine (HT1.out _).mono ?_
        rintro e w1 ⟨rfl, hb1⟩
        go_wp2_with fail
        refine (HT2.out _).mono ?_
        rintro e w2 ⟨rfl, hb2⟩
        replace hb1 := below_step hb1 hb2 hb1.size
        clear hb2
        go_upto_region 8 with (fail)
        obtain ⟨W1, hW1, hg1, hq1, hz1, hB1⟩ := row_at w w2 (.cells #[.int .u8 3, .int .u8 6, .int .u8 1, .int .u8 2, .int .u8 5, .int .u8 4] 5) hb1
        rw [← hW1]
        have HG1 := Lib.hid hg1
        have HB1 := Lib.hid hB1
        clear hW1 hg1 hq1 hz1 hB1 hb1
        have hcell : ∀ (k : Nat) (wk : World), k < 6 → Below W1.heap.size W1 wk → wk.cell? ⟨w2.heap.size, k, none⟩ = some (.int .u8 ((tab6.getD k 0 : Nat) : Int)) := fun k wk hk hb => by
          refine (hb.cell (p := ⟨w2.heap.size, k, none⟩) (block_lt HG1.out)).trans ?_
          rw [cell_of_row _ _ _ _ _ _ HG1.out]
          have : k = 0 ∨ k = 1 ∨ k = 2 ∨ k = 3 ∨ k = 4 ∨ k = 5 := by omega
          rcases this with rfl | rfl | rfl | rfl | rfl | rfl <;> rfl
        have HCELL := Lib.hid hcell
        clear hcell
        go_wp2
        go_loopw [16] (fun i wr => ∃ (k : Nat), k ≤ 3 ∧ i = .int .i64 ((2 * k : Nat) : Int) ∧ Hid (Below W1.heap.size W1 wr)) (fun i _ => 6 - (intOf i).toNat)
        case atStart => exact ⟨0, by omega, rfl, Lib.hid (Below.refl _ _)⟩
        case round =>
          obtain ⟨k, hk, rfl, HB⟩ := hrel
          by_cases hlt : k < 3
          · have hltI : ((2 * k : Nat) : Int) < 6 := by omega
            have hca := HCELL.out (2 * k) wr (by omega) HB.out
            have hcb := HCELL.out (2 * k + 1) wr (by omega) HB.out
            obtain ⟨i, hi⟩ : ∃ i, i = 2 * k := ⟨_, rfl⟩
            rw [← hi] at hca hcb hltI ⊢
            have hi6 : i < 6 := by omega
            obtain ⟨pa, hpa⟩ : ∃ pa, pa = tab6.getD i 0 := ⟨_, rfl⟩
            obtain ⟨pb, hpb⟩ : ∃ pb, pb = tab6.getD (i + 1) 0 := ⟨_, rfl⟩
            rw [← hpa] at hca
            rw [← hpb] at hcb
            have hpair : ∃ A : Bool, allowR [[(pa, x)]] v = A ∧ allowR [[(pb, x)]] v = !A := by
              have hk3 : k = 0 ∨ k = 1 ∨ k = 2 := by omega
              rcases hk3 with rfl | rfl | rfl
              · subst hi; subst hpa; subst hpb
                refine ⟨_, rfl, ?_⟩
                rw [show tab6.getD (2 * 0) 0 = 3 from rfl, show tab6.getD (2 * 0 + 1) 0 = 6 from rfl, allow_one _ v (may_op 3 x (by decide) (by decide) HOX.out) HOV.out, allow_one _ v (may_op 6 x (by decide) (by decide) HOX.out) HOV.out]
                exact dec_ge _
              · subst hi; subst hpa; subst hpb
                refine ⟨_, rfl, ?_⟩
                rw [show tab6.getD (2 * 1) 0 = 1 from rfl, show tab6.getD (2 * 1 + 1) 0 = 2 from rfl, allow_one _ v (may_op 1 x (by decide) (by decide) HOX.out) HOV.out, allow_one _ v (may_op 2 x (by decide) (by decide) HOX.out) HOV.out]
                unfold opV
                rfl
              · subst hi; subst hpa; subst hpb
                refine ⟨_, rfl, ?_⟩
                rw [show tab6.getD (2 * 2) 0 = 5 from rfl, show tab6.getD (2 * 2 + 1) 0 = 4 from rfl, allow_one _ v (may_op 5 x (by decide) (by decide) HOX.out) HOV.out, allow_one _ v (may_op 4 x (by decide) (by decide) HOX.out) HOV.out]
                exact dec_le _
            obtain ⟨bl, hA1, hA2⟩ := hpair
            have HA1 := Lib.hid hA1
            have HA2 := Lib.hid hA2
            have HI := Lib.hid hi
            clear hpa hpb hA1 hA2 hi
            have hq1 : (((i + 1 : Nat)) : Int) = (i : Int) + 1 := by omega
            have hwa : IntKind.i64.wrap ((i : Int) + 1) = (i : Int) + 1 := IntWalk.i64_in _ (by omega)
            have hn1 : ((i : Int) + 1).toNat = i + 1 := by omega
            have hn2 : (0 : Int) ≤ (i : Int) + 1 := by omega
            have hn3 : (i : Int) + 1 < 6 := by have := HI.out; omega
            have hn4 : (0 : Int) ≤ (i : Int) := by omega
            have hlw := block_lt HG1.out
            have hlr : w2.heap.size < wr.heap.size := Nat.lt_of_lt_of_le hlw HB.out.size
            have hkk : ∀ w', KeepW wr wr.heap.size w' → (w'.cell? ⟨w2.heap.size, i, none⟩ = some (.int .u8 (pa : Int)) ∧ w'.cell? ⟨w2.heap.size, i + 1, none⟩ = some (.int .u8 (pb : Int))) ∧ KeepW wr wr.heap.size w' := fun w' h => ⟨⟨(h.1.cell (p := ⟨w2.heap.size, i, none⟩) hlr).trans hca, (h.1.cell (p := ⟨w2.heap.size, i + 1, none⟩) hlr).trans hcb⟩, h⟩
            have HKK := Lib.hid hkk
            have hO1 : ∀ w', KeepW wr wr.heap.size w' → Calls Tryd.prog 21 #[.int .u8 (pa : Int), .string x] w' (OneP wr pa x w') := fun w' h => one_p wr pa x w' h
            have hO2 : ∀ w', KeepW wr wr.heap.size w' → Calls Tryd.prog 21 #[.int .u8 (pb : Int), .string x] w' (OneP wr pb x w') := fun w' h => one_p wr pb x w' h
            have hL1 : ∀ u w', KeepW wr wr.heap.size w' → RngAt w' u [[(pa, x)]] → Calls Tryd.prog 16 #[u, .string v] w' (AllowP wr bl w') := fun u w' h hr => allow_p wr bl _ u v w' h hr (short_one _ _ (by omega)) (by omega) HA1.out
            have hL2 : ∀ u w', KeepW wr wr.heap.size w' → RngAt w' u [[(pb, x)]] → Calls Tryd.prog 16 #[u, .string v] w' (AllowP wr (!bl) w') := fun u w' h hr => allow_p wr (!bl) _ u v w' h hr (short_one _ _ (by omega)) (by omega) HA2.out
            have HO1 := Lib.hid hO1
            have HO2 := Lib.hid hO2
            have HL1 := Lib.hid hL1
            have HL2 := Lib.hid hL2
            have hk0' : KeepW wr wr.heap.size wr := KeepW.start (Nat.le_refl _)
            have eb : (bl == !bl) = false := by cases bl <;> rfl
            clear hkk hO1 hO2 hL1 hL2 hlw hlr hq1
            go_upto_region 11 with (fail)
            go_region_held3 (fun w' => (w'.cell? ⟨w2.heap.size, i, none⟩ = some (.int .u8 (pa : Int)) ∧ w'.cell? ⟨w2.heap.size, i + 1, none⟩ = some (.int .u8 (pb : Int))) ∧ KeepW wr wr.heap.size w') (first | exact HKK.out _ (by assumption) | exact HKK.out _ (KeepW.drew (by assumption)) | go_keep) (first
              | (go_at_call 21; refine (HO1.out _ (by first | assumption | exact KeepW.drew (by assumption))).mono ?_; rintro e w4 ⟨u1, rfl, hr1, hk4, ht4⟩)
              | (go_at_call 21; refine (HO2.out _ (by first | assumption | exact KeepW.drew (by assumption))).mono ?_; rintro e w5 ⟨u2, rfl, hr2, hk5, ht5⟩)
              | (go_at_call 16; refine (HL1.out _ _ (by first | assumption | exact KeepW.drew (by assumption)) (by first | assumption | exact (by assumption : Carries _ _) _ _ (by assumption) | exact (by assumption : Carries _ _) _ _ ((by assumption : Carries _ _) _ _ (by assumption)))).mono ?_; rintro e w6 ⟨rfl, hk6, ht6⟩)
              | (go_at_call 16; refine (HL2.out _ _ (by first | assumption | exact KeepW.drew (by assumption)) (by first | assumption | exact (by assumption : Carries _ _) _ _ (by assumption) | exact (by assumption : Carries _ _) _ _ ((by assumption : Carries _ _) _ _ (by assumption)))).mono ?_; rintro e w7 ⟨rfl, hk7, ht7⟩))
            all_goals
              have HB6 := Lib.hid (below_step HB.out hk6.1 HB.out.size)
              have HB7 := Lib.hid (below_step HB.out hk7.1 HB.out.size)
              have hw2 : IntKind.i64.wrap ((i : Int) + 2) = (i : Int) + 2 := IntWalk.i64_in _ (by omega)
              clear hwa hn1
              go_wp2_with fail
              go_roundw
              case rel => first | exact ⟨k + 1, by omega, by rw [show ((2 * (k + 1) : Nat) : Int) = (i : Int) + 2 by have := HI.out; omega], HB7⟩ | exact ⟨k + 1, by omega, by rw [show ((2 * (k + 1) : Nat) : Int) = (i : Int) + 2 by have := HI.out; omega], HB6⟩
              case measure => simp [intOf]; omega
          · have hltI : ¬ ((2 * k : Nat) : Int) < 6 := by omega
            obtain ⟨A7, hA7⟩ : ∃ A, allowR [[(7, x)]] v = A := ⟨_, rfl⟩
            have HA7 := Lib.hid hA7
            have HA6 := Lib.hid (fun h : A7 = true => near_ge v x HOV.out HOX.out (hA7.trans h))
            have HS := Lib.hid (fun o => short_one o x (by omega))
            clear hA7
            go_upto_region 13 with (fail)
            go_cut [87] (fun s wx => s = .bool false ∧ Hid (Below W1.heap.size W1 wx))
            case first =>
              go_wp2_with fail
              refine (one_any 7 x _).mono ?_
              rintro e w3 ⟨u3, rfl, hr3, hb3⟩
              have HB3 := Lib.hid (below_step HB.out hb3 HB.out.size)
              clear hb3
              go_wp2_with fail
              refine (allow_is A7 _ u3 v _ hr3 (HS.out 7) (by omega) HA7.out).mono ?_
              rintro e w4 ⟨rfl, hb4⟩
              have HB4 := Lib.hid (below_step HB3.out hb4 HB3.out.size)
              clear hb4 hr3
              cases A7
              · go_wp2_with fail
                go_meet
                exact ⟨rfl, HB4⟩
              · go_wp2_with fail
                refine (one_any 6 x _).mono ?_
                rintro e w5 ⟨u5, rfl, hr5, hb5⟩
                have HB5 := Lib.hid (below_step HB4.out hb5 HB4.out.size)
                clear hb5
                go_wp2_with fail
                refine (allow_is true _ u5 v _ hr5 (HS.out 6) (by omega) (HA6.out (by trivial))).mono ?_
                rintro e w6 ⟨rfl, hb6⟩
                have HB6 := Lib.hid (below_step HB5.out hb6 HB5.out.size)
                clear hb6 hr5
                go_wp2_with fail
                go_meet
                exact ⟨rfl, HB6⟩
            case rest =>
              obtain ⟨rfl, HB6⟩ := hcut
              have HBA := Lib.hid (show mayB (bndOf (o1 % 8) x) = true from may_bnd _ x (by omega) HOX.out)
              have HBB := Lib.hid (show mayB (bndOf (o2 % 8) y) = true from may_bnd _ y (by omega) HOY.out)
              have HZA := Lib.hid (show (bndOf (o1 % 8) x).2.size ≤ 1000000 by unfold bndOf; dsimp only; split <;> first | decide | omega)
              have HZB := Lib.hid (show (bndOf (o2 % 8) y).2.size ≤ 1000000 by unfold bndOf; dsimp only; split <;> first | decide | omega)
              have HNA := Lib.hid (fun w => bnd_mod o1 x w)
              have HNB := Lib.hid (fun w => bnd_mod o2 y w)
              obtain ⟨⟨oa, sa⟩, ha⟩ : ∃ b : Bd, b = bndOf (o1 % 8) x := ⟨_, rfl⟩
              obtain ⟨⟨ob, sb⟩, hb⟩ : ∃ b : Bd, b = bndOf (o2 % 8) y := ⟨_, rfl⟩
              rw [← ha] at HBA HZA HNA
              rw [← hb] at HBB HZB HNB
              clear ha hb
              go_wp2_with fail
              refine (HNA.out _).mono ?_
              rintro e w7 ⟨rfl, hb7⟩
              have HB7 := Lib.hid (below_step HB6.out hb7 HB6.out.size)
              clear hb7
              go_wp2_with fail
              refine (HNB.out _).mono ?_
              rintro e w8 ⟨rfl, hb8⟩
              have HB8 := Lib.hid (below_step HB7.out hb8 HB7.out.size)
              clear hb8
              obtain ⟨pa, hpa⟩ : ∃ p, p = allowR [[(oa, sa)]] v := ⟨_, rfl⟩
              obtain ⟨pb, hpb⟩ : ∃ p, p = allowR [[(ob, sb)]] v := ⟨_, rfl⟩
              have HAND := Lib.hid (show allowR [[(oa, sa), (ob, sb)]] v = (pa && pb) by rw [allow_two _ _ v HBA.out HBB.out HOV.out, hpa, hpb])
              have HOR := Lib.hid (show allowR [[(oa, sa)], [(ob, sb)]] v = (pa || pb) by rw [allow_rows _ _ v HBA.out HBB.out HOV.out, hpa, hpb])
              have HPA := Lib.hid hpa.symm
              have HPB := Lib.hid hpb.symm
              clear hpa hpb
              go_upto_region 16 with (fail)
              obtain ⟨W9, hW9, hg9, hg9', hb9, hz9⟩ := rows2 w8 (.cells #[.int .u8 (oa : Int), .string sa] 45) (.cells #[.int .u8 (ob : Int), .string sb] 45)
              rw [← hW9]
              have hca := cell_two hg9
              have hcb := cell_two hg9'
              obtain ⟨hca0, hca1, _, _⟩ := hca
              obtain ⟨hcb0, hcb1, _, _⟩ := hcb
              have hl1 : w8.heap.size < W9.heap.size := block_lt hg9
              have hl2 : w8.heap.size + 1 < W9.heap.size := block_lt hg9'
              have hkk : ∀ w', KeepW W9 W9.heap.size w' → (w'.cell? ⟨w8.heap.size, 0, none⟩ = some (.int .u8 (oa : Int)) ∧ w'.cell? ⟨w8.heap.size, 1, none⟩ = some (.string sa) ∧ w'.cell? ⟨w8.heap.size + 1, 0, none⟩ = some (.int .u8 (ob : Int)) ∧ w'.cell? ⟨w8.heap.size + 1, 1, none⟩ = some (.string sb)) ∧ KeepW W9 W9.heap.size w' := fun w' h =>
                ⟨⟨(h.1.cell (p := ⟨w8.heap.size, 0, none⟩) hl1).trans hca0, (h.1.cell (p := ⟨w8.heap.size, 1, none⟩) hl1).trans hca1, (h.1.cell (p := ⟨w8.heap.size + 1, 0, none⟩) hl2).trans hcb0, (h.1.cell (p := ⟨w8.heap.size + 1, 1, none⟩) hl2).trans hcb1⟩, h⟩
              have HKK := Lib.hid hkk
              have HB9 := Lib.hid (below_step HB8.out hb9 HB8.out.size)
              have hk0' : KeepW W9 W9.heap.size W9 := KeepW.start (Nat.le_refl _)
              have hLA : ∀ (g2 : Nat) (w' : World), KeepW W9 W9.heap.size w' → (∃ g1, w'.heap[g2]? = some (.cells #[.slice (some ⟨g1, 0, none⟩) 1 1] 31) ∧ w'.heap[g1]? = some (.cells #[.int .u8 (oa : Int), .string sa] 45)) → Calls Tryd.prog 16 #[.slice (some ⟨g2, 0, none⟩) 1 1, .string v] w' (AllowQ W9 pa w') := fun g2 w' h ⟨g1, h2, h1⟩ => (allow_is pa _ _ v w' (rng_one w' g1 g2 oa sa h1 h2) (short_one _ _ HZA.out) (by omega) HPA.out).mono fun _ _ ⟨he, hb⟩ => ⟨he, h.step hb, hb⟩
              have hLB : ∀ (g2 : Nat) (w' : World), KeepW W9 W9.heap.size w' → (∃ g1, w'.heap[g2]? = some (.cells #[.slice (some ⟨g1, 0, none⟩) 1 1] 31) ∧ w'.heap[g1]? = some (.cells #[.int .u8 (ob : Int), .string sb] 45)) → Calls Tryd.prog 16 #[.slice (some ⟨g2, 0, none⟩) 1 1, .string v] w' (AllowQ W9 pb w') := fun g2 w' h ⟨g1, h2, h1⟩ => (allow_is pb _ _ v w' (rng_one w' g1 g2 ob sb h1 h2) (short_one _ _ HZB.out) (by omega) HPB.out).mono fun _ _ ⟨he, hb⟩ => ⟨he, h.step hb, hb⟩
              have HLA := Lib.hid hLA
              have HLB := Lib.hid hLB
              clear hLA hLB
              clear hkk hW9 hg9 hg9' hb9 hz9 hl1 hl2
              go_cut [19, 20] (fun s19 s20 wx => s19 = .bool pa ∧ s20 = .bool pb ∧ Hid (KeepW W9 W9.heap.size wx))
              case first =>
                go_region_held3 (fun w' => (w'.cell? ⟨w8.heap.size, 0, none⟩ = some (.int .u8 (oa : Int)) ∧ w'.cell? ⟨w8.heap.size, 1, none⟩ = some (.string sa) ∧ w'.cell? ⟨w8.heap.size + 1, 0, none⟩ = some (.int .u8 (ob : Int)) ∧ w'.cell? ⟨w8.heap.size + 1, 1, none⟩ = some (.string sb)) ∧ KeepW W9 W9.heap.size w') (first | exact HKK.out _ (by repeat (first | with_reducible assumption | with_reducible refine KeepW.drew ?_ | with_reducible refine KeepW.alloc ?_ _)) | go_keep) (first
                  | (go_at_call 16; refine (HLB.out _ _ ?_ ?_).mono ?_; (focus ((repeat (first | with_reducible assumption | with_reducible refine KeepW.drew ?_ | with_reducible refine KeepW.alloc ?_ _)); done)); (focus (refine ⟨?_, ?_, ?_⟩; rotate_left 1; (focus ((repeat (first | (with_reducible refine heap_new' ?_; all_goals simp; done) | with_reducible refine heap_drew ?_ | with_reducible refine heap_old' ?_ | (with_reducible refine @heap_below ?_ _ _ _ ?_ ?_; rotate_left 1; (focus with_reducible assumption)))); done)); (focus ((repeat (first | (with_reducible refine heap_new' ?_; all_goals simp; done) | with_reducible refine heap_drew ?_ | with_reducible refine heap_old' ?_ | (with_reducible refine @heap_below ?_ _ _ _ ?_ ?_; rotate_left 1; (focus with_reducible assumption)))); done)))); rintro e w11 ⟨rfl, hk11, hb11⟩)
                  | (go_at_call 16; refine (HLA.out _ _ ?_ ?_).mono ?_; (focus ((repeat (first | with_reducible assumption | with_reducible refine KeepW.drew ?_ | with_reducible refine KeepW.alloc ?_ _)); done)); (focus (refine ⟨?_, ?_, ?_⟩; rotate_left 1; (focus ((repeat (first | (with_reducible refine heap_new' ?_; all_goals simp; done) | with_reducible refine heap_drew ?_ | with_reducible refine heap_old' ?_ | (with_reducible refine @heap_below ?_ _ _ _ ?_ ?_; rotate_left 1; (focus with_reducible assumption)))); done)); (focus ((repeat (first | (with_reducible refine heap_new' ?_; all_goals simp; done) | with_reducible refine heap_drew ?_ | with_reducible refine heap_old' ?_ | (with_reducible refine @heap_below ?_ _ _ _ ?_ ?_; rotate_left 1; (focus with_reducible assumption)))); done)))); rintro e w10 ⟨rfl, hk10, hb10⟩))
                all_goals
                  have HK11 := Lib.hid hk11
                  clear hk10 hk11 hk0' hb10 hb11
                  go_wp2_with fail
                  go_meet
                  exact ⟨rfl, rfl, HK11⟩
              case rest =>
                obtain ⟨rfl, rfl, HK⟩ := hcut
                have HB11 := Lib.hid (below_step HB9.out HK.out.1 HB9.out.size)
                obtain ⟨⟨hca0, hca1, hcb0, hcb1⟩, _⟩ := HKK.out _ HK.out
                have hkx : ∀ w', Below wc.heap.size wc w' → (w'.cell? ⟨w8.heap.size, 0, none⟩ = some (.int .u8 (oa : Int)) ∧ w'.cell? ⟨w8.heap.size, 1, none⟩ = some (.string sa) ∧ w'.cell? ⟨w8.heap.size + 1, 0, none⟩ = some (.int .u8 (ob : Int)) ∧ w'.cell? ⟨w8.heap.size + 1, 1, none⟩ = some (.string sb)) := fun w' hb => (HKK.out _ (HK.out.step hb)).1
                have HKX := Lib.hid hkx
                have HSH := Lib.hid (show Short [[(oa, sa), (ob, sb)]] ∧ Short [[(oa, sa)], [(ob, sb)]] from ⟨fun row hr b hb => by
                  simp at hr; subst hr; simp at hb
                  rcases hb with rfl | rfl
                  · exact HZA.out
                  · exact HZB.out, fun row hr b hb => by
                  simp at hr
                  rcases hr with rfl | rfl <;> simp at hb <;> subst hb
                  · exact HZA.out
                  · exact HZB.out⟩)
                clear hkx
                have HW1 := Lib.hid (((Below.refl wc.heap.size wc).alloc (Nat.le_refl _) (.cells #[.int .u8 (oa : Int), .string sa, .int .u8 (ob : Int), .string sb] 45)).alloc (by simp) (.cells #[.slice (some ⟨wc.heap.size, 0, none⟩) 2 2] 31))
                cases pa <;> cases pb
                all_goals
                  go_wp2_with fail
                  refine (allow_is _ [[(oa, sa), (ob, sb)]] _ v _ (rng_two _ _ _ (oa, sa) (ob, sb) (two_new wc _ _).1 (two_new wc _ _).2) HSH.out.1 (by omega) HAND.out).mono ?_
                  rintro e w12 ⟨rfl, hb12⟩
                  have hb113 := below_step HW1.out hb12 HW1.out.size
                  have HB12 := Lib.hid (below_step HB11.out hb113 HB11.out.size)
                  obtain ⟨hca0, hca1, hcb0, hcb1⟩ := HKX.out _ hb113
                  have HW2 := Lib.hid ((((Below.refl w12.heap.size w12).alloc (Nat.le_refl _) (.cells #[.int .u8 (oa : Int), .string sa] 45)).alloc (by simp) (.cells #[.int .u8 (ob : Int), .string sb] 45)).alloc (by simp; omega) (.cells #[.slice (some ⟨w12.heap.size, 0, none⟩) 1 1, .slice (some ⟨w12.heap.size + 1, 0, none⟩) 1 1] 31))
                  obtain ⟨_, _, hdb0, hdb1⟩ := HKX.out _ (hb113.alloc hb113.size (.cells #[.int .u8 (oa : Int), .string sa] 45))
                  clear hb12 hb113
                  go_wp2_with fail
                  refine (allow_is _ [[(oa, sa)], [(ob, sb)]] _ v _ (rng_rows _ _ _ _ (oa, sa) (ob, sb) (three_new w12 _ _ _).1 (three_new w12 _ _ _).2.1 (three_new w12 _ _ _).2.2) HSH.out.2 (by omega) HOR.out).mono ?_
                  rintro e w13 ⟨rfl, hb13⟩
                  have hb14 := below_step HW2.out hb13 HW2.out.size
                  have HB13 := Lib.hid (below_step HB12.out hb14 HB12.out.size)
                  clear hb13 hb14 hca0 hca1 hcb0 hcb1 hdb0 hdb1
                  go_wp2_with fail
                  refine (works_any _).mono ?_
                  rintro e w15 ⟨rfl, hb15⟩
                  go_wp2
                  go_ret
                  exact ⟨rfl, HB1.out.trans ((below_step HB13.out hb15 HB13.out.size).mono HB1.out.size)⟩
  · have HH : 60 < v.size ∨ (v.size ≤ 60 ∧ 60 < x.size) ∨ (v.size ≤ 60 ∧ x.size ≤ 60 ∧ 60 < y.size) := by omega
    clear hall
    rcases HH with h1 | ⟨h1, h2⟩ | ⟨h1, h2, h3⟩
    all_goals
      go_enter Tryd.func7, Tryd.ntmps7
      go_wp2_with fail
      refine (works_any _).mono ?_
      rintro e w3 ⟨rfl, hb3⟩
      go_wp2
      go_ret
      exact ⟨rfl, hb3⟩
end Go.Proofs.YtjckcdemkpmheaaDoor
