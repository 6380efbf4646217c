/- Contract of the reference's Compare. -/
import Derived.Test.YtcnedecmmplmoaaGreatDoorCm06
set_option linter.unusedVariables false
set_option linter.unusedSimpArgs false
namespace Go.Proofs.YtcnedecmmplmoaaGreatDoor
open Go.RowKit Go.BigFrame
open Ver (cmpI cmpL bytesI cmpT cmpV BL)

theorem less_cmp : ∀ l m : BL, Op.bytesLess l m = decide (cmpL (bytesI l) (bytesI m) = -1)
  | [], [] => rfl
  | [], y :: m => rfl
  | x :: l, [] => rfl
  | x :: l, y :: m => by
    have ih := less_cmp l m
    have e : cmpL (bytesI (x :: l)) (bytesI (y :: m)) = if cmpI (x.toNat : Int) (y.toNat : Int) ≠ 0 then cmpI (x.toNat : Int) (y.toNat : Int) else cmpL (bytesI l) (bytesI m) := rfl
    rw [e]
    unfold Op.bytesLess
    rw [ih]
    simp only [UInt8.lt_iff_toNat_lt]
    rcases Nat.lt_trichotomy x.toNat y.toNat with h | h | h
    · have : cmpI (x.toNat : Int) (y.toNat : Int) = -1 := by unfold cmpI; rw [if_pos (by omega)]
      simp [this, h]
    · have hxy : x = y := UInt8.toNat_inj.1 h
      have : cmpI (x.toNat : Int) (y.toNat : Int) = 0 := by unfold cmpI; rw [if_neg (by omega), if_neg (by omega)]
      subst hxy
      simp [this]
    · have : cmpI (x.toNat : Int) (y.toNat : Int) = 1 := by unfold cmpI; rw [if_neg (by omega), if_pos (by omega)]
      have hne : x ≠ y := fun e => by rw [e] at h; omega
      simp [this, h, hne, Nat.lt_asymm h]
/-- How tags compare, by what the reference asks. -/
theorem tag_cases (s t : ByteArray) : ((s.toList == t.toList) = true ∧ cmpT s.data.toList t.data.toList = 0) ∨
    ((s.toList == t.toList) = false ∧ ((s.toList.isEmpty = true ∧ cmpT s.data.toList t.data.toList = 1) ∨
      (s.toList.isEmpty = false ∧ ((t.toList = [] ∧ cmpT s.data.toList t.data.toList = -1) ∨
        (t.toList.isEmpty = false ∧ ((Op.bytesLess s.toList t.toList = true ∧ cmpT s.data.toList t.data.toList = -1) ∨ (Op.bytesLess s.toList t.toList = false ∧ cmpT s.data.toList t.data.toList = 1)))))) ) := by
  rw [Lib.toList_data s, Lib.toList_data t]
  generalize s.data.toList = l
  generalize t.data.toList = m
  by_cases h : l = m
  · subst h
    exact .inl ⟨by simp, (Ver.cmpT_ord.zero _ _).2 rfl⟩
  · refine .inr ⟨by simpa using h, ?_⟩
    cases l with
    | nil =>
      cases m with
      | nil => exact absurd rfl h
      | cons y m => exact .inl ⟨rfl, by unfold cmpT; rw [if_pos (.inl rfl)]; unfold cmpI; simp; try omega⟩
    | cons x l =>
      refine .inr ⟨rfl, ?_⟩
      cases m with
      | nil => exact .inl ⟨rfl, by unfold cmpT; rw [if_pos (.inr rfl)]; unfold cmpI; simp; try omega⟩
      | cons y m =>
        refine .inr ⟨rfl, ?_⟩
        have e : cmpT (x :: l) (y :: m) = cmpL (bytesI (x :: l)) (bytesI (y :: m)) := by unfold cmpT; rw [if_neg (by simp)]
        rw [less_cmp, e]
        have hr := Ver.cmpL_range (bytesI (x :: l)) (bytesI (y :: m))
        have hz : cmpL (bytesI (x :: l)) (bytesI (y :: m)) ≠ 0 := fun hz => h (Ver.bytesI_inj _ _ ((Ver.cmpL_zero _ _).1 hz))
        by_cases hm : cmpL (bytesI (x :: l)) (bytesI (y :: m)) = -1
        · exact .inl ⟨by simpa using hm, hm⟩
        · exact .inr ⟨by simpa using hm, by omega⟩
set_option maxRecDepth 100000 in
set_option maxHeartbeats 1000000 in
theorem refCompare_any (a b : Value) (xs ys : List Int) (s t : ByteArray) (B : Nat) (w : World) (ha : Reads w B a (ints xs)) (hb : Reads w B b (ints ys)) (hB : B ≤ w.heap.size) (hs : s.size ≤ 1000000) (ht : t.size ≤ 1000000) :
    Calls Tryz.prog 112 #[.agg #[a, .string s], .agg #[b, .string t]] w fun e w' => e = .returned (.int .i64 (cmpV (xs, s.data.toList) (ys, t.data.toList))) ∧ Below w.heap.size w w' := by
  obtain ⟨A, ca, rfl, hla, hma, hza, hra⟩ := ha
  obtain ⟨A', cb, rfl, hlb, hmb, hzb, hrb⟩ := hb
  simp only [ints_len] at *
  have HRA := Lib.hid hra
  have HRB := Lib.hid hrb
  unfold maxLen at *
  clear hra hrb hza hzb
  go_enter Tryz.func112, Tryz.ntmps112
  go_upto_region 1 with (fail)
  obtain ⟨W1, hW1, hg0, hg1, hb1, hz1⟩ := rows2 w (.cells #[.slice A xs.length ca, .string s] 110) (.cells #[.slice A' ys.length cb, .string t] 110)
  rw [← hW1]
  clear hW1
  have HG0 := Lib.hid hg0
  have HG1 := Lib.hid hg1
  clear hg0 hg1
  go_wp2
  go_loopw [5] (fun i wr => ∃ (k nq : Nat), k ≤ xs.length ∧ k ≤ ys.length ∧ i = .int .i64 k ∧ Hid (wr = W1.drewN nq) ∧ Hid (∀ j, j < k → xs.getD j 0 = ys.getD j 0)) (fun i _ => xs.length - (intOf i).toNat)
  case atStart => exact ⟨0, 0, by omega, by omega, rfl, Lib.hid rfl, Lib.hid fun j h => absurd h (Nat.not_lt_zero j)⟩
  case round =>
    obtain ⟨k, nq, hk, hk', rfl, HW, HS⟩ := hrel
    obtain ⟨hc0, hc1, _, _⟩ := cell_two HG0.out
    obtain ⟨hd0, hd1, _, _⟩ := cell_two HG1.out
    have hc0 := (cell_drew HW.out _).trans hc0
    have hc1 := (cell_drew HW.out _).trans hc1
    have hd0 := (cell_drew HW.out _).trans hd0
    have hd1 := (cell_drew HW.out _).trans hd1
    by_cases hlt : k < xs.length ∧ k < ys.length
    · obtain ⟨hltx, hlty⟩ := hlt
      obtain ⟨ad, rfl, hbl, hc⟩ := HRA.out (by omega)
      obtain ⟨ad', rfl, hbl', hc'⟩ := HRB.out (by omega)
      have hcx := (cell_drew HW.out _).trans ((hb1.cell (by rw [add_block]; omega)).trans (hc k _ (ints_get xs k (by omega))))
      have hcy := (cell_drew HW.out _).trans ((hb1.cell (by rw [add_block]; omega)).trans (hc' k _ (ints_get ys k (by omega))))
      clear hc hc' hbl hbl'
      have hi1 : (k : Int) < (xs.length : Int) := by omega
      have hi2 : (k : Int) < (ys.length : Int) := by omega
      have hi0 : (0 : Int) ≤ (k : Int) := by omega
      obtain ⟨x, hx⟩ : ∃ x, x = xs.getD k 0 := ⟨_, rfl⟩
      obtain ⟨y, hy⟩ : ∃ y, y = ys.getD k 0 := ⟨_, rfl⟩
      rw [← hx] at hcx
      rw [← hy] at hcy
      rcases Int.lt_trichotomy x y with hxy | hxy | hxy
      · have HF := Lib.hid (show cmpV (xs, s.data.toList) (ys, t.data.toList) = -1 by
          have : cmpL xs ys = cmpI x y := by rw [hx, hy]; exact Ver.cmpL_at k xs ys (by omega) (by omega) HS.out (by rw [← hx, ← hy]; omega)
          have h2 : cmpI x y = -1 := by unfold cmpI; rw [if_pos hxy]
          rw [cmpV_num _ _ _ _ (by omega)]; omega)
        clear hx hy
        go_wp2
        go_quiet (fail)
        go_wp2
        go_ret
        exact ⟨ret_int HF.out.symm, below_drewN (by rw [HW.out]; exact below_drewN hb1 _) _⟩
      · have HS' : Hid (∀ j, j < k + 1 → xs.getD j 0 = ys.getD j 0) := Lib.hid fun j hj => by
          rcases Nat.lt_or_ge j k with h | h
          · exact HS.out j h
          · obtain rfl : j = k := by omega
            rw [← hx, ← hy]; exact hxy
        have h1 : decide (x < y) = false := by simp; omega
        have h2 : decide (y < x) = false := by simp; omega
        clear hx hy hxy
        go_wp2
        go_quiet (fail)
        go_wp2
        go_quiet (fail)
        go_wp2
        go_roundw
        case rel => exact ⟨k + 1, _, by omega, by omega, by go_num, Lib.hid (by rw [HW.out]; simp only [World.drewN_drewN]; rfl), HS'⟩
        case measure => simp [intOf]; omega
      · have HF := Lib.hid (show cmpV (xs, s.data.toList) (ys, t.data.toList) = 1 by
          have : cmpL xs ys = cmpI x y := by rw [hx, hy]; exact Ver.cmpL_at k xs ys (by omega) (by omega) HS.out (by rw [← hx, ← hy]; omega)
          have h2 : cmpI x y = 1 := by unfold cmpI; rw [if_neg (by omega), if_pos hxy]
          rw [cmpV_num _ _ _ _ (by omega)]; omega)
        have h1 : decide (x < y) = false := by simp; omega
        have h2 : decide (y < x) = true := by simp; omega
        clear hx hy hxy
        go_wp2
        go_quiet (fail)
        go_wp2
        go_quiet (fail)
        go_wp2
        go_ret
        exact ⟨ret_int HF.out.symm, below_drewN (below_drewN (by rw [HW.out]; exact below_drewN hb1 _) _) _⟩
    · have hbf : Below w.heap.size w wr := by rw [HW.out]; exact below_drewN hb1 _
      have hcl : cmpL xs ys = cmpI xs.length ys.length := Ver.cmpL_end k xs ys (by omega) HS.out
      rcases Nat.lt_trichotomy xs.length ys.length with hl | hl | hl
      · have HF := Lib.hid (show cmpV (xs, s.data.toList) (ys, t.data.toList) = -1 by
          have h2 : cmpI (xs.length : Int) ys.length = -1 := by unfold cmpI; rw [if_pos (by omega)]
          rw [cmpV_num _ _ _ _ (by omega)]; omega)
        have hkx : xs.length ≤ k := by omega
        clear hlt hcl
        go_wp2
        go_ret
        exact ⟨ret_int HF.out.symm, hbf⟩
      · have hc0' : cmpL xs ys = 0 := by rw [hcl]; unfold cmpI; rw [if_neg (by omega), if_neg (by omega)]
        have HT := Lib.hid (cmpV_tag xs ys s.data.toList t.data.toList hc0')
        have hkx : xs.length ≤ k := by omega
        have hlx : xs.length ≤ ys.length := by omega
        have hly : ys.length ≤ xs.length := by omega
        clear hlt hcl hl hc0'
        rcases tag_cases s t with ⟨h1, h2⟩ | ⟨h0, ⟨h1, h2⟩ | ⟨h1, ⟨h3, h2⟩ | ⟨h3, ⟨h4, h2⟩ | ⟨h4, h2⟩⟩⟩⟩
        all_goals
          have HF := Lib.hid (HT.out.trans h2)
          clear h2
          go_wp2
          go_ret
          exact ⟨ret_int HF.out.symm, hbf⟩
      · have HF := Lib.hid (show cmpV (xs, s.data.toList) (ys, t.data.toList) = 1 by
          have h2 : cmpI (xs.length : Int) ys.length = 1 := by unfold cmpI; rw [if_neg (by omega), if_pos (by omega)]
          rw [cmpV_num _ _ _ _ (by omega)]; omega)
        have hkx : ys.length ≤ k := by omega
        clear hlt hcl
        go_wp2
        go_ret
        exact ⟨ret_int HF.out.symm, hbf⟩
end Go.Proofs.YtcnedecmmplmoaaGreatDoor
