/- Contract of version.Parse. -/
import Derived.Test.YtcnedecmmplmoaaGreatDoorCm03
set_option linter.unusedVariables false
set_option linter.unusedSimpArgs false
namespace Go.Proofs.YtcnedecmmplmoaaGreatDoor
open Go.RowKit Go.BigFrame
open Ver (brk parts prs prsH digB tagB numV okNum okTag BL)

theorem infoInt : (Tryz.prog.info? 3).map (fun i => (i.zero, i.size, i.bytes)) = some (some (.int .i64 0), 1, 8) := by kernel_rfl
theorem infoV : (Tryz.prog.info? 101).map (·.size) = some 2 := by kernel_rfl
def vI (n : Nat) : Value := .int .i64 (n : Int)
theorem vI_one (l : List Nat) : ∀ u ∈ l.map vI, u.oneCell' = true := fun u hu => by
  obtain ⟨n, _, rfl⟩ := List.mem_map.1 hu; rfl
def ParseYes (ns : List Nat) (t : ByteArray) (w : World) (e : Ending) (w' : World) : Prop :=
  ∃ v, e = .returned (.tuple #[.agg #[v, .string t], .int .i64 0]) ∧ w'.ownsRow w.heap.size 3 1 v ns.length (ns.map vI) ∧ Below w.heap.size w w'
def ParseNo (w : World) (e : Ending) (w' : World) : Prop := e = .returned (.tuple #[.agg #[.slice none 0 0, .string ⟨#[]⟩], .int .i64 130]) ∧ Below w.heap.size w w'
def tagOK (s : ByteArray) : Bool := !bF 45 s || fullTag (bR 45 s)
theorem bA_size (c : UInt8) (s : ByteArray) : (bA c s).size ≤ s.size := by
  cases h : bF c s
  · rw [(cut_no c s h).1]; exact Nat.le_refl _
  · obtain ⟨i, _, hi, e, _⟩ := cut_yes c s h
    rw [e]; simp; omega
theorem bR_size (c : UInt8) (s : ByteArray) : (bR c s).size ≤ s.size := by
  cases h : bF c s
  · rw [(cut_no c s h).2.1]; exact Nat.zero_le _
  · obtain ⟨i, _, hi, _, e⟩ := cut_yes c s h
    rw [e]; simp
theorem fullTag_eq (s : ByteArray) : fullTag s = (decide (s.data.toList ≠ []) && okTag s.data.toList) := by
  unfold fullTag
  congr 1
  rw [decide_eq_decide]
  constructor
  · intro h e
    have := congrArg List.length e
    rw [len_data, List.length_nil] at this; omega
  · intro h
    have := List.length_pos_iff.2 h
    rw [len_data] at this; omega
theorem prs_tagNo (s : ByteArray) (h : tagOK s = false) : prs s.data.toList = none := by
  unfold tagOK at h
  rw [Bool.or_eq_false_iff, fullTag_eq, bR_list] at h
  have h1 : (brk 45 s.data.toList).2.2 = true := by simpa [bF] using h.1
  unfold prs
  rw [if_pos h1, if_neg]
  rintro ⟨h2, h3⟩
  have := h.2
  rw [h3, decide_eq_true h2] at this
  cases this
theorem prs_tagYes (s : ByteArray) (h : tagOK s = true) : prs s.data.toList = (prsH (bA 45 s).data.toList).map fun ns => (ns, (bR 45 s).data.toList) := by
  unfold tagOK at h
  rw [fullTag_eq, bR_list] at h
  rw [bA_list, bR_list]
  unfold prs
  cases hb : (brk 45 s.data.toList).2.2
  · obtain ⟨h1, h2, _⟩ := Ver.brk_no 45 _ hb
    rw [if_neg (by simp), h1, h2]
  · rw [if_pos rfl, if_pos]
    have hb' : bF 45 s = true := hb
    simpa [hb'] using h

theorem v_start (w : World) (nq : Nat) (o : Obj) : ∃ W0, W0 = (w.alloc o).drewN nq ∧ W0.heap[w.heap.size]? = some o ∧ W0.heap.size = w.heap.size + 1 ∧ Below w.heap.size w W0 :=
  ⟨_, rfl, heap_alloc_new w o, by show (w.alloc o).heap.size = _; simp, below_drewN ((Below.refl _ _).alloc (Nat.le_refl _) _) nq⟩
theorem own_form {w : World} {base : Nat} {e : TypeId} {size : Nat} {v : Value} {n : Nat} {xs : List Value} (h : w.ownsRow base e size v n xs) : ∃ A cap, v = .slice A n cap := by
  rcases h.2 with ⟨e1, e2⟩ | ⟨g, cap, cur, e1, _⟩
  · exact ⟨none, 0, by rw [e1, e2]⟩
  · exact ⟨_, cap, e1⟩
theorem own_drewN {w : World} {base : Nat} {e : TypeId} {size : Nat} {v : Value} {n : Nat} {xs : List Value} (h : w.ownsRow base e size v n xs) (q : Nat) : (w.drewN q).ownsRow base e size v n xs := by
  induction q with
  | zero => exact h
  | succ q ih => exact ih.drew
def sliceLen : Value → Nat
  | .slice _ n _ => n
  | _ => 0
theorem cell_two {w : World} {g : Nat} {T : TypeId} {x y : Value} (h : w.heap[g]? = some (.cells #[x, y] T (0, 0))) : w.cell? ⟨g, 0, none⟩ = some x ∧ w.cell? ⟨g, 1, none⟩ = some y ∧ w.frozen? ⟨g, 0, none⟩ = false ∧ w.frozen? ⟨g, 1, none⟩ = false :=
  ⟨by rw [cell_of_row _ _ _ _ _ _ h]; rfl, by rw [cell_of_row _ _ _ _ _ _ h]; rfl, frozen_of_row _ _ _ _ _ h, frozen_of_row _ _ _ _ _ h⟩
theorem prsH_bad (l h : BL) (done : List BL) (hp : parts 46 l = done ++ parts 46 h) (hb : (parts 46 h).all okNum = false) : prsH l = none := by
  unfold prsH
  rw [hp, List.all_append, hb, Bool.and_false, if_neg (by simp)]
theorem prsH_long (l h : BL) (done : List BL) (hp : parts 46 l = done ++ parts 46 h) (hb : 8 ≤ done.length) : prsH l = none := by
  unfold prsH
  have := List.length_pos_iff.2 (Ver.parts_ne 46 h)
  rw [hp, List.length_append, if_neg (by omega)]
theorem prsH_good (l h : BL) (done : List BL) (hp : parts 46 l = done ++ parts 46 h) (hd : done.all okNum = true) (ho : okNum h = true) (hq : parts 46 h = [h]) (hb : done.length < 8) : prsH l = some ((done ++ [h]).map numV) := by
  unfold prsH
  rw [hp, hq, List.all_append, hd, List.length_append, if_pos (by simp [ho]; omega)]
theorem parts_head_bad (s : ByteArray) (h : okNum (bA 46 s).data.toList = false) : (parts 46 s.data.toList).all okNum = false := by
  cases hb : bF 46 s
  · rw [Ver.parts_brk_no 46 _ hb, ← (cut_no 46 s hb).1, List.all_cons, h, Bool.false_and]
  · rw [Ver.parts_brk_yes 46 _ hb, List.all_cons, ← bA_list, h, Bool.false_and]
def doneV (done : List BL) : List Value := done.map fun p => vI (numV p)
theorem doneV_snoc (done : List BL) (p : BL) : doneV (done ++ [p]) = doneV done ++ [vI (numV p)] := by simp [doneV]

def Prs (s : ByteArray) (w : World) (e : Ending) (w' : World) : Prop :=
  match prs s.data.toList with
  | none => ParseNo w e w'
  | some v => ParseYes v.1 ⟨v.2.toArray⟩ w e w'
theorem prs_mk_no {s : ByteArray} {w : World} {e : Ending} {w' : World} (h : prs s.data.toList = none) (hp : ParseNo w e w') : Prs s w e w' := by
  unfold Prs; rw [h]; exact hp
theorem prs_mk_yes {s : ByteArray} {w : World} {e : Ending} {w' : World} {ns : List Nat} {t : BL} (h : prs s.data.toList = some (ns, t)) (hp : ParseYes ns ⟨t.toArray⟩ w e w') : Prs s w e w' := by
  unfold Prs; rw [h]; exact hp
set_option maxRecDepth 100000 in
set_option maxHeartbeats 400000 in
theorem parse_tagNo (s : ByteArray) (w : World) (hs : s.size ≤ maxLen) (h : tagOK s = false) :
    Calls Tryz.prog 58 #[.string s] w (Prs s w) := by
  have hbf : bF 45 s = true := by unfold tagOK at h; simp at h; exact h.1
  have hft : fullTag (bR 45 s) = false := by unfold tagOK at h; simp at h; exact h.2
  have HB := Lib.hid hbf
  have HF := Lib.hid hft
  have HP := Lib.hid (prs_tagNo s h)
  have hz := bR_size 45 s
  clear h hbf hft
  go_enter Tryz.func58, Tryz.ntmps58
  go_wp2_with (first | (go_at_call 76; refine (cut_is true 45 _ _ hs HB.out).mono ?_; rintro e w' ⟨rfl, nq, rfl⟩) | (go_at_call 92; refine (rightTag_any _ _ (by omega)).mono ?_; rw [HF.out]; rintro e w' ⟨rfl, rfl⟩))
  refine bodyPost_ret (v := .tuple #[.agg #[.slice none 0 0, .string ⟨#[]⟩], .int .i64 130]) (by simp [results, Tryz.results58, go_sem]) rfl (prs_mk_no HP.out ⟨rfl, ?_⟩)
  exact ((below_drewN ((Below.refl _ _).alloc (Nat.le_refl _) _) nq).setCell (Nat.le_refl _) _).setCell (Nat.le_refl _) _
theorem own_mono {w : World} {base base' n sz : Nat} {e : TypeId} {v : Value} {xs : List Value} (h : w.ownsRow base e sz v n xs) (hb : base' ≤ base) : w.ownsRow base' e sz v n xs := by
  obtain ⟨hl, h0 | ⟨g, cap, cur, rfl, hg, hgg, h1, h2, h3, h4⟩⟩ := h
  · exact ⟨hl, .inl h0⟩
  · exact ⟨hl, .inr ⟨g, cap, cur, rfl, Nat.le_trans hb hg, hgg, h1, h2, h3, h4⟩⟩
theorem own_setCell {w : World} {base n : Nat} {e : TypeId} {v : Value} {xs : List Value} (h : w.ownsRow base e 1 v n xs) (p : Addr) (hp : p.block < base) (u : Value) : (w.setCell p u).ownsRow base e 1 v n xs := by
  obtain ⟨hl, h0 | ⟨g, cap, cur, rfl, hg, hgg, h1, h2, h3, h4⟩⟩ := h
  · exact ⟨hl, .inl h0⟩
  · exact ⟨hl, .inr ⟨g, cap, cur, rfl, hg, (heap_setCell_other w p g u (by omega)).trans hgg, h1, h2, h3, h4⟩⟩
theorem cell_one_at (w : World) (x : Value) (t : TypeId) (k : Nat) (hk : k = w.heap.size) : ∀ j u, [x][j]? = some u → (w.alloc (.cells #[x] t)).cell? ((⟨k, 0, none⟩ : Addr).add j) = some u := by
  subst hk; exact cell_one_new w x t
set_option maxRecDepth 100000 in
set_option maxHeartbeats 1000000 in
theorem parse_tagYes (s : ByteArray) (w : World) (hs : s.size ≤ maxLen) (h : tagOK s = true) :
    Calls Tryz.prog 58 #[.string s] w (Prs s w) := by
  have hz := bR_size 45 s
  have hza := bA_size 45 s
  have HP := Lib.hid (prs_tagYes s h)
  obtain ⟨i0, hi, hz0, hz1, hz2⟩ := info_parts infoInt
  have HI := Lib.hid hi
  have HZ0 := Lib.hid hz0
  have HZ1 := Lib.hid hz1
  have HZ2 := Lib.hid hz2
  have HB : (bF 45 s = false) ∨ (bF 45 s = true ∧ fullTag (bR 45 s) = true) := by unfold tagOK at h; simp at h; rcases h with h | h; exact .inl h; cases hb : bF 45 s; exact .inl rfl; exact .inr ⟨rfl, h⟩
  clear hi hz0 hz1 hz2
  rcases HB with hb | ⟨hb, hf⟩
  · have HB := Lib.hid hb
    clear hb h
    go_enter Tryz.func58, Tryz.ntmps58
    go_wp2_with (first | (go_at_call 76; refine (cut_is false 45 _ _ hs HB.out).mono ?_; rintro e w' ⟨rfl, nq, rfl⟩))
    obtain ⟨W0, hW0, hg0, hs0, hb0⟩ := v_start w nq (.cells #[.slice none 0 0, .string ⟨#[]⟩] 101)
    rw [← hW0]
    clear hW0
    go_loopw [4, 7] (fun hd v wr => ∃ (x : ByteArray) (done : List BL), Hid (parts 46 (bA 45 s).data.toList = done ++ parts 46 x.data.toList) ∧ Hid (done.all okNum = true) ∧ hd = .string x ∧ x.size ≤ s.size ∧ done.length ≤ 8 ∧
        wr.ownsRow (w.heap.size + 1) 3 1 v done.length (doneV done) ∧ Below (w.heap.size + 1) W0 wr) (fun _ v _ => 8 - sliceLen v)
    case atStart => exact ⟨bA 45 s, [], Lib.hid rfl, Lib.hid rfl, rfl, hza, Nat.zero_le _, World.ownsRow_nil _ _ _ _, Below.refl _ _⟩
    case round =>
      obtain ⟨x, done, HD, HO, rfl, hxs, hk, hown, hbw⟩ := hrel
      have hgr := (hbw.block w.heap.size (by omega)).trans hg0
      have hbr := hb0.trans (hbw.mono (Nat.le_succ _))
      have hsz : w.heap.size + 1 ≤ wr.heap.size := by have := hbw.size; omega
      obtain ⟨A, cap, rfl⟩ := own_form hown
      by_cases h8 : done.length < 8
      · have hxa := bA_size 46 x
        have hxr := bR_size 46 x
        cases hok : okNum (bA 46 x).data.toList
        · have HPN := Lib.hid (show prs s.data.toList = none by rw [HP.out, prsH_bad _ _ _ HD.out (parts_head_bad x hok)]; rfl)
          have HOK := Lib.hid hok
          obtain ⟨hc0, hc1, hf0, hf1⟩ := cell_two hgr
          clear hok hgr
          go_wp2_with (first | (go_at_call 76; refine (cut_any 46 _ _ (by unfold maxLen at *; omega)).mono ?_; rintro e w' ⟨rfl, nq, rfl⟩) | (go_at_call 93; refine (number_any _ _ (by unfold maxLen at *; omega)).mono ?_; rw [HOK.out]; rintro e w' ⟨rfl, rfl⟩))
          refine bodyPost_ret (v := .tuple #[.agg #[.slice none 0 0, .string ⟨#[]⟩], .int .i64 130]) (by simp [results, Tryz.results58, go_sem, hc0, hc1, hf0, hf1]) rfl (prs_mk_no HPN.out ⟨rfl, ?_⟩)
          exact ((below_drewN hbr _).setCell (Nat.le_refl _) _).setCell (Nat.le_refl _) _
        · have HOK := Lib.hid hok
          have HV := Lib.hid (doneV_snoc done (bA 46 x).data.toList)
          have hgr' := Lib.hid hgr
          clear hok hgr
          cases hbx : bF 46 x
          · have HBX := Lib.hid hbx
            have HPY := Lib.hid (show prs s.data.toList = some ((done ++ [(bA 46 x).data.toList]).map numV, (bR 45 s).data.toList) by
              have e1 := (cut_no 46 x hbx).1
              have e2 := Ver.parts_brk_no 46 _ hbx
              rw [HP.out, e1, prsH_good _ _ _ HD.out HO.out (by rw [← e1]; exact HOK.out) e2 h8]; rfl)
            clear hbx
            go_upto_region 10 with (first | (go_at_call 76; refine (cut_is false 46 _ _ (by unfold maxLen at *; omega) HBX.out).mono ?_; rintro e w' ⟨rfl, nq, rfl⟩) | (go_at_call 93; refine (number_any _ _ (by unfold maxLen at *; omega)).mono ?_; rw [HOK.out, numR_yes _ HOK.out]; rintro e w' ⟨rfl, rfl⟩) | (at_builtin; refine wpList_append_own _ rfl _ _ 43 rfl (w.heap.size + 1) 3 i0 (.int .i64 0) 1 8 Tryz.underlying43 HI.out HZ0.out HZ1.out HZ2.out rfl (by decide) _ _ _ rfl ((own_drewN hown _).alloc _) ⟨wr.heap.size, 0, none⟩ 1 1 [vI (numV (bA 46 x).data.toList)] rfl rfl ?c1 ?c2 ?c3 ?c4 ?c5 ?_))
            case c1 => exact cell_one_at _ _ _ _ (by simp)
            case c2 => exact vI_one [_]
            case c3 => unfold maxLen; omega
            case c4 => omega
            case c5 => simp; omega
            intro v' w1 hown1 hgrow1 _
            have hbw1 := ((below_drewN hbw _).alloc (by simp; omega) _).grown hgrow1 (by simp; omega) (fun k e => (hown.lt k e).1)
            rw [← HV.out] at hown1
            obtain ⟨A1, cap1, rfl⟩ := own_form hown1
            have hg1 := (hbw1.block w.heap.size (by omega)).trans hg0
            have hbr1 := hb0.trans (hbw1.mono (Nat.le_succ _))
            clear hown hbw hbr hgrow1 hgr'
            obtain ⟨hc0, hc1, hf0, hf1⟩ := cell_two hg1
            clear hg1
            go_wp2
            refine bodyPost_ret (v := .tuple #[.agg #[.slice A1 (done.length + 1) cap1, .string (bR 45 s)], .int .i64 0]) (by simp [results, Tryz.results58, go_sem, hc0, hc1, hf0, hf1]) rfl (prs_mk_yes HPY.out ⟨_, rfl, ?_, ?_⟩)
            · have := own_mono (own_setCell (own_setCell hown1 ⟨w.heap.size, 0, none⟩ (Nat.lt_succ_self _) (.slice A1 (done.length + 1) cap1)) ⟨w.heap.size, 1, none⟩ (Nat.lt_succ_self _) (.string (bR 45 s))) (Nat.le_succ _)
              rw [show ((done ++ [(bA 46 x).data.toList]).map numV).length = done.length + 1 by simp, show ((done ++ [(bA 46 x).data.toList]).map numV).map vI = doneV (done ++ [(bA 46 x).data.toList]) by simp [doneV]]
              exact this
            · exact (hbr1.setCell (Nat.le_refl _) _).setCell (Nat.le_refl _) _
          · have HBX := Lib.hid hbx
            have HDN := Lib.hid (show parts 46 (bA 45 s).data.toList = (done ++ [(bA 46 x).data.toList]) ++ parts 46 (bR 46 x).data.toList by
              rw [HD.out, Ver.parts_brk_yes 46 _ hbx, bA_list, bR_list, List.append_assoc]; rfl)
            have HON := Lib.hid (show (done ++ [(bA 46 x).data.toList]).all okNum = true by rw [List.all_append, HO.out, List.all_cons, HOK.out]; rfl)
            clear hbx
            go_upto_region 10 with (first | (go_at_call 76; refine (cut_is true 46 _ _ (by unfold maxLen at *; omega) HBX.out).mono ?_; rintro e w' ⟨rfl, nq, rfl⟩) | (go_at_call 93; refine (number_any _ _ (by unfold maxLen at *; omega)).mono ?_; rw [HOK.out, numR_yes _ HOK.out]; rintro e w' ⟨rfl, rfl⟩) | (at_builtin; refine wpList_append_own _ rfl _ _ 43 rfl (w.heap.size + 1) 3 i0 (.int .i64 0) 1 8 Tryz.underlying43 HI.out HZ0.out HZ1.out HZ2.out rfl (by decide) _ _ _ rfl ((own_drewN hown _).alloc _) ⟨wr.heap.size, 0, none⟩ 1 1 [vI (numV (bA 46 x).data.toList)] rfl rfl ?c1 ?c2 ?c3 ?c4 ?c5 ?_))
            case c1 => exact cell_one_at _ _ _ _ (by simp)
            case c2 => exact vI_one [_]
            case c3 => unfold maxLen; omega
            case c4 => omega
            case c5 => simp; omega
            intro v' w1 hown1 hgrow1 _
            have hbw1 := ((below_drewN hbw _).alloc (by simp; omega) _).grown hgrow1 (by simp; omega) (fun k e => (hown.lt k e).1)
            rw [← HV.out] at hown1
            obtain ⟨A1, cap1, rfl⟩ := own_form hown1
            have hg1 := (hbw1.block w.heap.size (by omega)).trans hg0
            have hbr1 := hb0.trans (hbw1.mono (Nat.le_succ _))
            clear hown hbw hbr hgrow1 hgr'
            clear hg1
            go_wp2
            go_roundw
            case rel => exact ⟨bR 46 x, done ++ [(bA 46 x).data.toList], HDN, HON, rfl, by omega, by simp; omega, by rw [List.length_append]; exact hown1, hbw1⟩
            case measure => simp [sliceLen]; omega
      · have HPN := Lib.hid (show prs s.data.toList = none by rw [HP.out, prsH_long _ _ _ HD.out (by omega)]; rfl)
        obtain ⟨hc0, hc1, hf0, hf1⟩ := cell_two hgr
        clear hgr
        go_wp2
        refine bodyPost_ret (v := .tuple #[.agg #[.slice none 0 0, .string ⟨#[]⟩], .int .i64 130]) (by simp [results, Tryz.results58, go_sem, hc0, hc1, hf0, hf1]) rfl (prs_mk_no HPN.out ⟨rfl, ?_⟩)
        exact (hbr.setCell (Nat.le_refl _) _).setCell (Nat.le_refl _) _
  · have HB := Lib.hid hb
    have HF := Lib.hid hf
    clear hb hf h
    go_enter Tryz.func58, Tryz.ntmps58
    go_wp2_with (first | (go_at_call 76; refine (cut_is true 45 _ _ hs HB.out).mono ?_; rintro e w' ⟨rfl, nq, rfl⟩) | (go_at_call 92; refine (rightTag_any _ _ (by omega)).mono ?_; rw [HF.out]; rintro e w' ⟨rfl, rfl⟩))
    obtain ⟨W0, hW0, hg0, hs0, hb0⟩ := v_start w nq (.cells #[.slice none 0 0, .string ⟨#[]⟩] 101)
    rw [← hW0]
    clear hW0
    go_loopw [4, 7] (fun hd v wr => ∃ (x : ByteArray) (done : List BL), Hid (parts 46 (bA 45 s).data.toList = done ++ parts 46 x.data.toList) ∧ Hid (done.all okNum = true) ∧ hd = .string x ∧ x.size ≤ s.size ∧ done.length ≤ 8 ∧
        wr.ownsRow (w.heap.size + 1) 3 1 v done.length (doneV done) ∧ Below (w.heap.size + 1) W0 wr) (fun _ v _ => 8 - sliceLen v)
    case atStart => exact ⟨bA 45 s, [], Lib.hid rfl, Lib.hid rfl, rfl, hza, Nat.zero_le _, World.ownsRow_nil _ _ _ _, Below.refl _ _⟩
    case round =>
      obtain ⟨x, done, HD, HO, rfl, hxs, hk, hown, hbw⟩ := hrel
      have hgr := (hbw.block w.heap.size (by omega)).trans hg0
      have hbr := hb0.trans (hbw.mono (Nat.le_succ _))
      have hsz : w.heap.size + 1 ≤ wr.heap.size := by have := hbw.size; omega
      obtain ⟨A, cap, rfl⟩ := own_form hown
      by_cases h8 : done.length < 8
      · have hxa := bA_size 46 x
        have hxr := bR_size 46 x
        cases hok : okNum (bA 46 x).data.toList
        · have HPN := Lib.hid (show prs s.data.toList = none by rw [HP.out, prsH_bad _ _ _ HD.out (parts_head_bad x hok)]; rfl)
          have HOK := Lib.hid hok
          obtain ⟨hc0, hc1, hf0, hf1⟩ := cell_two hgr
          clear hok hgr
          go_wp2_with (first | (go_at_call 76; refine (cut_any 46 _ _ (by unfold maxLen at *; omega)).mono ?_; rintro e w' ⟨rfl, nq, rfl⟩) | (go_at_call 93; refine (number_any _ _ (by unfold maxLen at *; omega)).mono ?_; rw [HOK.out]; rintro e w' ⟨rfl, rfl⟩))
          refine bodyPost_ret (v := .tuple #[.agg #[.slice none 0 0, .string ⟨#[]⟩], .int .i64 130]) (by simp [results, Tryz.results58, go_sem, hc0, hc1, hf0, hf1]) rfl (prs_mk_no HPN.out ⟨rfl, ?_⟩)
          exact ((below_drewN hbr _).setCell (Nat.le_refl _) _).setCell (Nat.le_refl _) _
        · have HOK := Lib.hid hok
          have HV := Lib.hid (doneV_snoc done (bA 46 x).data.toList)
          have hgr' := Lib.hid hgr
          clear hok hgr
          cases hbx : bF 46 x
          · have HBX := Lib.hid hbx
            have HPY := Lib.hid (show prs s.data.toList = some ((done ++ [(bA 46 x).data.toList]).map numV, (bR 45 s).data.toList) by
              have e1 := (cut_no 46 x hbx).1
              have e2 := Ver.parts_brk_no 46 _ hbx
              rw [HP.out, e1, prsH_good _ _ _ HD.out HO.out (by rw [← e1]; exact HOK.out) e2 h8]; rfl)
            clear hbx
            go_upto_region 10 with (first | (go_at_call 76; refine (cut_is false 46 _ _ (by unfold maxLen at *; omega) HBX.out).mono ?_; rintro e w' ⟨rfl, nq, rfl⟩) | (go_at_call 93; refine (number_any _ _ (by unfold maxLen at *; omega)).mono ?_; rw [HOK.out, numR_yes _ HOK.out]; rintro e w' ⟨rfl, rfl⟩) | (at_builtin; refine wpList_append_own _ rfl _ _ 43 rfl (w.heap.size + 1) 3 i0 (.int .i64 0) 1 8 Tryz.underlying43 HI.out HZ0.out HZ1.out HZ2.out rfl (by decide) _ _ _ rfl ((own_drewN hown _).alloc _) ⟨wr.heap.size, 0, none⟩ 1 1 [vI (numV (bA 46 x).data.toList)] rfl rfl ?c1 ?c2 ?c3 ?c4 ?c5 ?_))
            case c1 => exact cell_one_at _ _ _ _ (by simp)
            case c2 => exact vI_one [_]
            case c3 => unfold maxLen; omega
            case c4 => omega
            case c5 => simp; omega
            intro v' w1 hown1 hgrow1 _
            have hbw1 := ((below_drewN hbw _).alloc (by simp; omega) _).grown hgrow1 (by simp; omega) (fun k e => (hown.lt k e).1)
            rw [← HV.out] at hown1
            obtain ⟨A1, cap1, rfl⟩ := own_form hown1
            have hg1 := (hbw1.block w.heap.size (by omega)).trans hg0
            have hbr1 := hb0.trans (hbw1.mono (Nat.le_succ _))
            clear hown hbw hbr hgrow1 hgr'
            obtain ⟨hc0, hc1, hf0, hf1⟩ := cell_two hg1
            clear hg1
            go_wp2
            refine bodyPost_ret (v := .tuple #[.agg #[.slice A1 (done.length + 1) cap1, .string (bR 45 s)], .int .i64 0]) (by simp [results, Tryz.results58, go_sem, hc0, hc1, hf0, hf1]) rfl (prs_mk_yes HPY.out ⟨_, rfl, ?_, ?_⟩)
            · have := own_mono (own_setCell (own_setCell hown1 ⟨w.heap.size, 0, none⟩ (Nat.lt_succ_self _) (.slice A1 (done.length + 1) cap1)) ⟨w.heap.size, 1, none⟩ (Nat.lt_succ_self _) (.string (bR 45 s))) (Nat.le_succ _)
              rw [show ((done ++ [(bA 46 x).data.toList]).map numV).length = done.length + 1 by simp, show ((done ++ [(bA 46 x).data.toList]).map numV).map vI = doneV (done ++ [(bA 46 x).data.toList]) by simp [doneV]]
              exact this
            · exact (hbr1.setCell (Nat.le_refl _) _).setCell (Nat.le_refl _) _
          · have HBX := Lib.hid hbx
            have HDN := Lib.hid (show parts 46 (bA 45 s).data.toList = (done ++ [(bA 46 x).data.toList]) ++ parts 46 (bR 46 x).data.toList by
              rw [HD.out, Ver.parts_brk_yes 46 _ hbx, bA_list, bR_list, List.append_assoc]; rfl)
            have HON := Lib.hid (show (done ++ [(bA 46 x).data.toList]).all okNum = true by rw [List.all_append, HO.out, List.all_cons, HOK.out]; rfl)
            clear hbx
            go_upto_region 10 with (first | (go_at_call 76; refine (cut_is true 46 _ _ (by unfold maxLen at *; omega) HBX.out).mono ?_; rintro e w' ⟨rfl, nq, rfl⟩) | (go_at_call 93; refine (number_any _ _ (by unfold maxLen at *; omega)).mono ?_; rw [HOK.out, numR_yes _ HOK.out]; rintro e w' ⟨rfl, rfl⟩) | (at_builtin; refine wpList_append_own _ rfl _ _ 43 rfl (w.heap.size + 1) 3 i0 (.int .i64 0) 1 8 Tryz.underlying43 HI.out HZ0.out HZ1.out HZ2.out rfl (by decide) _ _ _ rfl ((own_drewN hown _).alloc _) ⟨wr.heap.size, 0, none⟩ 1 1 [vI (numV (bA 46 x).data.toList)] rfl rfl ?c1 ?c2 ?c3 ?c4 ?c5 ?_))
            case c1 => exact cell_one_at _ _ _ _ (by simp)
            case c2 => exact vI_one [_]
            case c3 => unfold maxLen; omega
            case c4 => omega
            case c5 => simp; omega
            intro v' w1 hown1 hgrow1 _
            have hbw1 := ((below_drewN hbw _).alloc (by simp; omega) _).grown hgrow1 (by simp; omega) (fun k e => (hown.lt k e).1)
            rw [← HV.out] at hown1
            obtain ⟨A1, cap1, rfl⟩ := own_form hown1
            have hg1 := (hbw1.block w.heap.size (by omega)).trans hg0
            have hbr1 := hb0.trans (hbw1.mono (Nat.le_succ _))
            clear hown hbw hbr hgrow1 hgr'
            clear hg1
            go_wp2
            go_roundw
            case rel => exact ⟨bR 46 x, done ++ [(bA 46 x).data.toList], HDN, HON, rfl, by omega, by simp; omega, by rw [List.length_append]; exact hown1, hbw1⟩
            case measure => simp [sliceLen]; omega
      · have HPN := Lib.hid (show prs s.data.toList = none by rw [HP.out, prsH_long _ _ _ HD.out (by omega)]; rfl)
        obtain ⟨hc0, hc1, hf0, hf1⟩ := cell_two hgr
        clear hgr
        go_wp2
        refine bodyPost_ret (v := .tuple #[.agg #[.slice none 0 0, .string ⟨#[]⟩], .int .i64 130]) (by simp [results, Tryz.results58, go_sem, hc0, hc1, hf0, hf1]) rfl (prs_mk_no HPN.out ⟨rfl, ?_⟩)
        exact (hbr.setCell (Nat.le_refl _) _).setCell (Nat.le_refl _) _
theorem parse_any (s : ByteArray) (w : World) (hs : s.size ≤ maxLen) : Calls Tryz.prog 58 #[.string s] w (Prs s w) := by
  cases h : tagOK s
  · exact parse_tagNo s w hs h
  · exact parse_tagYes s w hs h
end Go.Proofs.YtcnedecmmplmoaaGreatDoor
