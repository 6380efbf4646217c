/- cnf: the laws CnfHolds and CnfCheck. -/
import Derived.Test.YtapaoccpbcjgeaaCnmR
import Derived.Deep.DeepCutAuto
namespace Go.Proofs.Ytapaoccpbcjgeaa
open Go.RowKit Go.BigFrame
open Cnf (litB countN leftL heldB firstsI unitsF bothB IsNorm)

def KeepW (W1 : World) (B : Nat) (w' : World) : Prop := Below B W1 w' ∧ B ≤ w'.heap.size
theorem KeepW.start {W : World} {B : Nat} (h : B ≤ W.heap.size) : KeepW W B W := ⟨Below.refl _ _, h⟩
theorem KeepW.drew {W1 w' : World} {B : Nat} (h : KeepW W1 B w') : KeepW W1 B w'.drew := ⟨h.1.drew, h.2⟩
theorem KeepW.step {W1 w' w2 : World} {B : Nat} (h : KeepW W1 B w') (h2 : Below w'.heap.size w' w2) : KeepW W1 B w2 := ⟨below_step h.1 h2 h.2, Nat.le_trans h.2 h2.size⟩
theorem KeepW.alloc {W1 w' : World} {B : Nat} (h : KeepW W1 B w') (o : Obj) : KeepW W1 B (w'.alloc o) := h.step ((Below.refl _ _).alloc (Nat.le_refl _) o)
theorem KeepW.calls {P : Program} {f : FuncId} {args : Array Value} {v : Value} {W1 w' : World} {B : Nat} (h : KeepW W1 B w') (hc : Calls P f args w' fun e w2 => e = .returned v ∧ Below w'.heap.size w' w2) : Calls P f args w' fun e w2 => e = .returned v ∧ KeepW W1 B w2 :=
  hc.mono fun _ _ ⟨he, hb⟩ => ⟨he, h.step hb⟩

set_option maxRecDepth 100000 in
set_option maxHeartbeats 4000000 in
theorem cnfHolds_walk (v : Int) (a : Value) (cs : List (List Int)) (mv : Value) (ms : List Bool) (w : World) (ha : RowsAt w a cs) (hl : BoolR w AllB mv ms) : Calls Try.prog 5 #[.agg #[.int .i64 v, a], mv] w fun e w' => e = .returned (.bool true) ∧ Below w.heap.size w w' := by
  obtain ⟨A, ca, rfl, hla, hma⟩ := ha.form
  obtain ⟨A2, cb, rfl, hlb, hmb⟩ := RdS.form hl
  unfold maxLen at hma hmb
  go_enter Try.func5, Try.ntmps5
  go_upto_region 1 with (fail)
  obtain ⟨W0, hW0, hg0, hb0, hz0', hbb⟩ := row_at w w (.cells #[.int .i64 v, .slice A cs.length ca] 24) (Below.refl _ _)
  rw [← hW0]
  have HA := Lib.hid (ha.below hb0)
  have HS := Lib.hid (RdS.below hl hb0)
  have hzz : w.heap.size < W0.heap.size := by omega
  have HBB := Lib.hid hbb
  obtain ⟨hc0, hc1, hf0, hf1⟩ := cell_two hg0
  clear hW0 ha hl hb0 hz0' hg0 hbb
  have HF := Lib.hid (few_any v _ cs 500 W0 (by omega) HA.out)
  cases hfw : fewB v cs 500
  · rw [hfw] at HF
    clear hfw
    go_wp2_with fail
    refine HF.out.mono ?_
    rintro e w' ⟨rfl, hw⟩
    obtain rfl := hw.symm
    go_wp2_with fail
    refine (works_b w _ HBB.out).mono ?_
    rintro e w' ⟨rfl, hb⟩
    go_wp2
    go_ret
    exact ⟨rfl, hb⟩
  · rw [hfw] at HF
    have HFT := Lib.hid (few_true hfw)
    clear hfw
    by_cases h60 : ms.length ≤ 600
    · have h60' : ¬ (600 : Int) < (ms.length : Int) := by omega
      obtain ⟨b, hb⟩ : ∃ b, Hid (b = holdsN v cs ms) := ⟨_, Lib.hid rfl⟩
      have HKK := Lib.hid (show ∀ w', KeepW W0 W0.heap.size w' → (w'.cell? ⟨w.heap.size, 0, none⟩ = some (.int .i64 v) ∧ w'.cell? ⟨w.heap.size, 1, none⟩ = some (.slice A cs.length ca)) ∧ KeepW W0 W0.heap.size w' from fun w' h => ⟨⟨(h.1.cell (p := ⟨w.heap.size, 0, none⟩) hzz).trans hc0, (h.1.cell (p := ⟨w.heap.size, 1, none⟩) hzz).trans hc1⟩, h⟩)
      have HPL := Lib.hid (show ∀ w', KeepW W0 W0.heap.size w' → Calls Try.prog 14 #[.agg #[.int .i64 v, .slice A cs.length ca]] w' fun e w2 => e = .returned (.agg #[.int .i64 v, .slice A cs.length ca]) ∧ KeepW W0 W0.heap.size w2 from fun w' h => h.calls (plain_any v A _ _ w'))
      have HWK := Lib.hid (show ∀ w', KeepW W0 W0.heap.size w' → Calls Try.prog 11 #[] w' fun e w2 => e = .returned (.bool true) ∧ KeepW W0 W0.heap.size w2 from fun w' h => h.calls (works_any w'))
      have HHO := Lib.hid (show ∀ w', KeepW W0 W0.heap.size w' → Calls Try.prog 20 #[.agg #[.int .i64 v, .slice A cs.length ca], .slice A2 ms.length cb] w' fun e w2 => e = .returned (.bool b) ∧ KeepW W0 W0.heap.size w2 from fun w' h => h.calls (by rw [hb.out]; exact holds_any v _ _ cs ms w' (HA.out.below h.1) (RdS.below HS.out h.1) (by have := HFT.out; omega)))
      have HHR := Lib.hid (show ∀ w', KeepW W0 W0.heap.size w' → Calls Try.prog 21 #[.agg #[.int .i64 v, .slice A cs.length ca], .slice A2 ms.length cb] w' fun e w2 => e = .returned (.bool b) ∧ KeepW W0 W0.heap.size w2 from fun w' h => h.calls (by rw [hb.out]; exact refHolds_any v _ _ cs ms w' (HA.out.below h.1) (RdS.below HS.out h.1) (by have := HFT.out; omega)))
      have hk0 := KeepW.start (Nat.le_refl W0.heap.size)
      have hbe : (b == b) = true := by simp
      clear hb
      go_upto_region 3 with (go_at_call 10; refine HF.out.mono ?_; rintro e w' ⟨rfl, hw⟩; obtain rfl := hw.symm)
      go_region_held3 (fun w' => (w'.cell? ⟨w.heap.size, 0, none⟩ = some (.int .i64 v) ∧ w'.cell? ⟨w.heap.size, 1, none⟩ = some (.slice A cs.length ca)) ∧ KeepW W0 W0.heap.size w') (first | exact HKK.out _ (by assumption) | exact HKK.out _ (KeepW.drew (by assumption)) | go_keep) (first | (go_at_call 20; refine (HHO.out _ (by first | assumption | exact KeepW.drew (by assumption))).mono ?_; rintro e w4 ⟨rfl, hk4⟩) | (go_at_call 14; refine (HPL.out _ (by first | assumption | exact KeepW.drew (by assumption))).mono ?_; rintro e w5 ⟨rfl, hk5⟩) | (go_at_call 21; refine (HHR.out _ (by first | assumption | exact KeepW.drew (by assumption))).mono ?_; rintro e w6 ⟨rfl, hk6⟩) | (go_at_call 11; refine (HWK.out _ (by first | assumption | exact KeepW.drew (by assumption))).mono ?_; rintro e w7 ⟨rfl, hk7⟩))
      all_goals
        go_wp2
        go_ret
        exact ⟨rfl, HBB.out.trans ((show KeepW W0 W0.heap.size _ by assumption).1.mono HBB.out.size)⟩
    · have h60' : (600 : Int) < (ms.length : Int) := by omega
      go_wp2_with fail
      refine HF.out.mono ?_
      rintro e w' ⟨rfl, hw⟩
      obtain rfl := hw.symm
      go_wp2_with fail
      refine (works_b w _ HBB.out).mono ?_
      rintro e w' ⟨rfl, hb⟩
      go_wp2
      go_ret
      exact ⟨rfl, hb⟩

set_option maxRecDepth 100000 in
set_option maxHeartbeats 4000000 in
theorem cnfCheck_walk (v : Int) (a : Value) (cs : List (List Int)) (w : World) (ha : RowsAt w a cs) : Calls Try.prog 3 #[.agg #[.int .i64 v, a]] w fun e w' => e = .returned (.bool true) ∧ Below w.heap.size w w' := by
  obtain ⟨A, ca, rfl, hla, hma⟩ := ha.form
  unfold maxLen at hma
  go_enter Try.func3, Try.ntmps3
  go_upto_region 1 with (fail)
  obtain ⟨W0, hW0, hg0, hb0, hz0', hbb⟩ := row_at w w (.cells #[.int .i64 v, .slice A cs.length ca] 24) (Below.refl _ _)
  rw [← hW0]
  have HA := Lib.hid (ha.below hb0)
  have hzz : w.heap.size < W0.heap.size := by omega
  have HBB := Lib.hid hbb
  obtain ⟨hc0, hc1, hf0, hf1⟩ := cell_two hg0
  clear hW0 ha hb0 hz0' hg0 hbb
  have HF := Lib.hid (few_any 0 _ cs 2000 W0 (by omega) HA.out)
  cases hfw : fewB 0 cs 2000
  · rw [hfw] at HF
    clear hfw
    go_wp2_with fail
    refine HF.out.mono ?_
    rintro e w' ⟨rfl, hw⟩
    obtain rfl := hw.symm
    go_wp2_with fail
    refine (works_b w _ HBB.out).mono ?_
    rintro e w' ⟨rfl, hb⟩
    go_wp2
    go_ret
    exact ⟨rfl, hb⟩
  · rw [hfw] at HF
    have HFT := Lib.hid (few_true hfw)
    clear hfw
    obtain ⟨q, hq⟩ : ∃ q, Hid (q = checkN v cs) := ⟨_, Lib.hid rfl⟩
    obtain ⟨n, hn⟩ : ∃ n : Int, Hid (n = (countN cs : Int)) := ⟨_, Lib.hid rfl⟩
    have HKK := Lib.hid (show ∀ w', KeepW W0 W0.heap.size w' → (w'.cell? ⟨w.heap.size, 0, none⟩ = some (.int .i64 v) ∧ w'.cell? ⟨w.heap.size, 1, none⟩ = some (.slice A cs.length ca)) ∧ KeepW W0 W0.heap.size w' from fun w' h => ⟨⟨(h.1.cell (p := ⟨w.heap.size, 0, none⟩) hzz).trans hc0, (h.1.cell (p := ⟨w.heap.size, 1, none⟩) hzz).trans hc1⟩, h⟩)
    have HPL := Lib.hid (show ∀ w', KeepW W0 W0.heap.size w' → Calls Try.prog 14 #[.agg #[.int .i64 v, .slice A cs.length ca]] w' fun e w2 => e = .returned (.agg #[.int .i64 v, .slice A cs.length ca]) ∧ KeepW W0 W0.heap.size w2 from fun w' h => h.calls (plain_any v A _ _ w'))
    have HWK := Lib.hid (show ∀ w', KeepW W0 W0.heap.size w' → Calls Try.prog 11 #[] w' fun e w2 => e = .returned (.bool true) ∧ KeepW W0 W0.heap.size w2 from fun w' h => h.calls (works_any w'))
    have HC1 := Lib.hid (show ∀ w', KeepW W0 W0.heap.size w' → Calls Try.prog 12 #[.agg #[.int .i64 v, .slice A cs.length ca]] w' fun e w2 => e = .returned (.int .i64 q) ∧ KeepW W0 W0.heap.size w2 from fun w' h => h.calls (by rw [hq.out]; exact check_any v _ cs w' (HA.out.below h.1) (by have := HFT.out; omega)))
    have HC2 := Lib.hid (show ∀ w', KeepW W0 W0.heap.size w' → Calls Try.prog 13 #[.agg #[.int .i64 v, .slice A cs.length ca]] w' fun e w2 => e = .returned (.int .i64 q) ∧ KeepW W0 W0.heap.size w2 from fun w' h => h.calls (by rw [hq.out]; exact refCheck_any v _ cs w' (HA.out.below h.1) (by have := HFT.out; omega)))
    have HN1 := Lib.hid (show ∀ w', KeepW W0 W0.heap.size w' → Calls Try.prog 15 #[.agg #[.int .i64 v, .slice A cs.length ca]] w' fun e w2 => e = .returned (.int .i64 n) ∧ KeepW W0 W0.heap.size w2 from fun w' h => h.calls (by rw [hn.out]; exact count_any v _ cs w' (HA.out.below h.1) (by have := HFT.out; omega)))
    have HN2 := Lib.hid (show ∀ w', KeepW W0 W0.heap.size w' → Calls Try.prog 16 #[.agg #[.int .i64 v, .slice A cs.length ca]] w' fun e w2 => e = .returned (.int .i64 n) ∧ KeepW W0 W0.heap.size w2 from fun w' h => h.calls (by rw [hn.out]; exact refCount_any v _ cs w' (HA.out.below h.1) (by have := HFT.out; omega)))
    have hk0 := KeepW.start (Nat.le_refl W0.heap.size)
    have hqe : (q == q) = true := by simp
    have hne : (n == n) = true := by simp
    clear hq hn
    go_upto_region 3 with (go_at_call 10; refine HF.out.mono ?_; rintro e w' ⟨rfl, hw⟩; obtain rfl := hw.symm)
    go_region_held3 (fun w' => (w'.cell? ⟨w.heap.size, 0, none⟩ = some (.int .i64 v) ∧ w'.cell? ⟨w.heap.size, 1, none⟩ = some (.slice A cs.length ca)) ∧ KeepW W0 W0.heap.size w') (first | exact HKK.out _ (by assumption) | exact HKK.out _ (KeepW.drew (by assumption)) | go_keep) (first | (go_at_call 12; refine (HC1.out _ (by first | assumption | exact KeepW.drew (by assumption))).mono ?_; rintro e w4 ⟨rfl, hk4⟩) | (go_at_call 14; refine (HPL.out _ (by first | assumption | exact KeepW.drew (by assumption))).mono ?_; rintro e w5 ⟨rfl, hk5⟩) | (go_at_call 13; refine (HC2.out _ (by first | assumption | exact KeepW.drew (by assumption))).mono ?_; rintro e w6 ⟨rfl, hk6⟩) | (go_at_call 15; refine (HN1.out _ (by first | assumption | exact KeepW.drew (by assumption))).mono ?_; rintro e w7 ⟨rfl, hk7⟩) | (go_at_call 16; refine (HN2.out _ (by first | assumption | exact KeepW.drew (by assumption))).mono ?_; rintro e w8 ⟨rfl, hk8⟩) | (go_at_call 11; refine (HWK.out _ (by first | assumption | exact KeepW.drew (by assumption))).mono ?_; rintro e w9 ⟨rfl, hk9⟩))
    all_goals
      go_wp2
      go_ret
      exact ⟨rfl, HBB.out.trans ((show KeepW W0 W0.heap.size _ by assumption).1.mono HBB.out.size)⟩
end Go.Proofs.Ytapaoccpbcjgeaa

/- cnf: the law CnfSound. -/
namespace Go.Proofs.Ytapaoccpbcjgeaa.Cnf
theorem goOn_mem (cs : List (List Int)) : ∀ (f : Nat) (set : List Int) (x : Int), x ∈ (goOn f cs set).1 → x ∈ set ∨ ∃ c ∈ cs, x ∈ c
  | 0, set, x, h => .inl h
  | f + 1, set, x, h => by
    rw [goOn] at h
    by_cases hc : clashB cs set = true
    · rw [if_pos hc] at h; exact .inl h
    · rw [if_neg hc] at h
      cases hu : firstU cs set with
      | none => rw [hu] at h; exact .inl h
      | some y =>
        rw [hu] at h
        obtain ⟨c, hcm, hl⟩ := first_in cs set y hu
        have hy : y ∈ c := ((mem_left c set y).1 (by rw [hl]; simp)).1
        rcases goOn_mem cs f (set ++ [y]) x h with h2 | h2
        · rcases List.mem_append.1 h2 with h3 | h3
          · exact .inl h3
          · rw [List.mem_singleton.1 h3]; exact .inr ⟨c, hcm, hy⟩
        · exact .inr h2
end Go.Proofs.Ytapaoccpbcjgeaa.Cnf
namespace Go.Proofs.Ytapaoccpbcjgeaa
open Go.RowKit Go.BigFrame
open Cnf (litB countN leftL heldB firstsI unitsF bothB IsNorm trueB holdB absI)

theorem holdsN_true {v : Int} {cs : List (List Int)} {ms : List Bool} (h : holdsN v cs ms = true) : checkN v cs = 0 ∧ v ≤ ms.length ∧ holdB ms cs = true := by
  unfold holdsN at h
  rw [Bool.and_eq_true, decide_eq_true_eq] at h
  exact ⟨h.1.1, h.1.2, h.2⟩
theorem lit_iff {v x : Int} : litB v x = true ↔ x ≠ 0 ∧ -v ≤ x ∧ x ≤ v := by unfold litB; rw [decide_eq_true_eq]
theorem lit_abs {v x : Int} {n : Nat} (h : litB v x = true) (hv : v ≤ n) : x ≠ 0 ∧ absI x ≤ n := by
  have := lit_iff.1 h
  unfold absI
  exact ⟨this.1, by omega⟩
theorem sound_all {v : Int} {cs : List (List Int)} {lits : List Int} {ms : List Bool} (hh : holdsN v cs ms = true) (hl : ∀ j, j < lits.length → litB v (lits.getD j 0) = true ∧ trueB ms (lits.getD j 0) = true) :
    uBit v cs lits = false ∧ ∀ x ∈ uRow v cs lits, x ≠ 0 ∧ absI x ≤ ms.length ∧ trueB ms x = true := by
  obtain ⟨h1, h2, h3⟩ := holdsN_true hh
  have hc := check_ok h1
  have hg : goodB v cs lits = true := good_true h1 fun j hj => (hl j hj).1
  have hm : ∀ x ∈ lits, litB v x = true ∧ trueB ms x = true := by
    intro x hx
    obtain ⟨j, hj, rfl⟩ := List.getElem_of_mem hx
    have := hl j hj
    have e : lits.getD j 0 = lits[j] := by simp [List.getD, hj]
    rw [e] at this
    exact this
  have hs := Cnf.units_sound ms cs lits h3 (fun c hcm x hx => (hc.2.2.2 c hcm x hx).1) (fun x hx => (hm x hx).2) (fun x hx => (lit_iff.1 (hm x hx).1).1)
  unfold uBit uRow
  rw [if_pos hg, if_pos hg]
  refine ⟨hs.2, fun x hx => ?_⟩
  have ht := hs.1 x hx
  rcases Cnf.goOn_mem cs _ _ x hx with h | ⟨c, hcm, hxc⟩
  · have := lit_abs (hm x ((Cnf.mem_firstsI lits x).1 h)).1 h2
    exact ⟨this.1, this.2, ht⟩
  · have := hc.2.2.2 c hcm x hxc
    exact ⟨this.1, by omega, ht⟩
theorem lits_step {v : Int} {lits : List Int} {ms : List Bool} {k : Nat} (h : ∀ j, j < k → litB v (lits.getD j 0) = true ∧ trueB ms (lits.getD j 0) = true) (h2 : litB v (lits.getD k 0) = true ∧ trueB ms (lits.getD k 0) = true) : ∀ j, j < k + 1 → litB v (lits.getD j 0) = true ∧ trueB ms (lits.getD j 0) = true := by
  intro j hj
  by_cases e : j = k
  · rw [e]; exact h2
  · exact h j (by omega)
theorem row_mem {l : List Int} {k : Nat} (h : k < l.length) : l.getD k 0 ∈ l := by simp [List.getD, h]

set_option maxRecDepth 100000 in
set_option maxHeartbeats 8000000 in
theorem cnfSound_walk (v : Int) (a : Value) (cs : List (List Int)) (lv : Value) (lits : List Int) (mv : Value) (ms : List Bool) (w : World) (ha : RowsAt w a cs) (hl : IRow w AllB lv lits) (hm : BoolR w AllB mv ms) : Calls Try.prog 7 #[.agg #[.int .i64 v, a], lv, mv] w fun e w' => e = .returned (.bool true) ∧ Below w.heap.size w w' := by
  obtain ⟨A, ca, rfl, hla, hma⟩ := ha.form
  obtain ⟨A2, cb, rfl, hlb, hmb⟩ := RdS.form hl
  obtain ⟨A3, cc, rfl, hlc, hmc⟩ := RdS.form hm
  unfold maxLen at hma hmb hmc
  go_enter Try.func7, Try.ntmps7
  go_upto_region 1 with (fail)
  obtain ⟨W0, hW0, hg0, hb0, hz0', hbb⟩ := row_at w w (.cells #[.int .i64 v, .slice A cs.length ca] 24) (Below.refl _ _)
  rw [← hW0]
  have HA := Lib.hid (ha.below hb0)
  have HS := Lib.hid (RdS.below hl hb0)
  have HM := Lib.hid (RdS.below hm hb0)
  have HG0 := Lib.hid hg0
  have hzz : w.heap.size < W0.heap.size := by omega
  have HBB := Lib.hid hbb
  obtain ⟨hc0, hc1, hf0, hf1⟩ := cell_two hg0
  clear hW0 ha hl hm hb0 hz0' hg0 hbb
  have HF := Lib.hid (few_any v _ cs 150 W0 (by omega) HA.out)
  cases hfw : fewB v cs 150
  · rw [hfw] at HF
    clear hfw
    go_wp2_with fail
    refine HF.out.mono ?_
    rintro e w' ⟨rfl, hw⟩
    obtain rfl := hw.symm
    go_wp2_with fail
    refine (works_b w _ HBB.out).mono ?_
    rintro e w' ⟨rfl, hb⟩
    go_wp2
    go_ret
    exact ⟨rfl, hb⟩
  · rw [hfw] at HF
    have HFT := Lib.hid (few_true hfw)
    clear hfw
    by_cases h60 : lits.length ≤ 60
    · have h60' : ¬ (60 : Int) < (lits.length : Int) := by omega
      by_cases h200 : ms.length ≤ 200
      · have h200' : ¬ (200 : Int) < (ms.length : Int) := by omega
        have HU1 := Lib.hid (holds_any v _ _ cs ms W0 HA.out HM.out (by have := HFT.out; omega))
        cases hho : holdsN v cs ms
        · rw [hho] at HU1
          clear hho
          go_wp2_with fail
          refine HF.out.mono ?_
          rintro e w' ⟨rfl, hw⟩
          obtain rfl := hw.symm
          go_wp2_with fail
          refine HU1.out.mono ?_
          rintro e w1 ⟨rfl, hb1⟩
          have HB1 := Lib.hid (below_step HBB.out hb1 HBB.out.size)
          clear hb1
          go_wp2_with fail
          refine (works_b w _ HB1.out).mono ?_
          rintro e w' ⟨rfl, hb⟩
          go_wp2
          go_ret
          exact ⟨rfl, hb⟩
        · rw [hho] at HU1
          have HHO := Lib.hid hho
          clear hho
          have hv0 := (check_ok (holdsN_true HHO.out).1).1
          have hv1 := (check_ok (holdsN_true HHO.out).1).2.1
          have hvm := (holdsN_true HHO.out).2.1
          go_wp2_with fail
          refine HF.out.mono ?_
          rintro e w' ⟨rfl, hw⟩
          obtain rfl := hw.symm
          go_wp2_with fail
          refine HU1.out.mono ?_
          rintro e w1 ⟨rfl, hb1⟩
          have HB1 := Lib.hid (below_step HBB.out hb1 HBB.out.size)
          have HA1 := Lib.hid (HA.out.below hb1)
          have HS1 := Lib.hid (RdS.below HS.out hb1)
          have HM1 := Lib.hid (RdS.below HM.out hb1)
          have HG1 := Lib.hid ((hb1.block w.heap.size hzz).trans HG0.out)
          obtain ⟨hd0, hd1, _, _⟩ := cell_two HG1.out
          have hz1 := hb1.size
          clear hb1 hc0 hc1 hf0 hf1 HU1
          go_wp2
          go_loop [7] (fun iv => ∃ k : Nat, k ≤ lits.length ∧ iv = .int .i64 k ∧ Hid (∀ j, j < k → litB v (lits.getD j 0) = true ∧ trueB ms (lits.getD j 0) = true)) (fun iv => lits.length - (intOf iv).toNat)
          case atStart => exact ⟨0, by omega, rfl, Lib.hid fun j hj => by omega⟩
          case round =>
            obtain ⟨k, hk, rfl, HK⟩ := hrel
            by_cases hlt : k < lits.length
            · obtain ⟨ad, rfl, hcx⟩ := IRow.get HS1.out k hlt
              obtain ⟨x, hx⟩ : ∃ x, Hid (x = lits.getD k 0) := ⟨_, Lib.hid rfl⟩
              rw [← hx.out] at hcx
              have hk' : (k : Int) < (lits.length : Int) := by omega
              by_cases hx0 : x = 0
              · subst hx0
                go_wp2_with fail
                refine (works_b w _ HB1.out).mono ?_
                rintro e w' ⟨rfl, hb⟩
                go_wp2
                go_ret
                exact ⟨rfl, hb⟩
              · have hx0' : (x == 0) = false := by simpa using hx0
                by_cases hx1 : v < x
                · go_wp2_with fail
                  refine (works_b w _ HB1.out).mono ?_
                  rintro e w' ⟨rfl, hb⟩
                  go_wp2
                  go_ret
                  exact ⟨rfl, hb⟩
                · by_cases hx2 : x < -v
                  · go_wp2_with fail
                    refine (works_b w _ HB1.out).mono ?_
                    rintro e w' ⟨rfl, hb⟩
                    go_wp2
                    go_ret
                    exact ⟨rfl, hb⟩
                  · have HLX := Lib.hid (show litB v x = true from lit_iff.2 ⟨hx0, by omega, by omega⟩)
                    have HT := Lib.hid (true_any x _ ms AllB w1 HM1.out hx0 (lit_abs HLX.out hvm).2)
                    cases htx : trueB ms x
                    · rw [htx] at HT
                      clear htx
                      go_wp2_with fail
                      refine HT.out.mono ?_
                      rintro e w' ⟨rfl, hw⟩
                      obtain rfl := hw.symm
                      go_wp2_with fail
                      refine (works_b w _ HB1.out).mono ?_
                      rintro e w' ⟨rfl, hb⟩
                      go_wp2
                      go_ret
                      exact ⟨rfl, hb⟩
                    · rw [htx] at HT
                      have HK2 : Hid (∀ j, j < k + 1 → litB v (lits.getD j 0) = true ∧ trueB ms (lits.getD j 0) = true) := Lib.hid (lits_step HK.out (by rw [← hx.out]; exact ⟨HLX.out, htx⟩))
                      clear htx
                      go_wp2_with fail
                      refine HT.out.mono ?_
                      rintro e w' ⟨rfl, hw⟩
                      obtain rfl := hw.symm
                      go_wp2
                      go_round
                      case rel => exact ⟨k + 1, by omega, by go_num, HK2⟩
                      case measure => simp [intOf]; omega
            · have hk' : ¬ (k : Int) < (lits.length : Int) := by omega
              have HK2 := Lib.hid (sound_all HHO.out (fun j hj => HK.out j (by omega)))
              clear HK
              have HU2 := Lib.hid (unit_any v _ _ cs lits w1 HA1.out HS1.out (by have := HFT.out; omega) (by have := HFT.out; omega) (by omega))
              go_wp2_with fail
              refine HU2.out.mono ?_
              rintro e w2 h1
              obtain ⟨A4, c4, rfl, hb2, hi1⟩ := unit_q h1
              obtain ⟨S, hS⟩ : ∃ S, Hid (S = uRow v cs lits) := ⟨_, Lib.hid rfl⟩
              rw [← hS.out] at hi1
              rw [← hS.out, HK2.out.1]
              have HSM : Hid (∀ x ∈ S, x ≠ 0 ∧ absI x ≤ ms.length ∧ trueB ms x = true) := Lib.hid (by rw [hS.out]; exact HK2.out.2)
              obtain ⟨A5, c5, h5, h5a, h5b⟩ := RdS.form hi1
              unfold maxLen at h5b
              have HI1 := Lib.hid hi1
              have HB2 := Lib.hid (below_step HB1.out hb2 HB1.out.size)
              have HM2 := Lib.hid (RdS.below HM1.out hb2)
              clear hi1 hb2 h1 HU2 h5 HK2 hd0 hd1
              go_wp2
              go_loop [11] (fun iv => ∃ m : Nat, m ≤ S.length ∧ iv = .int .i64 m) (fun iv => S.length - (intOf iv).toNat)
              case atStart => exact ⟨0, by omega, rfl⟩
              case round =>
                obtain ⟨m, hm, rfl⟩ := hrel
                by_cases hlm : m < S.length
                · obtain ⟨ad, rfl, hcx⟩ := IRow.get HI1.out m hlm
                  have hx := HSM.out _ (row_mem hlm)
                  obtain ⟨x, hxx⟩ : ∃ x, Hid (x = S.getD m 0) := ⟨_, Lib.hid rfl⟩
                  rw [← hxx.out] at hcx hx
                  have HT := Lib.hid (true_any x _ ms AllB w2 HM2.out hx.1 hx.2.1)
                  rw [hx.2.2] at HT
                  have hm' : (m : Int) < (S.length : Int) := by omega
                  clear hx
                  go_wp2_with fail
                  refine HT.out.mono ?_
                  rintro e w' ⟨rfl, hw⟩
                  obtain rfl := hw.symm
                  go_wp2
                  go_round
                  case rel => exact ⟨m + 1, by omega, by go_num⟩
                  case measure => simp [intOf]; omega
                · have hm' : ¬ (m : Int) < (S.length : Int) := by omega
                  go_wp2_with fail
                  refine (works_b w _ HB2.out).mono ?_
                  rintro e w' ⟨rfl, hb⟩
                  go_wp2
                  go_ret
                  exact ⟨rfl, hb⟩
      · have h200' : (200 : Int) < (ms.length : Int) := by omega
        go_wp2_with fail
        refine HF.out.mono ?_
        rintro e w' ⟨rfl, hw⟩
        obtain rfl := hw.symm
        go_wp2_with fail
        refine (works_b w _ HBB.out).mono ?_
        rintro e w' ⟨rfl, hb⟩
        go_wp2
        go_ret
        exact ⟨rfl, hb⟩
    · have h60' : (60 : Int) < (lits.length : Int) := by omega
      go_wp2_with fail
      refine HF.out.mono ?_
      rintro e w' ⟨rfl, hw⟩
      obtain rfl := hw.symm
      go_wp2_with fail
      refine (works_b w _ HBB.out).mono ?_
      rintro e w' ⟨rfl, hb⟩
      go_wp2
      go_ret
      exact ⟨rfl, hb⟩
end Go.Proofs.Ytapaoccpbcjgeaa

/- cnf: the law CnfNormal. -/
namespace Go.Proofs.Ytapaoccpbcjgeaa
open Go.RowKit Go.BigFrame
open Cnf (litB countN leftL heldB firstsI unitsF bothB IsNorm trueB holdB absI)

theorem check_zero {v : Int} {cs : List (List Int)} (h0 : 0 ≤ v) (h1 : v ≤ 100000) (h2 : countN cs ≤ 1000000) (h3 : okN v cs = true) : checkN v cs = 0 := by
  unfold checkN
  rw [if_neg (by omega), if_neg (by omega), if_pos h3]
theorem check_okN {v : Int} {cs : List (List Int)} (h : checkN v cs = 0) : okN v cs = true := by
  unfold checkN at h
  split at h
  · cases h
  · split at h
    · cases h
    · split at h
      · assumption
      · cases h
theorem ok_one {v : Int} {c : List Int} : okN v [c] = c.all (litB v) := by unfold okN; simp
theorem count_one (c : List Int) : countN [c] = c.length := by unfold countN; simp
theorem norm_ok {c : List Int} (h : checkN 60 [c] = 0) : normOk c = true := by
  have := check_okN h
  rw [ok_one, List.all_eq_true] at this
  unfold normOk
  rw [List.all_eq_true]
  intro x hx
  have := lit_iff.1 (this x hx)
  exact lit_iff.2 ⟨this.1, by omega, by omega⟩
theorem norm_check {c l : List Int} (h : checkN 60 [c] = 0) (hl : IsNorm c l) : checkN 60 [l] = 0 := by
  have h1 := check_okN h
  rw [ok_one, List.all_eq_true] at h1
  have h2 := (check_ok h).2.2.1
  rw [count_one] at h2
  have h3 := norm_len hl
  refine check_zero (by omega) (by omega) (by rw [count_one]; omega) ?_
  rw [ok_one, List.all_eq_true]
  intro x hx
  exact h1 x ((hl.mem x).1 hx)
theorem holds_one {c : List Int} {ms : List Bool} (h : checkN 60 [c] = 0) (hm : ms.length = 60) : holdsN 60 [c] ms = c.any (trueB ms) := by
  unfold holdsN
  rw [decide_eq_true ⟨h, by omega⟩, Bool.true_and]
  unfold holdB
  simp
theorem normal_both {c l : List Int} {ms : List Bool} {x : Bool} (h : checkN 60 [c] = 0) (hm : ms.length = 60) (hr : NormRes c l x) : (x = true ∧ l = [] ∧ holdsN 60 [c] ms = true) ∨ (x = false ∧ holdsN 60 [l] ms = holdsN 60 [c] ms) := by
  rcases hr with ⟨h1, _⟩ | ⟨_, h2, rfl, rfl⟩ | ⟨_, _, hl, rfl⟩
  · rw [norm_ok h] at h1; cases h1
  · refine .inl ⟨rfl, rfl, ?_⟩
    rw [holds_one h hm]
    have hc := (check_ok h).2.2.2
    exact Cnf.both_holds ms c (fun x hx => (hc c (by simp) x hx).1) h2
  · refine .inr ⟨rfl, ?_⟩
    rw [holds_one h hm, holds_one (norm_check h hl) hm]
    exact Cnf.norm_holds ms c l hl

theorem one_row (W : World) (u : Value) (c : List Int) (h : IRow W AllB u c) : ∃ w1, w1 = W.alloc (.cells #[u] 35) ∧ RowsAt w1 (.slice (some ⟨W.heap.size, 0, none⟩) 1 1) [c] ∧ Below W.heap.size W w1 ∧ w1.heap.size = W.heap.size + 1 :=
  ⟨_, rfl, rows_new W #[u] 35 [c] rfl (by simp) (fun k u' x hu hx => by
    match k with
    | 0 => cases hu; cases hx; exact h
    | k + 1 => cases hx), (Below.refl _ _).alloc (Nat.le_refl _) _, by simp⟩

set_option maxRecDepth 100000 in
set_option maxHeartbeats 8000000 in
theorem cnfNormal_walk (cv : Value) (c : List Int) (mv : Value) (ms : List Bool) (w : World) (hl : IRow w AllB cv c) (hm : BoolR w AllB mv ms) : Calls Try.prog 8 #[cv, mv] w fun e w' => e = .returned (.bool true) ∧ Below w.heap.size w w' := by
  obtain ⟨A, ca, rfl, hla, hma⟩ := RdS.form hl
  obtain ⟨A2, cb, rfl, hlb, hmb⟩ := RdS.form hm
  unfold maxLen at hma hmb
  go_enter Try.func8, Try.ntmps8
  go_upto_region 2 with (fail)
  obtain ⟨v1, hv1, hr1, hb1, hz1⟩ := one_row w _ c hl
  rw [← hv1]
  obtain ⟨v2, hv2, hg2, hb2, hz2, hbb2⟩ := row_at w v1 (.cells #[.int .i64 60, .slice (some ⟨w.heap.size, 0, none⟩) 1 1] 24) hb1
  rw [← hv2]
  have HR := Lib.hid (hr1.below hb2)
  rw [hz1] at hg2
  have HG := Lib.hid hg2
  have HB := Lib.hid hbb2
  have HC := Lib.hid (show IRow v2 AllB (.slice A c.length ca) c from RdS.below hl hbb2)
  have HM := Lib.hid (show BoolR v2 AllB (.slice A2 ms.length cb) ms from RdS.below hm hbb2)
  have hzz : w.heap.size + 1 < v2.heap.size := by omega
  clear hv1 hr1 hb1 hz1 hv2 hg2 hb2 hz2 hbb2 hl hm
  obtain ⟨hc0, hc1, hf0, hf1⟩ := cell_two HG.out
  by_cases h30 : c.length ≤ 30
  · have h30' : ¬ (30 : Int) < (c.length : Int) := by omega
    by_cases h60 : ms.length = 60
    · have h60' : ((ms.length : Int) != 60) = false := by rw [h60]; rfl
      have H60 := Lib.hid h60
      clear h60
      have HU := Lib.hid (check_any 60 _ [c] v2 HR.out (by rw [count_one]; omega))
      by_cases hck : checkN 60 [c] = 0
      · have HCK := Lib.hid hck
        rw [hck] at HU
        clear hck
        go_wp2_with fail
        refine HU.out.mono ?_
        rintro e w1 ⟨rfl, hb1⟩
        have HB1 := Lib.hid (below_step HB.out hb1 HB.out.size)
        have HR1 := Lib.hid (HR.out.below hb1)
        have HC1 := Lib.hid (RdS.below HC.out hb1)
        have HM1 := Lib.hid (RdS.below HM.out hb1)
        have HG1 := Lib.hid ((hb1.block (w.heap.size + 1) hzz).trans HG.out)
        have hz1 := hb1.size
        clear hb1 hc0 hc1 hf0 hf1 HU
        go_wp2_with fail
        refine (norm_any _ c w1 HC1.out (by omega)).mono ?_
        rintro e w2 h2
        obtain ⟨A4, c4, l, x, rfl, hn2, hb2, ho2⟩ := norm_r h2
        have HI := Lib.hid (show IRow w2 AllB (.slice A4 l.length c4) l from RdS.all (RdS.own ho2))
        have hln := normRes_len hn2
        have HN := Lib.hid (normal_both HCK.out H60.out hn2)
        have HB2 := Lib.hid (below_step HB1.out hb2 HB1.out.size)
        have HR2 := Lib.hid (HR1.out.below hb2)
        have HM2 := Lib.hid (RdS.below HM1.out hb2)
        have HG2 := Lib.hid ((hb2.block (w.heap.size + 1) (by omega)).trans HG1.out)
        have hz2 := hb2.size
        obtain ⟨hc0, hc1, _, _⟩ := cell_two HG2.out
        clear hb2 ho2 hn2 h2
        have HH := Lib.hid (holds_any 60 _ _ [c] ms w2 HR2.out HM2.out (by rw [count_one]; omega))
        obtain ⟨hb, hhb⟩ : ∃ b, Hid (b = holdsN 60 [c] ms) := ⟨_, Lib.hid rfl⟩
        rw [← hhb.out] at HH
        rcases HN.out with ⟨hx, hl0, hh⟩ | ⟨hx, hh⟩
        · subst hx
          subst hl0
          rw [← hhb.out] at hh
          rw [hh] at HH
          clear hh HN
          go_wp2_with fail
          refine HH.out.mono ?_
          rintro e w3 ⟨rfl, hb3⟩
          have HB3 := Lib.hid (below_step HB2.out hb3 HB2.out.size)
          clear hb3 hc0 hc1
          go_wp2_with fail
          refine (works_b w _ HB3.out).mono ?_
          rintro e w' ⟨rfl, hb⟩
          go_wp2
          go_ret
          exact ⟨rfl, hb⟩
        · subst hx
          rw [← hhb.out] at hh
          have HHE := Lib.hid hh
          clear hh HN
          go_wp2_with fail
          refine HH.out.mono ?_
          rintro e w3 ⟨rfl, hb3⟩
          have HB3 := Lib.hid (below_step HB2.out hb3 HB2.out.size)
          have HI3 := Lib.hid (show IRow w3 AllB (.slice A4 l.length c4) l from RdS.below HI.out hb3)
          have HM3 := Lib.hid (RdS.below HM2.out hb3)
          clear hb3 hc0 hc1
          obtain ⟨w4, hw4, hr4, hb4, hz4⟩ := one_row w3 _ l HI3.out
          have HW4 := Lib.hid hw4
          have HB4 := Lib.hid (below_step HB3.out hb4 HB3.out.size)
          have HM4 := Lib.hid (RdS.below HM3.out hb4)
          have HH2 := Lib.hid (holds_any 60 _ _ [l] ms w4 hr4 HM4.out (by rw [count_one]; omega))
          rw [HHE.out, HW4.out] at HH2
          rw [HW4.out] at HB4
          clear hw4 hr4 hb4 hz4 HM4
          have hbe : (hb == hb) = true := by simp
          go_wp2_with fail
          refine HH2.out.mono ?_
          rintro e w5 ⟨rfl, hb5⟩
          have HB5 := Lib.hid (below_step HB4.out hb5 HB4.out.size)
          clear hb5
          go_wp2_with fail
          refine (works_b w _ HB5.out).mono ?_
          rintro e w' ⟨rfl, hb⟩
          go_wp2
          go_ret
          exact ⟨rfl, hb⟩
      · have hq : (checkN 60 [c] != 0) = true := by rw [bne_iff_ne]; exact hck
        generalize checkN 60 [c] = q at *
        go_wp2_with fail
        refine HU.out.mono ?_
        rintro e w1 ⟨rfl, hb1⟩
        have HB1 := Lib.hid (below_step HB.out hb1 HB.out.size)
        clear hb1 hck
        go_wp2_with fail
        refine (works_b w _ HB1.out).mono ?_
        rintro e w' ⟨rfl, hb⟩
        go_wp2
        go_ret
        exact ⟨rfl, hb⟩
    · have h60' : ((ms.length : Int) != 60) = true := by rw [bne_iff_ne]; omega
      clear h60
      go_wp2_with fail
      refine (works_b w _ HB.out).mono ?_
      rintro e w' ⟨rfl, hb⟩
      go_wp2
      go_ret
      exact ⟨rfl, hb⟩
  · have h30' : (30 : Int) < (c.length : Int) := by omega
    go_wp2_with fail
    refine (works_b w _ HB.out).mono ?_
    rintro e w' ⟨rfl, hb⟩
    go_wp2
    go_ret
    exact ⟨rfl, hb⟩
end Go.Proofs.Ytapaoccpbcjgeaa
