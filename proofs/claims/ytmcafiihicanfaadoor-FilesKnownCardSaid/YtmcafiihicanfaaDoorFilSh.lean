/- files: the reference's may, Right. -/
import Derived.Test.YtmcafiihicanfaaDoorFilSg
import Derived.Test.YtmcafiihicanfaaDoorFmU
import Derived.Deep.RegionHeld3
set_option linter.unusedVariables false
set_option linter.unusedSimpArgs false
namespace Go.Proofs.YtmcafiihicanfaaDoor
open Go Go.RowKit Go.BigFrame
open Fil (Es Nd Sp nameB ltS namesB)

/-- Names that rise behind one, if there is one, and nodes that may be. -/
def mayF : Option ByteArray → Es → Bool
  | _, .nil => true
  | none, .cons nm k d s nx => nameB nm && Nd.may ⟨k, d, s⟩ && mayF (some nm) nx
  | some l, .cons nm k d s nx => nameB nm && ltS l nm && Nd.may ⟨k, d, s⟩ && mayF (some nm) nx
theorem mayF_some : ∀ (es : Es) (l : ByteArray), mayF (some l) es = (namesB l es && es.may)
  | .nil, _ => rfl
  | .cons nm k d s nx, l => by
    simp only [mayF, namesB, Es.may, Nd.may, mayF_some nx nm]
    cases nameB nm <;> cases ltS l nm <;> cases Fil.okB k d s <;> cases s.may <;> cases namesB nm nx <;> cases nx.may <;> rfl
theorem less_nil (l : List UInt8) : Op.bytesLess l [] = false := by cases l <;> rfl
theorem lt_empty {nm : ByteArray} (h : nameB nm = true) : ltS ⟨#[]⟩ nm = true := by
  unfold Fil.ltS
  have e : (⟨#[]⟩ : ByteArray).toList = [] := by rw [Lib.toList_data]
  rw [e, less_nil]
  clear e
  have h1 : 1 ≤ nm.size := by
    unfold Fil.nameB at h
    simp only [Bool.and_eq_true, decide_eq_true_eq] at h
    exact h.1.1.1.1
  have hs := Lib.size_eq nm
  rw [Lib.toList_data]
  cases hl : nm.data.toList with
  | nil => rw [hl] at hs; rw [hs] at h1; simp at h1
  | cons b l => rfl
theorem mayF_none : ∀ es : Es, mayF none es = (namesB ⟨#[]⟩ es && es.may)
  | .nil => rfl
  | .cons nm k d s nx => by
    simp only [mayF, namesB, Es.may, Nd.may, mayF_some nx nm]
    cases hn : nameB nm with
    | false => simp
    | true =>
      rw [lt_empty hn]
      cases Fil.okB k d s <;> cases s.may <;> cases namesB nm nx <;> cases nx.may <;> rfl
theorem empty_size (d : ByteArray) : d.toList.isEmpty = decide (d.size = 0) := by
  have hs := Lib.size_eq d
  rw [Lib.toList_data]
  cases hl : d.data.toList with
  | nil => rw [hl] at hs; simp at hs; simp [hs]
  | cons b l => rw [hl] at hs; simp at hs; simp [hs]
theorem may_dir (d : ByteArray) (es : Es) : Nd.may ⟨4, d, es⟩ = (d.toList.isEmpty && mayF none es) := by
  unfold Nd.may Fil.okB
  simp only [if_neg (show ¬ ((4 : Nat) = 1 ∨ (4 : Nat) = 2) by omega), if_neg (show ¬ (4 : Nat) = 3 by omega), if_true]
  rw [mayF_none, empty_size, Bool.and_assoc]
theorem drop_headN : ∀ (es : Es) (i : Nat), i < es.len → ∃ k d s, dropE i es = .cons (nmE es i) k d s (dropE (i + 1) es) ∧ kidE es i = ⟨k, d, s⟩
  | .nil, _, h => by simp [Es.len] at h
  | .cons nm k d s nx, 0, _ => ⟨k, d, s, by simp [dropE, nmE], rfl⟩
  | .cons nm k d s nx, i + 1, h => by
    obtain ⟨k', d', s', h1, h2⟩ := drop_headN nx i (by simp [Es.len] at h; omega)
    exact ⟨k', d', s', by simp only [dropE, nmE] at h1 ⊢; exact h1, h2⟩
def prevN (es : Es) : Nat → Option ByteArray
  | 0 => none
  | j + 1 => some (nmE es j)
theorem mayF_zero {es : Es} (h : 0 < es.len) : mayF (prevN es 0) (dropE 0 es) = (nameB (nmE es 0) && Nd.may (kidE es 0) && mayF (prevN es 1) (dropE 1 es)) := by
  obtain ⟨k, d, s, h1, h2⟩ := drop_headN es 0 h
  rw [h1, h2]; rfl
theorem mayF_succ {es : Es} {j : Nat} (h : j + 1 < es.len) : mayF (prevN es (j + 1)) (dropE (j + 1) es) = (nameB (nmE es (j + 1)) && ltS (nmE es j) (nmE es (j + 1)) && Nd.may (kidE es (j + 1)) && mayF (prevN es (j + 1 + 1)) (dropE (j + 1 + 1) es)) := by
  obtain ⟨k, d, s, h1, h2⟩ := drop_headN es (j + 1) h
  rw [h1, h2]; rfl
set_option maxRecDepth 1000000 in
set_option maxRecDepth 100000 in
set_option maxHeartbeats 4000000 in
theorem refMay_any : ∀ (m : Nat) (nd : Nd), nd.es.count ≤ m → nd.es.count ≤ 1000000000 → ∀ (w : World) (B : Nat), B ≤ w.heap.size → ∀ v, NdV w B v nd →
    Calls Tryd.prog 42 #[v] w fun e W => e = .returned (.bool nd.may) ∧ Below w.heap.size w W := by
  intro m
  induction m using Nat.strongRecOn with
  | ind m ih =>
  intro nd hm hbd w B hB v hv
  obtain ⟨kk, d, es⟩ := nd
  by_cases h1 : kk = 1
  · exact refMay_file kk d es (.inl h1) w B v hv
  by_cases h2 : kk = 2
  · exact refMay_file kk d es (.inr h2) w B v hv
  by_cases h3 : kk = 3
  · subst h3; exact refMay_link d es w B v hv
  by_cases h4 : kk = 4
  rotate_left
  · exact refMay_other kk d es h1 h2 h3 h4 w B v hv
  subst h4
  clear h1 h2 h3
  simp only at hm hbd
  obtain ⟨ev, rfl, hes, hd, _⟩ := hv
  simp only at hes hd
  obtain ⟨A, c, rfl, hlc, hcm⟩ := hes.form
  have HIH := Lib.hid (And.intro ih hm)
  clear ih hm
  have HM := Lib.hid (may_dir d es)
  obtain ⟨W0, e0, hg0, hb0, hz0⟩ : ∃ W0, W0 = w.alloc (.cells #[.int .u8 4, .string d, .slice A es.len c] 26) ∧ W0.heap[w.heap.size]? = some (.cells #[.int .u8 4, .string d, .slice A es.len c] 26 (0, 0)) ∧ Below w.heap.size w W0 ∧ W0.heap.size = w.heap.size + 1 := ⟨_, rfl, heap_alloc_new _ _, (Below.refl _ _).alloc (Nat.le_refl _) _, by simp⟩
  go_enter Tryd.func42, Tryd.ntmps42
  go_upto_region 1 with (fail)
  rw [← e0]
  obtain ⟨hn0, hn1, hn2, _⟩ := nd_box (W := W0) (k := 4) (d := d) (v := .slice A es.len c) hg0
  have HB := Lib.hid (And.intro hg0 (And.intro hb0 hz0))
  have HES := Lib.hid hes
  clear e0 hg0 hb0 hz0 hes hn1 hn2
  go_wp2
  clear hn0
  go_loopg [4] es.len (fun g u4 wx => ∃ i : Nat, u4 = .int .i64 (i : Int) ∧ i + g = es.len ∧ Hid (KeepW W0 W0.heap.size wx ∧ Nd.may ⟨4, d, es⟩ = (d.toList.isEmpty && mayF (prevN es i) (dropE i es))))
  case atStart => exact ⟨0, rfl, by omega, KeepW.start (Nat.le_refl _), by rw [HM.out]; simp [dropE, prevN]⟩
  case round =>
    obtain ⟨i, rfl, hig, HI⟩ := hrel
    have HBL := Lib.hid (below_step HB.out.2.1 HI.out.1.1 (by have := HB.out.2.2; omega))
    obtain ⟨hn0, hn1, hn2, _⟩ := nd_box (W := wr) (k := 4) (d := d) (v := .slice A es.len c) ((HI.out.1.1.block w.heap.size (by have := HB.out.2.2; omega)).trans HB.out.1)
    clear hn0
    cases gk with
    | zero =>
      obtain rfl : i = es.len := by omega
      have HF := Lib.hid (show Nd.may ⟨4, d, es⟩ = d.toList.isEmpty by
        rw [HI.out.2, drop_all]
        have : mayF (prevN es es.len) .nil = true := by cases prevN es es.len <;> rfl
        rw [this, Bool.and_true])
      rcases Bool.eq_false_or_eq_true d.toList.isEmpty with hq | hq
      all_goals
        have HQ := Lib.hid hq
        go_wp2
        go_ret
        exact ⟨by rw [HF.out, HQ.out]; rfl, HBL.out⟩
    | succ g =>
      have hil : i < es.len := by omega
      obtain ⟨ab, ao, rfl, hlt, hcs⟩ := es_addr HES.out (by omega)
      have hBW : B ≤ W0.heap.size := by have := HB.out.2.2; omega
      obtain ⟨hnc0, hnz⟩ := name_at hcs hil
      have hnc : wr.cell? ⟨ab, ao + i * 4, none⟩ = some (.string (nmE es i)) := (HBL.out.cell (p := ⟨ab, ao + i * 4, none⟩) (by show ab < _; omega)).trans hnc0
      have hiI : (i : Int) < (es.len : Int) := by omega
      have hi0' : (0 : Int) ≤ (i : Int) := by omega
      have hw2 : IntKind.i64.wrap ((i : Int) + 1) = (i : Int) + 1 := IntWalk.i64_in _ (by unfold maxLen at hcm; omega)
      have hkc := kid_count es i hil
      obtain ⟨hk1, hk2, hk3, hk4, A2, c2, hk5, hk6⟩ := kid_at hcs hil hlt
      have HNM := Lib.hid (fun (w' : World) (h : KeepW wr wr.heap.size w') => (refName_any (nmE es i) hnz w').mono (fun e W hq => show e = .returned (.bool (nameB (nmE es i))) ∧ KeepW wr wr.heap.size W from ⟨hq.1, by rw [hq.2]; exact h⟩))
      have HREC := Lib.hid (fun (w' : World) (h : KeepW wr wr.heap.size w') => h.calls (HIH.out.1 (kidE es i).es.count (by have := HIH.out.2; omega) (kidE es i) (Nat.le_refl _) (by omega) w' B (by have := h.2; have := HBL.out.size; omega) _ ⟨_, rfl, hk6.keep ((below_step HBL.out h.1 HBL.out.size).mono hB), hk3, hk4⟩))
      have HK0 := Lib.hid (KeepW.start (Nat.le_refl wr.heap.size))
      have hzz : w.heap.size + 1 ≤ wr.heap.size := by have := HB.out.2.2; have := HI.out.1.2; omega
      have HX := Lib.hid (And.intro hlt hcs)
      clear hcs hnc0 hkc
      rcases Bool.eq_false_or_eq_true (nameB (nmE es i)) with hn | hn
      rotate_left
      · have HF := Lib.hid (show Nd.may ⟨4, d, es⟩ = false by
          rw [HI.out.2]
          cases i with
          | zero => rw [mayF_zero hil, hn]; simp
          | succ j => rw [mayF_succ hil, hn]; simp)
        have HNQ := Lib.hid (fun (w' : World) => refName_any (nmE es i) hnz w')
        rw [hn] at HNQ
        clear hk1 hk2 hk5 hk6 hzz hlt HREC hn HNM
        go_wp2
        go_quiet ((go_at_call 11; refine (HNQ.out _).mono ?_; rintro e w' ⟨rfl, rfl⟩; exact ⟨rfl, _, rfl⟩))
        go_wp2
        go_ret
        exact ⟨by rw [HF.out]; rfl, below_drewN HBL.out _⟩
      rw [hn] at HNM
      cases i with
      | zero =>
        simp only [Nat.zero_mul, Nat.add_zero] at hnc hk1 hk2 hk5
        have HEQ := Lib.hid (show Nd.may ⟨4, d, es⟩ = (d.toList.isEmpty && (Nd.may (kidE es 0) && mayF (prevN es (0 + 1)) (dropE (0 + 1) es))) by rw [HI.out.2, mayF_zero hil, hn]; simp)
        obtain ⟨p, hp⟩ : ∃ p, p = kidE es 0 := ⟨_, rfl⟩
        rw [← hp] at hk1 hk2 hk3 hk4 hk5 hk6 HREC HEQ
        have HCL := Lib.hid (fun (w' : World) (h : KeepW wr wr.heap.size w') => show (w'.cell? ⟨w.heap.size, 2, none⟩ = some (.slice (some ⟨ab, ao, none⟩) es.len c) ∧ w'.cell? ⟨ab, ao, none⟩ = some (.string (nmE es 0))) ∧ w'.cell? ⟨ab, ao + 1, none⟩ = some (.int .u8 (p.k : Int)) ∧ w'.cell? ⟨ab, ao + 2, none⟩ = some (.string p.d) ∧ w'.cell? ⟨ab, ao + 3, none⟩ = some (.slice A2 p.es.len c2) from ⟨⟨(h.1.cell (p := ⟨w.heap.size, 2, none⟩) (by show w.heap.size < _; omega)).trans hn2, (h.1.cell (p := ⟨ab, ao, none⟩) (by show ab < _; have := HX.out.1; omega)).trans hnc⟩, ((below_step HBL.out h.1 HBL.out.size).cell (p := ⟨ab, ao + 1, none⟩) (by show ab < _; have := HX.out.1; omega)).trans hk1, ((below_step HBL.out h.1 HBL.out.size).cell (p := ⟨ab, ao + 2, none⟩) (by show ab < _; have := HX.out.1; omega)).trans hk2, ((below_step HBL.out h.1 HBL.out.size).cell (p := ⟨ab, ao + 3, none⟩) (by show ab < _; have := HX.out.1; omega)).trans hk5⟩)
        clear hk1 hk2 hk5 hk6 hzz hp hlt hn
        go_wp2
        refine wp_region_held (S := fun w' => (w'.cell? ⟨w.heap.size, 2, none⟩ = some (.slice (some ⟨ab, ao, none⟩) es.len c) ∧ w'.cell? ⟨ab, ao, none⟩ = some (.string (nmE es 0))) ∧ w'.cell? ⟨ab, ao + 1, none⟩ = some (.int .u8 (p.k : Int)) ∧ w'.cell? ⟨ab, ao + 2, none⟩ = some (.string p.d) ∧ w'.cell? ⟨ab, ao + 3, none⟩ = some (.slice A2 p.es.len c2)) (by kernel_rfl) ?_
        have hS := HCL.out _ (KeepW.drew HK0.out)
        change wpAnyH _ _ _ _ _ _ _ _ wr.drew
        refine wpAnyH_take (i := 0) rfl (by kernel_rfl) (by kernel_rfl) (by kernel_rfl) (fun _ _ _ h => h) (v := .pointer (some ⟨w.heap.size, 2, none⟩)) ?_ hS ?_
        · exact Or.inl ⟨by kernel_rfl, fun wx hSx => by (try dsimp only at hSx); go_simp⟩
        simp only [Act.put, List.setIfInBounds_toArray, List.set_cons_zero, List.set_cons_succ]
        refine wpAnyH_take (i := 1) rfl (by kernel_rfl) (by kernel_rfl) (by kernel_rfl) (fun _ _ _ h => h) (v := .slice (some ⟨ab, ao, none⟩) es.len c) ?_ hS ?_
        · exact Or.inl ⟨by kernel_rfl, fun wx hSx => by (try dsimp only at hSx); go_simp⟩
        simp only [Act.put, List.setIfInBounds_toArray, List.set_cons_zero, List.set_cons_succ]
        refine wpAnyH_take (i := 2) rfl (by kernel_rfl) (by kernel_rfl) (by kernel_rfl) (fun _ _ _ h => h) (v := .int .i64 0) ?_ hS ?_
        · exact Or.inl ⟨by kernel_rfl, fun wx hSx => by (try dsimp only at hSx); go_simp⟩
        simp only [Act.put, List.setIfInBounds_toArray, List.set_cons_zero, List.set_cons_succ]
        refine wpAnyH_take (i := 3) rfl (by kernel_rfl) (by kernel_rfl) (by kernel_rfl) (fun _ _ _ h => h) (v := .pointer (some ⟨ab, ao, none⟩)) ?_ hS ?_
        · exact Or.inl ⟨by kernel_rfl, fun wx hSx => by (try dsimp only at hSx); go_simp⟩
        simp only [Act.put, List.setIfInBounds_toArray, List.set_cons_zero, List.set_cons_succ]
        refine wpAnyH_take (i := 4) rfl (by kernel_rfl) (by kernel_rfl) (by kernel_rfl) (fun _ _ _ h => h) (v := .pointer (some ⟨ab, ao, none⟩)) ?_ hS ?_
        · exact Or.inl ⟨by kernel_rfl, fun wx hSx => by (try dsimp only at hSx); go_simp⟩
        simp only [Act.put, List.setIfInBounds_toArray, List.set_cons_zero, List.set_cons_succ]
        refine wpAnyH_take (i := 5) rfl (by kernel_rfl) (by kernel_rfl) (by kernel_rfl) (fun _ _ _ h => h) (v := .string (nmE es 0)) ?_ hS ?_
        · exact Or.inl ⟨by kernel_rfl, fun wx hSx => by (try dsimp only at hSx); go_simp⟩
        simp only [Act.put, List.setIfInBounds_toArray, List.set_cons_zero, List.set_cons_succ]
        refine wpAnyH_ready (rs := [6]) (by kernel_rfl) (by simp) ?_
        refine AllReadyH.cons rfl (fun K hK => ?_) AllReadyH.nil
        go_simp
        refine (HNM.out _ (KeepW.drew HK0.out)).mono ?_
        rintro e W2 ⟨rfl, hk2⟩
        dsimp only
        refine hK.out _ _ (HCL.out _ hk2) (fun hS2 => ?_)
        clear hK K hS
        try simp only [Act.put, List.setIfInBounds_toArray, List.set_cons_zero, List.set_cons_succ]
        refine wpAnyH_take (i := 7) rfl (by kernel_rfl) (by kernel_rfl) (by kernel_rfl) (fun _ _ _ h => h) (v := .bool false) ?_ hS2 ?_
        · exact Or.inl ⟨by kernel_rfl, fun wx hSx => by (try dsimp only at hSx); go_simp⟩
        simp only [Act.put, List.setIfInBounds_toArray, List.set_cons_zero, List.set_cons_succ]
        refine wpAnyH_take (i := 8) rfl (by kernel_rfl) (by kernel_rfl) (by kernel_rfl) (fun _ _ _ h => h) (v := .bool false) ?_ hS2 ?_
        · exact Or.inl ⟨by kernel_rfl, fun wx hSx => by (try dsimp only at hSx); go_simp⟩
        simp only [Act.put, List.setIfInBounds_toArray, List.set_cons_zero, List.set_cons_succ]
        refine wpAnyH_take (i := 9) rfl (by kernel_rfl) (by kernel_rfl) (by kernel_rfl) (fun _ _ _ h => h) (v := .int .i64 0) ?_ hS2 ?_
        · exact Or.inl ⟨by kernel_rfl, fun wx hSx => by (try dsimp only at hSx); go_simp⟩
        simp only [Act.put, List.setIfInBounds_toArray, List.set_cons_zero, List.set_cons_succ]
        refine wpAnyH_take (i := 10) rfl (by kernel_rfl) (by kernel_rfl) (by kernel_rfl) (fun _ _ _ h => h) (v := .bool false) ?_ hS2 ?_
        · exact Or.inl ⟨by kernel_rfl, fun wx hSx => by (try dsimp only at hSx); go_simp⟩
        simp only [Act.put, List.setIfInBounds_toArray, List.set_cons_zero, List.set_cons_succ]
        refine wpAnyH_take (i := 11) rfl (by kernel_rfl) (by kernel_rfl) (by kernel_rfl) (fun _ _ _ h => h) (v := .bool false) ?_ hS2 ?_
        · exact Or.inl ⟨by kernel_rfl, fun wx hSx => by (try dsimp only at hSx); go_simp⟩
        simp only [Act.put, List.setIfInBounds_toArray, List.set_cons_zero, List.set_cons_succ]
        refine wpAnyH_take (i := 12) rfl (by kernel_rfl) (by kernel_rfl) (by kernel_rfl) (fun _ _ _ h => h) (v := undef) ?_ hS2 ?_
        · exact Or.inr ⟨by kernel_rfl, rfl⟩
        simp only [Act.put, List.setIfInBounds_toArray, List.set_cons_zero, List.set_cons_succ]
        refine wpAnyH_take (i := 13) rfl (by kernel_rfl) (by kernel_rfl) (by kernel_rfl) (fun _ _ _ h => h) (v := undef) ?_ hS2 ?_
        · exact Or.inr ⟨by kernel_rfl, rfl⟩
        simp only [Act.put, List.setIfInBounds_toArray, List.set_cons_zero, List.set_cons_succ]
        refine wpAnyH_take (i := 14) rfl (by kernel_rfl) (by kernel_rfl) (by kernel_rfl) (fun _ _ _ h => h) (v := undef) ?_ hS2 ?_
        · exact Or.inr ⟨by kernel_rfl, rfl⟩
        simp only [Act.put, List.setIfInBounds_toArray, List.set_cons_zero, List.set_cons_succ]
        refine wpAnyH_take (i := 15) rfl (by kernel_rfl) (by kernel_rfl) (by kernel_rfl) (fun _ _ _ h => h) (v := undef) ?_ hS2 ?_
        · exact Or.inr ⟨by kernel_rfl, rfl⟩
        simp only [Act.put, List.setIfInBounds_toArray, List.set_cons_zero, List.set_cons_succ]
        refine wpAnyH_take (i := 16) rfl (by kernel_rfl) (by kernel_rfl) (by kernel_rfl) (fun _ _ _ h => h) (v := undef) ?_ hS2 ?_
        · exact Or.inr ⟨by kernel_rfl, rfl⟩
        simp only [Act.put, List.setIfInBounds_toArray, List.set_cons_zero, List.set_cons_succ]
        refine wpAnyH_take (i := 17) rfl (by kernel_rfl) (by kernel_rfl) (by kernel_rfl) (fun _ _ _ h => h) (v := undef) ?_ hS2 ?_
        · exact Or.inr ⟨by kernel_rfl, rfl⟩
        simp only [Act.put, List.setIfInBounds_toArray, List.set_cons_zero, List.set_cons_succ]
        refine wpAnyH_take (i := 18) rfl (by kernel_rfl) (by kernel_rfl) (by kernel_rfl) (fun _ _ _ h => h) (v := undef) ?_ hS2 ?_
        · exact Or.inr ⟨by kernel_rfl, rfl⟩
        simp only [Act.put, List.setIfInBounds_toArray, List.set_cons_zero, List.set_cons_succ]
        refine wpAnyH_take (i := 19) rfl (by kernel_rfl) (by kernel_rfl) (by kernel_rfl) (fun _ _ _ h => h) (v := undef) ?_ hS2 ?_
        · exact Or.inr ⟨by kernel_rfl, rfl⟩
        simp only [Act.put, List.setIfInBounds_toArray, List.set_cons_zero, List.set_cons_succ]
        refine wpAnyH_take (i := 20) rfl (by kernel_rfl) (by kernel_rfl) (by kernel_rfl) (fun _ _ _ h => h) (v := undef) ?_ hS2 ?_
        · exact Or.inr ⟨by kernel_rfl, rfl⟩
        simp only [Act.put, List.setIfInBounds_toArray, List.set_cons_zero, List.set_cons_succ]
        refine wpAnyH_take (i := 21) rfl (by kernel_rfl) (by kernel_rfl) (by kernel_rfl) (fun _ _ _ h => h) (v := undef) ?_ hS2 ?_
        · exact Or.inr ⟨by kernel_rfl, rfl⟩
        simp only [Act.put, List.setIfInBounds_toArray, List.set_cons_zero, List.set_cons_succ]
        refine wpAnyH_take (i := 22) rfl (by kernel_rfl) (by kernel_rfl) (by kernel_rfl) (fun _ _ _ h => h) (v := undef) ?_ hS2 ?_
        · exact Or.inr ⟨by kernel_rfl, rfl⟩
        simp only [Act.put, List.setIfInBounds_toArray, List.set_cons_zero, List.set_cons_succ]
        refine wpAnyH_take (i := 23) rfl (by kernel_rfl) (by kernel_rfl) (by kernel_rfl) (fun _ _ _ h => h) (v := undef) ?_ hS2 ?_
        · exact Or.inr ⟨by kernel_rfl, rfl⟩
        simp only [Act.put, List.setIfInBounds_toArray, List.set_cons_zero, List.set_cons_succ]
        refine wpAnyH_take (i := 24) rfl (by kernel_rfl) (by kernel_rfl) (by kernel_rfl) (fun _ _ _ h => h) (v := undef) ?_ hS2 ?_
        · exact Or.inr ⟨by kernel_rfl, rfl⟩
        simp only [Act.put, List.setIfInBounds_toArray, List.set_cons_zero, List.set_cons_succ]
        refine wpAnyH_take (i := 25) rfl (by kernel_rfl) (by kernel_rfl) (by kernel_rfl) (fun _ _ _ h => h) (v := undef) ?_ hS2 ?_
        · exact Or.inr ⟨by kernel_rfl, rfl⟩
        simp only [Act.put, List.setIfInBounds_toArray, List.set_cons_zero, List.set_cons_succ]
        refine wpAnyH_take (i := 26) rfl (by kernel_rfl) (by kernel_rfl) (by kernel_rfl) (fun _ _ _ h => h) (v := .bool false) ?_ hS2 ?_
        · exact Or.inl ⟨by kernel_rfl, fun wx hSx => by (try dsimp only at hSx); go_simp⟩
        simp only [Act.put, List.setIfInBounds_toArray, List.set_cons_zero, List.set_cons_succ]
        refine wpAnyH_take (i := 27) rfl (by kernel_rfl) (by kernel_rfl) (by kernel_rfl) (fun _ _ _ h => h) (v := .bool false) ?_ hS2 ?_
        · exact Or.inl ⟨by kernel_rfl, fun wx hSx => by (try dsimp only at hSx); go_simp⟩
        simp only [Act.put, List.setIfInBounds_toArray, List.set_cons_zero, List.set_cons_succ]
        refine wpAnyH_take (i := 28) rfl (by kernel_rfl) (by kernel_rfl) (by kernel_rfl) (fun _ _ _ h => h) (v := .bool false) ?_ hS2 ?_
        · exact Or.inl ⟨by kernel_rfl, fun wx hSx => by (try dsimp only at hSx); go_simp⟩
        simp only [Act.put, List.setIfInBounds_toArray, List.set_cons_zero, List.set_cons_succ]
        refine wpAnyH_take (i := 29) rfl (by kernel_rfl) (by kernel_rfl) (by kernel_rfl) (fun _ _ _ h => h) (v := .pointer (some ⟨w.heap.size, 2, none⟩)) ?_ hS2 ?_
        · exact Or.inl ⟨by kernel_rfl, fun wx hSx => by (try dsimp only at hSx); go_simp⟩
        simp only [Act.put, List.setIfInBounds_toArray, List.set_cons_zero, List.set_cons_succ]
        refine wpAnyH_take (i := 30) rfl (by kernel_rfl) (by kernel_rfl) (by kernel_rfl) (fun _ _ _ h => h) (v := .slice (some ⟨ab, ao, none⟩) es.len c) ?_ hS2 ?_
        · exact Or.inl ⟨by kernel_rfl, fun wx hSx => by (try dsimp only at hSx); go_simp⟩
        simp only [Act.put, List.setIfInBounds_toArray, List.set_cons_zero, List.set_cons_succ]
        refine wpAnyH_take (i := 31) rfl (by kernel_rfl) (by kernel_rfl) (by kernel_rfl) (fun _ _ _ h => h) (v := .int .i64 0) ?_ hS2 ?_
        · exact Or.inl ⟨by kernel_rfl, fun wx hSx => by (try dsimp only at hSx); go_simp⟩
        simp only [Act.put, List.setIfInBounds_toArray, List.set_cons_zero, List.set_cons_succ]
        refine wpAnyH_take (i := 32) rfl (by kernel_rfl) (by kernel_rfl) (by kernel_rfl) (fun _ _ _ h => h) (v := .pointer (some ⟨ab, ao, none⟩)) ?_ hS2 ?_
        · exact Or.inl ⟨by kernel_rfl, fun wx hSx => by (try dsimp only at hSx); go_simp⟩
        simp only [Act.put, List.setIfInBounds_toArray, List.set_cons_zero, List.set_cons_succ]
        refine wpAnyH_take (i := 33) rfl (by kernel_rfl) (by kernel_rfl) (by kernel_rfl) (fun _ _ _ h => h) (v := .pointer (some ⟨ab, ao + 1, none⟩)) ?_ hS2 ?_
        · exact Or.inl ⟨by kernel_rfl, fun wx hSx => by (try dsimp only at hSx); go_simp⟩
        simp only [Act.put, List.setIfInBounds_toArray, List.set_cons_zero, List.set_cons_succ]
        refine wpAnyH_take (i := 34) rfl (by kernel_rfl) (by kernel_rfl) (by kernel_rfl) (fun _ _ _ h => h) (v := .agg #[.int .u8 (p.k : Int), .string p.d, .slice A2 p.es.len c2]) ?_ hS2 ?_
        · exact Or.inl ⟨by kernel_rfl, fun wx hSx => by (try dsimp only at hSx); go_simp⟩
        simp only [Act.put, List.setIfInBounds_toArray, List.set_cons_zero, List.set_cons_succ]
        refine wpAnyH_ready (rs := [35]) (by kernel_rfl) (by simp) ?_
        refine AllReadyH.cons rfl (fun K hK => ?_) AllReadyH.nil
        go_simp
        refine (HREC.out _ hk2).mono ?_
        rintro e W3 ⟨rfl, hk3⟩
        dsimp only
        refine hK.out _ _ (HCL.out _ hk3) (fun hS3 => ?_)
        clear hK K hS2
        try simp only [Act.put, List.setIfInBounds_toArray, List.set_cons_zero, List.set_cons_succ]
        refine wpAnyH_take (i := 36) rfl (by kernel_rfl) (by kernel_rfl) (by kernel_rfl) (fun _ _ _ h => h) (v := .bool (!p.may)) ?_ hS3 ?_
        · exact Or.inl ⟨by kernel_rfl, fun wx hSx => by (try dsimp only at hSx); go_simp⟩
        simp only [Act.put, List.setIfInBounds_toArray, List.set_cons_zero, List.set_cons_succ]
        refine wpAnyH_take (i := 37) rfl (by kernel_rfl) (by kernel_rfl) (by kernel_rfl) (fun _ _ _ h => h) (v := .bool (!p.may)) ?_ hS3 ?_
        · exact Or.inl ⟨by kernel_rfl, fun wx hSx => by (try dsimp only at hSx); go_simp⟩
        simp only [Act.put, List.setIfInBounds_toArray, List.set_cons_zero, List.set_cons_succ]
        refine wpAnyH_done (by kernel_rfl) ?_ _
        all_goals
          have HB2 := Lib.hid (below_step HBL.out hk3.1 HBL.out.size)
          have HK3 := Lib.hid hk3
          cases hpm : p.may with
          | false =>
            have HF := Lib.hid (show Nd.may ⟨4, d, es⟩ = false by rw [HEQ.out, hpm]; simp)
            go_wp2
            go_ret
            exact ⟨by rw [HF.out]; rfl, HB2.out⟩
          | true =>
            have HF := Lib.hid (show Nd.may ⟨4, d, es⟩ = (d.toList.isEmpty && mayF (prevN es (0 + 1)) (dropE (0 + 1) es)) by rw [HEQ.out, hpm]; simp)
            go_wp2
            go_roundg g
            case measure => omega
            case rel => exact ⟨0 + 1, by simp, by omega, ⟨below_step HI.out.1.1 HK3.out.1 HI.out.1.2, Nat.le_trans HI.out.1.2 HK3.out.2⟩, HF.out⟩
      | succ j =>
        have hpc0 := (name_at HX.out.2 (show j < es.len by omega)).1
        have hpc : wr.cell? ⟨ab, ao + j * 4, none⟩ = some (.string (nmE es j)) := (HBL.out.cell (p := ⟨ab, ao + j * 4, none⟩) (by show ab < _; omega)).trans hpc0
        have hwj : IntKind.i64.wrap (j : Int) = (j : Int) := IntWalk.i64_in _ (by unfold maxLen at hcm; omega)
        clear hpc0
        have hLT : ltS (nmE es j) (nmE es (j + 1)) = !(Op.bytesLess (nmE es (j + 1)).toList (nmE es j).toList || ((nmE es (j + 1)).toList == (nmE es j).toList)) := rfl
        have HLT := Lib.hid hLT
        clear hLT
        have hjI : (j : Int) < (es.len : Int) := by omega
        have hjI1 : (j : Int) + 1 < (es.len : Int) := by omega
        have hj01 : (0 : Int) ≤ (j : Int) + 1 := by omega
        have hw3 : IntKind.i64.wrap ((j : Int) + 1 + 1) = (j : Int) + 1 + 1 := IntWalk.i64_in _ (by unfold maxLen at hcm; omega)
        have hj0 : (0 : Int) ≤ (j : Int) := by omega
        have HNQ := Lib.hid (fun (w' : World) => refName_any (nmE es (j + 1)) hnz w')
        rw [hn] at HNQ
        rcases Bool.eq_false_or_eq_true (Op.bytesLess (nmE es (j + 1)).toList (nmE es j).toList) with hb | hb
        · have HF := Lib.hid (show Nd.may ⟨4, d, es⟩ = false by rw [HI.out.2, mayF_succ hil, HLT.out, hb]; simp)
          clear hk1 hk2 hk5 hk6 hzz hlt HREC hn HNM
          go_wp2
          go_quiet ((go_at_call 11; refine (HNQ.out _).mono ?_; rintro e w' ⟨rfl, rfl⟩; exact ⟨rfl, _, rfl⟩))
          go_wp2
          go_ret
          exact ⟨by rw [HF.out]; rfl, below_drewN HBL.out _⟩
        rcases Bool.eq_false_or_eq_true ((nmE es (j + 1)).toList == (nmE es j).toList) with hq | hq
        · have HF := Lib.hid (show Nd.may ⟨4, d, es⟩ = false by rw [HI.out.2, mayF_succ hil, HLT.out, hb, hq]; simp)
          clear hk1 hk2 hk5 hk6 hzz hlt HREC hn HNM
          go_wp2
          go_quiet ((go_at_call 11; refine (HNQ.out _).mono ?_; rintro e w' ⟨rfl, rfl⟩; exact ⟨rfl, _, rfl⟩))
          go_wp2
          go_ret
          exact ⟨by rw [HF.out]; rfl, below_drewN HBL.out _⟩
        have HEQ := Lib.hid (show Nd.may ⟨4, d, es⟩ = (d.toList.isEmpty && (Nd.may (kidE es (j + 1)) && mayF (prevN es ((j + 1) + 1)) (dropE ((j + 1) + 1) es))) by rw [HI.out.2, mayF_succ hil, hn, HLT.out, hb, hq]; simp)
        obtain ⟨p, hp⟩ : ∃ p, p = kidE es (j + 1) := ⟨_, rfl⟩
        rw [← hp] at hk1 hk2 hk3 hk4 hk5 hk6 HREC HEQ
        have HCL := Lib.hid (fun (w' : World) (h : KeepW wr wr.heap.size w') => show (w'.cell? ⟨w.heap.size, 2, none⟩ = some (.slice (some ⟨ab, ao, none⟩) es.len c) ∧ w'.cell? ⟨ab, ao + (j + 1) * 4, none⟩ = some (.string (nmE es (j + 1)))) ∧ w'.cell? ⟨ab, ao + j * 4, none⟩ = some (.string (nmE es j)) ∧ w'.cell? ⟨ab, ao + (j + 1) * 4 + 1, none⟩ = some (.int .u8 (p.k : Int)) ∧ w'.cell? ⟨ab, ao + (j + 1) * 4 + 2, none⟩ = some (.string p.d) ∧ w'.cell? ⟨ab, ao + (j + 1) * 4 + 3, none⟩ = some (.slice A2 p.es.len c2) from ⟨⟨(h.1.cell (p := ⟨w.heap.size, 2, none⟩) (by show w.heap.size < _; omega)).trans hn2, (h.1.cell (p := ⟨ab, ao + (j + 1) * 4, none⟩) (by show ab < _; have := HX.out.1; omega)).trans hnc⟩, (h.1.cell (p := ⟨ab, ao + j * 4, none⟩) (by show ab < _; have := HX.out.1; omega)).trans hpc, ((below_step HBL.out h.1 HBL.out.size).cell (p := ⟨ab, ao + (j + 1) * 4 + 1, none⟩) (by show ab < _; have := HX.out.1; omega)).trans hk1, ((below_step HBL.out h.1 HBL.out.size).cell (p := ⟨ab, ao + (j + 1) * 4 + 2, none⟩) (by show ab < _; have := HX.out.1; omega)).trans hk2, ((below_step HBL.out h.1 HBL.out.size).cell (p := ⟨ab, ao + (j + 1) * 4 + 3, none⟩) (by show ab < _; have := HX.out.1; omega)).trans hk5⟩)
        clear hk1 hk2 hk5 hk6 hzz hp hlt hn
        go_wp2
        go_region_held3 (fun w' => (w'.cell? ⟨w.heap.size, 2, none⟩ = some (.slice (some ⟨ab, ao, none⟩) es.len c) ∧ w'.cell? ⟨ab, ao + (j + 1) * 4, none⟩ = some (.string (nmE es (j + 1)))) ∧ w'.cell? ⟨ab, ao + j * 4, none⟩ = some (.string (nmE es j)) ∧ w'.cell? ⟨ab, ao + (j + 1) * 4 + 1, none⟩ = some (.int .u8 (p.k : Int)) ∧ w'.cell? ⟨ab, ao + (j + 1) * 4 + 2, none⟩ = some (.string p.d) ∧ w'.cell? ⟨ab, ao + (j + 1) * 4 + 3, none⟩ = some (.slice A2 p.es.len c2)) (first | exact HCL.out _ (by first | assumption | exact KeepW.drew HK0.out | exact KeepW.drew (by assumption)) | go_keep) (first | (go_at_call 11; refine (HNM.out _ (by first | assumption | exact KeepW.drew HK0.out)).mono ?_; rintro e W2 ⟨rfl, hk2⟩) | (go_at_call 42; refine (HREC.out _ (by first | assumption | exact KeepW.drew HK0.out)).mono ?_; rintro e W3 ⟨rfl, hk3⟩))
        all_goals
          have HB2 := Lib.hid (below_step HBL.out hk3.1 HBL.out.size)
          have HK3 := Lib.hid hk3
          cases hpm : p.may with
          | false =>
            have HF := Lib.hid (show Nd.may ⟨4, d, es⟩ = false by rw [HEQ.out, hpm]; simp)
            go_wp2
            go_ret
            exact ⟨by rw [HF.out]; rfl, HB2.out⟩
          | true =>
            have HF := Lib.hid (show Nd.may ⟨4, d, es⟩ = (d.toList.isEmpty && mayF (prevN es ((j + 1) + 1)) (dropE ((j + 1) + 1) es)) by rw [HEQ.out, hpm]; simp)
            go_wp2
            go_roundg g
            case measure => omega
            case rel => exact ⟨(j + 1) + 1, by simp, by omega, ⟨below_step HI.out.1.1 HK3.out.1 HI.out.1.2, Nat.le_trans HI.out.1.2 HK3.out.2⟩, HF.out⟩
end Go.Proofs.YtmcafiihicanfaaDoor
