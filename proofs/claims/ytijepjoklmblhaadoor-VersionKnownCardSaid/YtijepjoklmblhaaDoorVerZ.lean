/- The walk of the law VersionCompare. -/
import Derived.Test.YtijepjoklmblhaaDoorVerY
namespace Go.Proofs.YtijepjoklmblhaaDoor
open Go.RowKit Go.BigFrame
open Ver (prs cmpV BL)

/-- What lay below block B in a world lies there still. -/
def KeepW (W1 : World) (B : Nat) (w' : World) : Prop := Below B W1 w' ∧ B ≤ w'.heap.size
theorem KeepW.start {W : World} {B : Nat} (h : B ≤ W.heap.size) : KeepW W B W := ⟨Below.refl _ _, h⟩
theorem KeepW.drew {W1 w' : World} {B : Nat} (h : KeepW W1 B w') : KeepW W1 B w'.drew := ⟨h.1.drew, h.2⟩
theorem KeepW.step {W1 w' w2 : World} {B : Nat} (h : KeepW W1 B w') (h2 : Below w'.heap.size w' w2) : KeepW W1 B w2 := ⟨below_step h.1 h2 h.2, Nat.le_trans h.2 h2.size⟩
theorem KeepW.calls {P : Program} {f : FuncId} {args : Array Value} {v : Value} {W1 w' : World} {B : Nat} (h : KeepW W1 B w') (hc : Calls P f args w' fun e w2 => e = .returned v ∧ Below w'.heap.size w' w2) : Calls P f args w' fun e w2 => e = .returned v ∧ KeepW W1 B w2 :=
  hc.mono fun _ _ ⟨he, hb⟩ => ⟨he, h.step hb⟩
theorem Reads.form {w : World} {B : Nat} {v : Value} {xs : List Int} (h : Reads w B v (ints xs)) : ∃ A cap, v = .slice A xs.length cap := by
  obtain ⟨A, cap, e, _⟩ := h; rw [ints_len] at e; exact ⟨A, cap, e⟩
set_option maxRecDepth 100000 in
set_option maxHeartbeats 400000 in
theorem plain_any (A : Option Addr) (n cap : Nat) (p : ByteArray) (w : World) : Calls Tryd.prog 9 #[.agg #[.slice A n cap, .string p]] w fun e w' => e = .returned (.agg #[.slice A n cap, .string p]) ∧ Below w.heap.size w w' := by
  go_enter Tryd.func9, Tryd.ntmps9
  go_wp2
  refine bodyPost_ret (v := .agg #[.slice A n cap, .string p]) (by simp [results, Tryd.results9, go_sem]) rfl ⟨rfl, ?_⟩
  exact ((Below.refl _ _).alloc (Nat.le_refl _) _).alloc (by simp) _
theorem bool_eqs (b : Bool) : (b == b) = true := by cases b <;> rfl
set_option maxRecDepth 100000 in
set_option maxHeartbeats 4000000 in
theorem versionCompare_walk (a : Value) (xs : List Int) (p : ByteArray) (b : Value) (ys : List Int) (q : ByteArray) (s t : ByteArray) (w : World) (ha : Reads w w.heap.size a (ints xs)) (hb : Reads w w.heap.size b (ints ys)) (hs : s.size ≤ maxLen) (ht : t.size ≤ maxLen) :
    Calls Tryd.prog 16 #[.agg #[a, .string p], .agg #[b, .string q], .string s, .string t] w fun e w' => e = .returned (.bool true) ∧ Below w.heap.size w w' := by
  unfold maxLen at hs ht
  obtain ⟨A, ca, rfl⟩ := ha.form
  obtain ⟨A', cb, rfl⟩ := hb.form
  have HRA := Lib.hid ha
  have HRB := Lib.hid hb
  clear ha hb
  by_cases hall : xs.length ≤ 100 ∧ ys.length ≤ 100 ∧ p.size ≤ 100 ∧ q.size ≤ 100 ∧ s.size ≤ 100 ∧ t.size ≤ 100
  · obtain ⟨h1, h2, h3, h4, h5, h6⟩ := hall
    go_enter Tryd.func16, Tryd.ntmps16
    go_upto_region 1 with (fail)
    obtain ⟨W1, hW1, hg0, hg1, hb1, hz1⟩ := rows2 w (.cells #[.slice A xs.length ca, .string p] 24) (.cells #[.slice A' ys.length cb, .string q] 24)
    rw [← hW1]
    clear hW1
    have hR1 := (HRA.out.below hb1).more hb1.size
    have hR2 := (HRB.out.below hb1).more hb1.size
    obtain ⟨hc0, hc1, _, _⟩ := cell_two hg0
    obtain ⟨hd0, hd1, _, _⟩ := cell_two hg1
    have hkk : ∀ w', KeepW W1 W1.heap.size w' → (w'.cell? ⟨w.heap.size, 0, none⟩ = some (.slice A xs.length ca) ∧ w'.cell? ⟨w.heap.size, 1, none⟩ = some (.string p) ∧ w'.cell? ⟨w.heap.size + 1, 0, none⟩ = some (.slice A' ys.length cb) ∧ w'.cell? ⟨w.heap.size + 1, 1, none⟩ = some (.string q)) ∧ KeepW W1 W1.heap.size w' := fun w' h =>
      ⟨⟨(h.1.cell (by show w.heap.size < _; omega)).trans hc0, (h.1.cell (by show w.heap.size < _; omega)).trans hc1, (h.1.cell (by show w.heap.size + 1 < _; omega)).trans hd0, (h.1.cell (by show w.heap.size + 1 < _; omega)).trans hd1⟩, h⟩
    have hcm : ∀ w', KeepW W1 W1.heap.size w' → Calls Tryd.prog 11 #[.agg #[.slice A xs.length ca, .string p], .agg #[.slice A' ys.length cb, .string q]] w' fun e w2 => e = .returned (.int .i64 (cmpV (xs, p.data.toList) (ys, q.data.toList))) ∧ KeepW W1 W1.heap.size w2 := fun w' h =>
      h.calls ((compare_any _ _ xs ys p q W1.heap.size w' (hR1.below h.1) (hR2.below h.1) h.2 (by omega) (by omega)).mono fun _ _ ⟨he, hg⟩ => ⟨he, hg.below⟩)
    have hrc : ∀ w', KeepW W1 W1.heap.size w' → Calls Tryd.prog 34 #[.agg #[.slice A xs.length ca, .string p], .agg #[.slice A' ys.length cb, .string q]] w' fun e w2 => e = .returned (.int .i64 (cmpV (xs, p.data.toList) (ys, q.data.toList))) ∧ KeepW W1 W1.heap.size w2 := fun w' h =>
      h.calls (refCompare_any _ _ xs ys p q W1.heap.size w' (hR1.below h.1) (hR2.below h.1) h.2 (by omega) (by omega))
    have hpl : ∀ A n cap p w', KeepW W1 W1.heap.size w' → Calls Tryd.prog 9 #[.agg #[.slice A n cap, .string p]] w' fun e w2 => e = .returned (.agg #[.slice A n cap, .string p]) ∧ KeepW W1 W1.heap.size w2 := fun A n cap p w' h => h.calls (plain_any A n cap p w')
    have hwk : ∀ w', KeepW W1 W1.heap.size w' → Calls Tryd.prog 6 #[] w' fun e w2 => e = .returned (.bool true) ∧ KeepW W1 W1.heap.size w2 := fun w' h => h.calls (works_any w')
    have HKK := Lib.hid hkk
    have HCM := Lib.hid hcm
    have HRC := Lib.hid hrc
    have HPL := Lib.hid hpl
    have HWK := Lib.hid hwk
    have HK0 := Lib.hid (KeepW.start (Nat.le_refl W1.heap.size))
    have HB1 := Lib.hid hb1
    clear hkk hcm hrc hpl hwk hR1 hR2 hg0 hg1 hb1 HRA HRB
    go_upto_region 4 with (go_at_call 18; refine (texts_any s t _ (by omega) (by omega)).mono ?_; rintro e w2 ⟨rfl, hb2⟩)
    have HK2 := Lib.hid (HK0.out.step hb2)
    clear hb2 hc0 hc1 hd0 hd1
    go_upto_region 5 with (go_at_call 33; refine (refTexts_any s t _ (by omega) (by omega)).mono ?_; rintro e w3 ⟨rfl, hb3⟩)
    have hk3 := HK2.out.step hb3
    obtain ⟨⟨hc0, hc1, hd0, hd1⟩, _⟩ := HKK.out _ hk3
    obtain ⟨cc, hcc⟩ : ∃ cc, cc = cmpV (xs, p.data.toList) (ys, q.data.toList) := ⟨_, rfl⟩
    rw [← hcc] at HCM HRC
    obtain ⟨cs, hcs⟩ : ∃ cs, cs = cmpS s t := ⟨_, rfl⟩
    obtain ⟨ob, hob⟩ : ∃ ob, ob = okST s t := ⟨_, rfl⟩
    rw [← hcs, ← hob]
    clear hb3 hcc hcs hob
    have e1 : (cc == cc) = true := by simp
    have e2 : (cs == cs) = true := by simp
    have e3 : (ob == ob) = true := bool_eqs ob
    go_region_held3 (fun w' => (w'.cell? ⟨w.heap.size, 0, none⟩ = some (.slice A xs.length ca) ∧ w'.cell? ⟨w.heap.size, 1, none⟩ = some (.string p) ∧ w'.cell? ⟨w.heap.size + 1, 0, none⟩ = some (.slice A' ys.length cb) ∧ w'.cell? ⟨w.heap.size + 1, 1, none⟩ = some (.string q)) ∧ KeepW W1 W1.heap.size w') (first | exact HKK.out _ (by assumption) | exact HKK.out _ (KeepW.drew (by assumption)) | go_keep) (first | (go_at_call 11; refine (HCM.out _ (by first | assumption | exact KeepW.drew (by assumption))).mono ?_; rintro e w4 ⟨rfl, hk4⟩) | (go_at_call 9; refine (HPL.out _ _ _ _ _ (by first | assumption | exact KeepW.drew (by assumption))).mono ?_; rintro e w5 ⟨rfl, hk5⟩) | (go_at_call 34; refine (HRC.out _ (by first | assumption | exact KeepW.drew (by assumption))).mono ?_; rintro e w6 ⟨rfl, hk6⟩) | (go_at_call 6; refine (HWK.out _ (by first | assumption | exact KeepW.drew (by assumption))).mono ?_; rintro e w7 ⟨rfl, hk7⟩))
    all_goals
      go_wp2
      go_ret
      exact ⟨rfl, HB1.out.trans ((show KeepW W1 W1.heap.size _ by assumption).1.mono HB1.out.size)⟩
  · have hR : ∀ wk : World, Below w.heap.size w wk → Calls Tryd.prog 6 #[] wk fun e w2 => e = .returned (.bool true) ∧ Below w.heap.size w w2 := fun wk h => (works_any wk).mono fun _ _ ⟨he, hb⟩ => ⟨he, below_step h hb h.size⟩
    have HW := Lib.hid hR
    have HH : 100 < xs.length ∨ (xs.length ≤ 100 ∧ 100 < ys.length) ∨ (xs.length ≤ 100 ∧ ys.length ≤ 100 ∧ 100 < p.size) ∨ (xs.length ≤ 100 ∧ ys.length ≤ 100 ∧ p.size ≤ 100 ∧ 100 < q.size) ∨ (xs.length ≤ 100 ∧ ys.length ≤ 100 ∧ p.size ≤ 100 ∧ q.size ≤ 100 ∧ 100 < s.size) ∨ (xs.length ≤ 100 ∧ ys.length ≤ 100 ∧ p.size ≤ 100 ∧ q.size ≤ 100 ∧ s.size ≤ 100 ∧ 100 < t.size) := by omega
    clear hall hR
    rcases HH with h1 | ⟨h1, h2⟩ | ⟨h1, h2, h3⟩ | ⟨h1, h2, h3, h4⟩ | ⟨h1, h2, h3, h4, h5⟩ | ⟨h1, h2, h3, h4, h5, h6⟩
    all_goals
      go_enter Tryd.func16, Tryd.ntmps16
      go_wp2_with (go_at_call 6; refine (HW.out _ (((Below.refl _ _).alloc (Nat.le_refl _) _).alloc (by simp) _)).mono ?_; rintro e w2 ⟨rfl, hb2⟩)
      go_ret
      exact ⟨rfl, hb2⟩
end Go.Proofs.YtijepjoklmblhaaDoor
