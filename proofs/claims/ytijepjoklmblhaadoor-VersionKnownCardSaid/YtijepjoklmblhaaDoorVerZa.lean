/- The walk of the law VersionOrder. -/
import Derived.Test.YtijepjoklmblhaaDoorVerZ
namespace Go.Proofs.YtijepjoklmblhaaDoor
open Go.RowKit Go.BigFrame
open Ver (prs cmpV BL)

theorem rows3' (w : World) (A B C : Obj) : ∃ w1, w1 = ((w.alloc A).alloc B).alloc C ∧ w1.heap[w.heap.size]? = some A ∧ w1.heap[w.heap.size + 1]? = some B ∧ w1.heap[w.heap.size + 2]? = some C ∧ Below w.heap.size w w1 ∧ w1.heap.size = w.heap.size + 3 := rows3 w A B C
theorem same_iff (xs ys : List Int) (p q : ByteArray) : cmpV (xs, p.data.toList) (ys, q.data.toList) = 0 ↔ (xs = ys ∧ p = q) := by
  rw [Ver.cmpV_ord.zero]
  constructor
  · intro h; exact ⟨congrArg Prod.fst h, str_ext (congrArg Prod.snd h)⟩
  · rintro ⟨rfl, rfl⟩; rfl
set_option maxRecDepth 100000 in
set_option maxHeartbeats 4000000 in
theorem versionOrder_walk (a : Value) (xs : List Int) (p : ByteArray) (b : Value) (ys : List Int) (q : ByteArray) (c : Value) (zs : List Int) (r : ByteArray) (w : World) (ha : Reads w w.heap.size a (ints xs)) (hb : Reads w w.heap.size b (ints ys)) (hc : Reads w w.heap.size c (ints zs)) :
    Calls Tryd.prog 17 #[.agg #[a, .string p], .agg #[b, .string q], .agg #[c, .string r]] w fun e w' => e = .returned (.bool true) ∧ Below w.heap.size w w' := by
  obtain ⟨A, ca, rfl⟩ := ha.form
  obtain ⟨A', cb, rfl⟩ := hb.form
  obtain ⟨A'', cc, rfl⟩ := hc.form
  have HRA := Lib.hid ha
  have HRB := Lib.hid hb
  have HRC := Lib.hid hc
  clear ha hb hc
  by_cases hall : xs.length ≤ 100 ∧ ys.length ≤ 100 ∧ zs.length ≤ 100 ∧ p.size ≤ 100 ∧ q.size ≤ 100 ∧ r.size ≤ 100
  · obtain ⟨h1, h2, h3, h4, h5, h6⟩ := hall
    obtain ⟨x, hx⟩ : ∃ x, x = cmpV (xs, p.data.toList) (ys, q.data.toList) := ⟨_, rfl⟩
    obtain ⟨y, hy⟩ : ∃ y, y = cmpV (ys, q.data.toList) (zs, r.data.toList) := ⟨_, rfl⟩
    obtain ⟨z, hz⟩ : ∃ z, z = cmpV (xs, p.data.toList) (zs, r.data.toList) := ⟨_, rfl⟩
    have hanti : cmpV (ys, q.data.toList) (xs, p.data.toList) = -x := by rw [hx]; exact Ver.cmpV_ord.anti _ _
    have hrange : -1 ≤ x ∧ x ≤ 1 := by rw [hx]; exact Ver.cmpV_ord.range _ _
    have htrans : x ≤ 0 → y ≤ 0 → z ≤ 0 := by rw [hx, hy, hz]; exact Ver.cmpV_ord.trans _ _ _
    have hstrict : x < 0 → y ≤ 0 → z < 0 := by rw [hx, hy, hz]; exact Ver.cmpV_ord.strict _ _ _
    have hsame : x = 0 ↔ (xs = ys ∧ p = q) := by rw [hx]; exact same_iff _ _ _ _
    obtain ⟨sb, hsb⟩ : ∃ sb, sb = decide (xs = ys) := ⟨_, rfl⟩
    have hcs : (x = 0 ∧ sb = true ∧ (p.toList == q.toList) = true) ∨ (x ≠ 0 ∧ sb = false) ∨ (x ≠ 0 ∧ sb = true ∧ (p.toList == q.toList) = false) := by
      rw [hsb, str_ne_iff]
      by_cases h1 : xs = ys
      · by_cases h2 : p = q
        · exact .inl ⟨hsame.2 ⟨h1, h2⟩, by simpa using h1, by simpa using h2⟩
        · exact .inr (.inr ⟨fun e => h2 (hsame.1 e).2, by simpa using h1, by simpa using h2⟩)
      · exact .inr (.inl ⟨fun e => h1 (hsame.1 e).1, by simpa using h1⟩)
    have hsg : (x = -1 ∧ decide (y ≤ 0) = true ∧ decide (0 < z) = false ∧ decide (0 ≤ z) = false) ∨ (x = -1 ∧ decide (y ≤ 0) = false) ∨ (x = 0 ∧ decide (y ≤ 0) = true ∧ decide (0 < z) = false) ∨ (x = 0 ∧ decide (y ≤ 0) = false) ∨ x = 1 := by
      have h1 : x = -1 ∨ x = 0 ∨ x = 1 := by omega
      rcases Int.lt_or_le 0 y with hy0 | hy0
      · rcases h1 with h | h | h
        · exact .inr (.inl ⟨h, by simp; omega⟩)
        · exact .inr (.inr (.inr (.inl ⟨h, by simp; omega⟩)))
        · exact .inr (.inr (.inr (.inr h)))
      · rcases h1 with h | h | h
        · exact .inl ⟨h, by simpa using hy0, by have := hstrict (by omega) hy0; simp; omega, by have := hstrict (by omega) hy0; simp; omega⟩
        · exact .inr (.inr (.inl ⟨h, by simpa using hy0, by have := htrans (by omega) hy0; simp; omega⟩))
        · exact .inr (.inr (.inr (.inr h)))
    have HCS := Lib.hid hcs
    have HSG := Lib.hid hsg
    clear hcs hsg
    go_enter Tryd.func17, Tryd.ntmps17
    go_upto_region 1 with (fail)
    obtain ⟨W1, hW1, hg0, hg1, hg2, hb1, hz1⟩ := rows3' w (.cells #[.slice A xs.length ca, .string p] 24) (.cells #[.slice A' ys.length cb, .string q] 24) (.cells #[.slice A'' zs.length cc, .string r] 24)
    rw [← hW1]
    clear hW1
    have hR1 := (HRA.out.below hb1).more hb1.size
    have hR2 := (HRB.out.below hb1).more hb1.size
    have hR3 := (HRC.out.below hb1).more hb1.size
    obtain ⟨hc0, hc1, _, _⟩ := cell_two hg0
    obtain ⟨hd0, hd1, _, _⟩ := cell_two hg1
    obtain ⟨he0, he1, _, _⟩ := cell_two hg2
    have hkk : ∀ w', KeepW W1 W1.heap.size w' → (w'.cell? ⟨w.heap.size, 0, none⟩ = some (.slice A xs.length ca) ∧ w'.cell? ⟨w.heap.size, 1, none⟩ = some (.string p) ∧ w'.cell? ⟨w.heap.size + 1, 0, none⟩ = some (.slice A' ys.length cb) ∧ w'.cell? ⟨w.heap.size + 1, 1, none⟩ = some (.string q) ∧ w'.cell? ⟨w.heap.size + 2, 0, none⟩ = some (.slice A'' zs.length cc) ∧ w'.cell? ⟨w.heap.size + 2, 1, none⟩ = some (.string r)) ∧ KeepW W1 W1.heap.size w' := fun w' h =>
      ⟨⟨(h.1.cell (by show w.heap.size < _; omega)).trans hc0, (h.1.cell (by show w.heap.size < _; omega)).trans hc1, (h.1.cell (by show w.heap.size + 1 < _; omega)).trans hd0, (h.1.cell (by show w.heap.size + 1 < _; omega)).trans hd1, (h.1.cell (by show w.heap.size + 2 < _; omega)).trans he0, (h.1.cell (by show w.heap.size + 2 < _; omega)).trans he1⟩, h⟩
    have hab : ∀ w', KeepW W1 W1.heap.size w' → Calls Tryd.prog 11 #[.agg #[.slice A xs.length ca, .string p], .agg #[.slice A' ys.length cb, .string q]] w' fun e w2 => e = .returned (.int .i64 x) ∧ KeepW W1 W1.heap.size w2 := fun w' h =>
      h.calls ((compare_any _ _ xs ys p q W1.heap.size w' (hR1.below h.1) (hR2.below h.1) h.2 (by omega) (by omega)).mono fun _ _ ⟨he, hg⟩ => ⟨by rw [he, hx], hg.below⟩)
    have hbc : ∀ w', KeepW W1 W1.heap.size w' → Calls Tryd.prog 11 #[.agg #[.slice A' ys.length cb, .string q], .agg #[.slice A'' zs.length cc, .string r]] w' fun e w2 => e = .returned (.int .i64 y) ∧ KeepW W1 W1.heap.size w2 := fun w' h =>
      h.calls ((compare_any _ _ ys zs q r W1.heap.size w' (hR2.below h.1) (hR3.below h.1) h.2 (by omega) (by omega)).mono fun _ _ ⟨he, hg⟩ => ⟨by rw [he, hy], hg.below⟩)
    have hac : ∀ w', KeepW W1 W1.heap.size w' → Calls Tryd.prog 11 #[.agg #[.slice A xs.length ca, .string p], .agg #[.slice A'' zs.length cc, .string r]] w' fun e w2 => e = .returned (.int .i64 z) ∧ KeepW W1 W1.heap.size w2 := fun w' h =>
      h.calls ((compare_any _ _ xs zs p r W1.heap.size w' (hR1.below h.1) (hR3.below h.1) h.2 (by omega) (by omega)).mono fun _ _ ⟨he, hg⟩ => ⟨by rw [he, hz], hg.below⟩)
    have hba : ∀ w', KeepW W1 W1.heap.size w' → Calls Tryd.prog 11 #[.agg #[.slice A' ys.length cb, .string q], .agg #[.slice A xs.length ca, .string p]] w' fun e w2 => e = .returned (.int .i64 (-x)) ∧ KeepW W1 W1.heap.size w2 := fun w' h =>
      h.calls ((compare_any _ _ ys xs q p W1.heap.size w' (hR2.below h.1) (hR1.below h.1) h.2 (by omega) (by omega)).mono fun _ _ ⟨he, hg⟩ => ⟨by rw [he, hanti], hg.below⟩)
    have hsi : ∀ w', KeepW W1 W1.heap.size w' → Calls Tryd.prog 12 #[.slice A xs.length ca, .slice A' ys.length cb] w' fun e w2 => e = .returned (.bool sb) ∧ KeepW W1 W1.heap.size w2 := fun w' h =>
      h.calls ((sameInts_any _ _ xs ys _ w' (hR1.below h.1) (hR2.below h.1)).mono fun _ _ ⟨he, nq, hq⟩ => ⟨by rw [he, hsb], by rw [hq]; exact below_drewN (Below.refl _ _) nq⟩)
    have hwk : ∀ w', KeepW W1 W1.heap.size w' → Calls Tryd.prog 6 #[] w' fun e w2 => e = .returned (.bool true) ∧ KeepW W1 W1.heap.size w2 := fun w' h => h.calls (works_any w')
    have HKK := Lib.hid hkk
    have HAB := Lib.hid hab
    have HBC := Lib.hid hbc
    have HAC := Lib.hid hac
    have HBA := Lib.hid hba
    have HSI := Lib.hid hsi
    have HWK := Lib.hid hwk
    have HK0 := Lib.hid (KeepW.start (Nat.le_refl W1.heap.size))
    have HB1 := Lib.hid hb1
    clear hkk hab hbc hac hba hsi hwk hR1 hR2 hR3 hg0 hg1 hg2 hb1 HRA HRB HRC hx hy hz hanti htrans hstrict hsame hsb hrange
    go_upto_region 3 with (fail)
    have hk0 := HK0.out
    clear hc0 hc1 hd0 hd1 he0 he1
    obtain ⟨⟨hc0, hc1, hd0, hd1, he0, he1⟩, _⟩ := HKK.out _ hk0
    go_region_held3 (fun w' => (w'.cell? ⟨w.heap.size, 0, none⟩ = some (.slice A xs.length ca) ∧ w'.cell? ⟨w.heap.size, 1, none⟩ = some (.string p) ∧ w'.cell? ⟨w.heap.size + 1, 0, none⟩ = some (.slice A' ys.length cb) ∧ w'.cell? ⟨w.heap.size + 1, 1, none⟩ = some (.string q) ∧ w'.cell? ⟨w.heap.size + 2, 0, none⟩ = some (.slice A'' zs.length cc) ∧ w'.cell? ⟨w.heap.size + 2, 1, none⟩ = some (.string r)) ∧ KeepW W1 W1.heap.size w') (first | exact HKK.out _ (by assumption) | exact HKK.out _ (KeepW.drew (by assumption)) | go_keep) (first | (go_at_call 11; (with_reducible refine (HAB.out _ (by first | assumption | exact KeepW.drew (by assumption))).mono ?_); rintro e w4 ⟨rfl, hk4⟩) | (go_at_call 11; (with_reducible refine (HBC.out _ (by first | assumption | exact KeepW.drew (by assumption))).mono ?_); rintro e w5 ⟨rfl, hk5⟩) | (go_at_call 11; (with_reducible refine (HAC.out _ (by first | assumption | exact KeepW.drew (by assumption))).mono ?_); rintro e w6 ⟨rfl, hk6⟩))
    all_goals
      have hC4 := Lib.hid (HKK.out _ hk4).1
      have hC5 := Lib.hid (HKK.out _ hk5).1
      have hC6 := Lib.hid (HKK.out _ hk6).1
      clear hc0 hc1 hd0 hd1 he0 he1
      obtain ⟨hc0, hc1, hd0, hd1, he0, he1⟩ := hC4.out
      obtain ⟨hc0', hc1', hd0', hd1', he0', he1'⟩ := hC5.out
      obtain ⟨hc0'', hc1'', hd0'', hd1'', he0'', he1''⟩ := hC6.out
      have hcs := HCS.out
      have hsg := HSG.out
      clear hC4 hC5 hC6
      rcases hsg with ⟨rfl, s2, s3, s4⟩ | ⟨rfl, s2⟩ | ⟨rfl, s2, s3⟩ | ⟨rfl, s2⟩ | rfl
      all_goals
        rcases hcs with ⟨t1, rfl, t3⟩ | ⟨t1, rfl⟩ | ⟨t1, rfl, t3⟩
        all_goals first
          | (exfalso; omega)
          | (clear t1
             go_upto_region 5 with (go_at_call 12; refine (HSI.out _ (by first | exact hk4 | exact hk5 | exact hk6)).mono ?_; rintro e w7 ⟨rfl, hk7⟩; obtain ⟨⟨gc0, gc1, gd0, gd1, ge0, ge1⟩, _⟩ := HKK.out _ hk7)
             go_upto_region 7 with (go_at_call 11; refine (HBA.out _ hk7).mono ?_; rintro e w8 ⟨rfl, hk8⟩)
             go_wp2_with (go_at_call 6; refine (HWK.out _ hk8).mono ?_; rintro e w9 ⟨rfl, hk9⟩)
             go_ret
             exact ⟨rfl, HB1.out.trans (hk9.1.mono HB1.out.size)⟩)
  · have hR : ∀ wk : World, Below w.heap.size w wk → Calls Tryd.prog 6 #[] wk fun e w2 => e = .returned (.bool true) ∧ Below w.heap.size w w2 := fun wk h => (works_any wk).mono fun _ _ ⟨he, hb⟩ => ⟨he, below_step h hb h.size⟩
    have HW := Lib.hid hR
    have HH : 100 < xs.length ∨ (xs.length ≤ 100 ∧ 100 < ys.length) ∨ (xs.length ≤ 100 ∧ ys.length ≤ 100 ∧ 100 < zs.length) ∨ (xs.length ≤ 100 ∧ ys.length ≤ 100 ∧ zs.length ≤ 100 ∧ 100 < p.size) ∨ (xs.length ≤ 100 ∧ ys.length ≤ 100 ∧ zs.length ≤ 100 ∧ p.size ≤ 100 ∧ 100 < q.size) ∨ (xs.length ≤ 100 ∧ ys.length ≤ 100 ∧ zs.length ≤ 100 ∧ p.size ≤ 100 ∧ q.size ≤ 100 ∧ 100 < r.size) := by omega
    clear hall hR
    rcases HH with h1 | ⟨h1, h2⟩ | ⟨h1, h2, h3⟩ | ⟨h1, h2, h3, h4⟩ | ⟨h1, h2, h3, h4, h5⟩ | ⟨h1, h2, h3, h4, h5, h6⟩
    all_goals
      go_enter Tryd.func17, Tryd.ntmps17
      go_wp2_with (go_at_call 6; refine (HW.out _ ((((Below.refl _ _).alloc (Nat.le_refl _) _).alloc (by simp) _).alloc (by simp; omega) _)).mono ?_; rintro e w2 ⟨rfl, hb2⟩)
      go_ret
      exact ⟨rfl, hb2⟩
end Go.Proofs.YtijepjoklmblhaaDoor
