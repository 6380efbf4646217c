/- files: the reference's Same. -/
import Derived.Test.YtmcafiihicanfaaDoorFilQd
import Derived.Deep.RegionHeld3
set_option linter.unusedVariables false
set_option linter.unusedSimpArgs false
namespace Go.Proofs.YtmcafiihicanfaaDoor
open Go Go.RowKit Go.BigFrame
open Fil (Es Nd Sp)

/-- Are trees the same? -/
def sameE : Es → Es → Bool
  | .nil, .nil => true
  | .cons nm k d s nx, .cons nm' k' d' s' nx' => (nm.toList == nm'.toList) && ((k == k') && (d.toList == d'.toList) && sameE s s') && sameE nx nx'
  | _, _ => false
def sameN (a b : Nd) : Bool := (a.k == b.k) && (a.d.toList == b.d.toList) && sameE a.es b.es
theorem same_len : ∀ {a b : Es}, sameE a b = true → a.len = b.len
  | .nil, .nil, _ => rfl
  | .nil, .cons _ _ _ _ _, h => by simp [sameE] at h
  | .cons _ _ _ _ _, .nil, h => by simp [sameE] at h
  | .cons _ _ _ _ nx, .cons _ _ _ _ nx', h => by
    simp only [sameE, Bool.and_eq_true] at h
    simp only [Es.len, same_len h.2]
theorem text_ext {a b : ByteArray} (h : (a.toList == b.toList) = true) : a = b := by
  rw [Lib.toList_data, Lib.toList_data] at h
  exact str_ext (by simpa using h)
theorem text_refl (a : ByteArray) : (a.toList == a.toList) = true := by simp
theorem same_eq : ∀ {a b : Es}, sameE a b = true → a = b
  | .nil, .nil, _ => rfl
  | .nil, .cons _ _ _ _ _, h => by simp [sameE] at h
  | .cons _ _ _ _ _, .nil, h => by simp [sameE] at h
  | .cons nm k d s nx, .cons nm' k' d' s' nx', h => by
    simp only [sameE, Bool.and_eq_true] at h
    obtain ⟨⟨h1, ⟨h2, h3⟩, h4⟩, h5⟩ := h
    have e1 : nm = nm' := text_ext h1
    have e3 : d = d' := text_ext h3
    have e2 : k = k' := by simpa using h2
    rw [e1, e2, e3, same_eq h4, same_eq h5]
theorem same_refl : ∀ a : Es, sameE a a = true
  | .nil => rfl
  | .cons nm k d s nx => by simp [sameE, same_refl s, same_refl nx]
theorem sameN_eq {a b : Nd} (h : sameN a b = true) : a = b := by
  unfold sameN at h
  simp only [Bool.and_eq_true] at h
  obtain ⟨⟨h1, h2⟩, h3⟩ := h
  obtain ⟨ak, ad, ae⟩ := a
  obtain ⟨bk, bd, be⟩ := b
  have e1 : ak = bk := by simpa using h1
  have e2 : ad = bd := text_ext h2
  have e3 : ae = be := same_eq h3
  rw [e1, e2, e3]
theorem sameN_refl (a : Nd) : sameN a a = true := by simp [sameN, same_refl]
/-- The two first entries behind beginnings. -/
theorem drop_same {a b : Es} {i : Nat} (ha : i < a.len) (hb : i < b.len) : ∃ nm nm', (∃ k d s, dropE i a = .cons nm k d s (dropE (i + 1) a)) ∧ (∃ k d s, dropE i b = .cons nm' k d s (dropE (i + 1) b)) ∧
    sameE (dropE i a) (dropE i b) = ((nm.toList == nm'.toList) && sameN (kidE a i) (kidE b i) && sameE (dropE (i + 1) a) (dropE (i + 1) b)) := by
  obtain ⟨nm, k, d, s, h1, h2⟩ := drop_head a i ha
  obtain ⟨nm', k', d', s', h3, h4⟩ := drop_head b i hb
  refine ⟨nm, nm', ⟨k, d, s, h1⟩, ⟨k', d', s', h3⟩, ?_⟩
  rw [h1, h3, h2, h4]
  rfl
set_option maxRecDepth 1000000 in
set_option maxRecDepth 100000 in
set_option maxHeartbeats 4000000 in
theorem refSame_any : ∀ (m : Nat) (a b : Nd), a.es.count ≤ m → a.es.count ≤ 1000000000 → ∀ (w : World) (B : Nat), B ≤ w.heap.size → ∀ va vb, NdV w B va a → NdV w B vb b →
    Calls Tryd.prog 23 #[va, vb] w fun e W => e = .returned (.bool (sameN a b)) ∧ Below w.heap.size w W := by
  intro m
  induction m using Nat.strongRecOn with
  | ind m ih =>
  intro a b hm hbd w B hB va vb hva hvb
  obtain ⟨ea, rfl, hea, hda, hka⟩ := hva
  obtain ⟨A, ca, rfl, hla, hma⟩ := hea.form
  obtain ⟨eb, rfl, heb, hdb, hkb⟩ := hvb
  obtain ⟨A', cb, rfl, hlb, hmb⟩ := heb.form
  have HIH := Lib.hid (And.intro ih hm)
  clear ih hm
  go_enter Tryd.func23, Tryd.ntmps23
  obtain ⟨W0, e0, hb0, hb1, hbw, hsz⟩ := rows2 w (.cells #[.int .u8 (a.k : Int), .string a.d, .slice A a.es.len ca] 26) (.cells #[.int .u8 (b.k : Int), .string b.d, .slice A' b.es.len cb] 26)
  go_upto_region 1 with (fail)
  rw [← e0]
  clear e0
  obtain ⟨hn0, hn1, hn2, _⟩ := nd_box (W := W0) (k := a.k) (d := a.d) (v := .slice A a.es.len ca) hb0
  obtain ⟨hm0, hm1, hm2, _⟩ := nd_box (W := W0) (k := b.k) (d := b.d) (v := .slice A' b.es.len cb) hb1
  have HB := Lib.hid (And.intro hb0 (And.intro hb1 (And.intro hbw hsz)))
  have HES := Lib.hid (And.intro hea heb)
  clear hb0 hb1 hbw hsz hea heb
  have HS := Lib.hid (show sameN a b = ((a.k == b.k) && (a.d.toList == b.d.toList) && sameE a.es b.es) from rfl)
  rcases Bool.eq_false_or_eq_true (a.k == b.k) with hk | hk
  rotate_left
  · have HF := Lib.hid (show sameN a b = false by rw [HS.out, hk]; rfl)
    have hkI : ((a.k : Int) != (b.k : Int)) = true := bne_iff_ne.2 (fun e => by have : a.k ≠ b.k := by simpa using hk
                                                                                omega)
    go_wp2
    go_ret
    exact ⟨by rw [HF.out]; rfl, HB.out.2.2.1⟩
  have hkI : ((a.k : Int) != (b.k : Int)) = false := by rw [beq_iff_eq] at hk; rw [hk]; simp
  rcases Bool.eq_false_or_eq_true (a.d.toList == b.d.toList) with hd | hd
  rotate_left
  · have HF := Lib.hid (show sameN a b = false by rw [HS.out, hk, hd]; rfl)
    have hdI : (a.d.toList != b.d.toList) = true := by rw [bne, hd]; rfl
    go_wp2
    go_ret
    exact ⟨by rw [HF.out]; rfl, HB.out.2.2.1⟩
  have hdI : (a.d.toList != b.d.toList) = false := by rw [bne, hd]; rfl
  rcases Decidable.em (a.es.len = b.es.len) with hl | hl
  rotate_left
  · have HF := Lib.hid (show sameN a b = false by
      rw [HS.out, hk, hd]
      cases hq : sameE a.es b.es with
      | false => rfl
      | true => exact absurd (same_len hq) hl)
    have hlI : ((a.es.len : Int) != (b.es.len : Int)) = true := bne_iff_ne.2 (fun e => by omega)
    clear hl
    go_wp2
    go_ret
    exact ⟨by rw [HF.out]; rfl, HB.out.2.2.1⟩
  have hlI : ((a.es.len : Int) != (b.es.len : Int)) = false := by rw [hl]; simp
  have HE := Lib.hid (show sameN a b = sameE a.es b.es by rw [HS.out, hk, hd]; rfl)
  have HL := Lib.hid hl
  clear hl hk
  go_wp2
  clear hd hn0 hn1 hn2 hm0 hm1 hm2 hkI hdI hlI
  go_loopg [5] a.es.len (fun g u5 wx => ∃ i : Nat, u5 = .int .i64 (i : Int) ∧ i + g = a.es.len ∧ Hid (KeepW W0 W0.heap.size wx ∧ sameN a b = sameE (dropE i a.es) (dropE i b.es)))
  case atStart => exact ⟨0, rfl, by omega, KeepW.start (Nat.le_refl _), by rw [HE.out]; simp [dropE]⟩
  case round =>
    obtain ⟨i, rfl, hig, HI⟩ := hrel
    have hbl : Below w.heap.size w wr := below_step HB.out.2.2.1 HI.out.1.1 (by have := HB.out.2.2.2; omega)
    have HBL := Lib.hid hbl
    obtain ⟨hn0, hn1, hn2, _⟩ := nd_box (W := wr) (k := a.k) (d := a.d) (v := .slice A a.es.len ca) ((HI.out.1.1.block w.heap.size (by have := HB.out.2.2.2; omega)).trans HB.out.1)
    clear hn0 hn1
    cases gk with
    | zero =>
      obtain rfl : i = a.es.len := by omega
      have HF := Lib.hid (show sameN a b = true by rw [HI.out.2, drop_all, HL.out, drop_all]; rfl)
      clear hbl
      go_wp2
      go_ret
      exact ⟨by rw [HF.out]; rfl, HBL.out⟩
    | succ g =>
      have hil : i < a.es.len := by omega
      have hil2 : i < b.es.len := by have := HL.out; omega
      obtain ⟨ab, ao, rfl, hlt, hcs⟩ := es_addr HES.out.1 (by omega)
      obtain ⟨bb, bo, rfl, hlt2, hcs2⟩ := es_addr HES.out.2 (by omega)
      obtain ⟨hm0, hm1, hm2, _⟩ := nd_box (W := wr) (k := b.k) (d := b.d) (v := .slice (some ⟨bb, bo, none⟩) b.es.len cb) ((HI.out.1.1.block (w.heap.size + 1) (by have := HB.out.2.2.2; omega)).trans HB.out.2.1)
      clear hm0 hm1
      obtain ⟨nm, nm', ⟨k1, d1, s1, hdr1⟩, ⟨k2, d2, s2, hdr2⟩, hsame⟩ := drop_same hil hil2
      have hnc : wr.cell? ⟨ab, ao + i * 4, none⟩ = some (.string nm) := (hbl.cell (p := ⟨ab, ao + i * 4, none⟩) (by show ab < _; omega)).trans (by have := cells_drop i hcs; rw [hdr1] at this; exact this.1)
      have hnc2 : wr.cell? ⟨bb, bo + i * 4, none⟩ = some (.string nm') := (hbl.cell (p := ⟨bb, bo + i * 4, none⟩) (by show bb < _; omega)).trans (by have := cells_drop i hcs2; rw [hdr2] at this; exact this.1)
      have hiI : (i : Int) < (a.es.len : Int) := by omega
      have hiI2 : (i : Int) < (b.es.len : Int) := by omega
      have hi0 : (0 : Int) ≤ (i : Int) := by omega
      have HSM := Lib.hid hsame
      have HX := Lib.hid (And.intro hlt (And.intro hcs (And.intro hlt2 hcs2)))
      clear hdr1 hdr2 hsame hlt hcs hlt2 hcs2 hbl
      rcases Bool.eq_false_or_eq_true (nm.toList == nm'.toList) with hq | hq
      rotate_left
      · have HF := Lib.hid (show sameN a b = false by rw [HI.out.2, HSM.out, hq]; rfl)
        have hqI : (nm.toList != nm'.toList) = true := by rw [bne, hq]; rfl
        go_wp2
        go_quiet (fail)
        go_wp2
        go_ret
        exact ⟨by rw [HF.out]; rfl, below_drewN HBL.out _⟩
      have hqI : (nm.toList != nm'.toList) = false := by rw [bne, hq]; rfl
      have HQ := Lib.hid (show sameN a b = (sameN (kidE a.es i) (kidE b.es i) && sameE (dropE (i + 1) a.es) (dropE (i + 1) b.es)) by rw [HI.out.2, HSM.out, hq]; rfl)
      clear HSM
      obtain ⟨hk1, hk2, hk3, hk4, A2, c2, hk5, hk6⟩ := kid_at HX.out.2.1 hil HX.out.1
      obtain ⟨hj1, hj2, hj3, hj4, A3, c3, hj5, hj6⟩ := kid_at HX.out.2.2.2 hil2 HX.out.2.2.1
      have hkc := kid_count a.es i hil
      generalize kidE a.es i = p at *
      generalize kidE b.es i = q at *
      have HREC := Lib.hid (fun (w' : World) (h : KeepW wr wr.heap.size w') => h.calls (HIH.out.1 p.es.count (by have := HIH.out.2; omega) p q (Nat.le_refl _) (by omega) w' B (by have := h.2; have := HBL.out.size; omega) _ _ ⟨_, rfl, hk6.keep ((below_step HBL.out h.1 HBL.out.size).mono hB), hk3, hk4⟩ ⟨_, rfl, hj6.keep ((below_step HBL.out h.1 HBL.out.size).mono hB), hj3, hj4⟩))
      have HK0 := Lib.hid (KeepW.start (Nat.le_refl wr.heap.size))
      have hzz : w.heap.size + 2 ≤ wr.heap.size := by have := HB.out.2.2.2; have := HI.out.1.2; omega
      have HCL := Lib.hid (fun (w' : World) (h : KeepW wr wr.heap.size w') => show (w'.cell? ⟨w.heap.size, 2, none⟩ = some (.slice (some ⟨ab, ao, none⟩) a.es.len ca) ∧ w'.cell? ⟨w.heap.size + 1, 2, none⟩ = some (.slice (some ⟨bb, bo, none⟩) b.es.len cb)) ∧ (w'.cell? ⟨ab, ao + i * 4, none⟩ = some (.string nm) ∧ w'.cell? ⟨bb, bo + i * 4, none⟩ = some (.string nm')) ∧ (w'.cell? ⟨ab, ao + i * 4 + 1, none⟩ = some (.int .u8 (p.k : Int)) ∧ w'.cell? ⟨ab, ao + i * 4 + 2, none⟩ = some (.string p.d) ∧ w'.cell? ⟨ab, ao + i * 4 + 3, none⟩ = some (.slice A2 p.es.len c2)) ∧ w'.cell? ⟨bb, bo + i * 4 + 1, none⟩ = some (.int .u8 (q.k : Int)) ∧ w'.cell? ⟨bb, bo + i * 4 + 2, none⟩ = some (.string q.d) ∧ w'.cell? ⟨bb, bo + i * 4 + 3, none⟩ = some (.slice A3 q.es.len c3) from by
        have hb : Below w.heap.size w w' := below_step HBL.out h.1 HBL.out.size
        have hA := HX.out.1
        have hB' := HX.out.2.2.1
        refine ⟨⟨(h.1.cell (p := ⟨w.heap.size, 2, none⟩) (by show w.heap.size < _; omega)).trans hn2, (h.1.cell (p := ⟨w.heap.size + 1, 2, none⟩) (by show w.heap.size + 1 < _; omega)).trans hm2⟩, ⟨(h.1.cell (p := ⟨ab, ao + i * 4, none⟩) (by show ab < _; omega)).trans hnc, (h.1.cell (p := ⟨bb, bo + i * 4, none⟩) (by show bb < _; omega)).trans hnc2⟩, ⟨(hb.cell (p := ⟨ab, ao + i * 4 + 1, none⟩) (by show ab < _; omega)).trans hk1, (hb.cell (p := ⟨ab, ao + i * 4 + 2, none⟩) (by show ab < _; omega)).trans hk2, (hb.cell (p := ⟨ab, ao + i * 4 + 3, none⟩) (by show ab < _; omega)).trans hk5⟩, (hb.cell (p := ⟨bb, bo + i * 4 + 1, none⟩) (by show bb < _; omega)).trans hj1, (hb.cell (p := ⟨bb, bo + i * 4 + 2, none⟩) (by show bb < _; omega)).trans hj2, (hb.cell (p := ⟨bb, bo + i * 4 + 3, none⟩) (by show bb < _; omega)).trans hj5⟩)
      have hw2 : IntKind.i64.wrap ((i : Int) + 1) = (i : Int) + 1 := IntWalk.i64_in _ (by unfold maxLen at hma; omega)
      clear hk1 hk2 hk3 hk4 hk5 hk6 hj1 hj2 hj3 hj4 hj5 hj6 hkc hzz
      go_wp2
      go_region_held3 (fun w' => (w'.cell? ⟨w.heap.size, 2, none⟩ = some (.slice (some ⟨ab, ao, none⟩) a.es.len ca) ∧ w'.cell? ⟨w.heap.size + 1, 2, none⟩ = some (.slice (some ⟨bb, bo, none⟩) b.es.len cb)) ∧ (w'.cell? ⟨ab, ao + i * 4, none⟩ = some (.string nm) ∧ w'.cell? ⟨bb, bo + i * 4, none⟩ = some (.string nm')) ∧ (w'.cell? ⟨ab, ao + i * 4 + 1, none⟩ = some (.int .u8 (p.k : Int)) ∧ w'.cell? ⟨ab, ao + i * 4 + 2, none⟩ = some (.string p.d) ∧ w'.cell? ⟨ab, ao + i * 4 + 3, none⟩ = some (.slice A2 p.es.len c2)) ∧ w'.cell? ⟨bb, bo + i * 4 + 1, none⟩ = some (.int .u8 (q.k : Int)) ∧ w'.cell? ⟨bb, bo + i * 4 + 2, none⟩ = some (.string q.d) ∧ w'.cell? ⟨bb, bo + i * 4 + 3, none⟩ = some (.slice A3 q.es.len c3)) (first | exact HCL.out _ (by first | assumption | exact KeepW.drew HK0.out | exact KeepW.drew (by assumption)) | go_keep) (first | (go_at_call 23; refine (HREC.out _ (by first | assumption | exact KeepW.drew HK0.out)).mono ?_; rintro e W2 ⟨rfl, hk2⟩))
      have HK2 := Lib.hid (show KeepW wr wr.heap.size W2 by assumption)
      have HB2 := Lib.hid (below_step HBL.out HK2.out.1 HBL.out.size)
      clear hqI
      cases hpq : sameN p q with
      | false =>
        have HF := Lib.hid (show sameN a b = false by rw [HQ.out, hpq]; rfl)
        go_wp2
        go_ret
        exact ⟨by rw [HF.out]; rfl, HB2.out⟩
      | true =>
        have HF := Lib.hid (show sameN a b = sameE (dropE (i + 1) a.es) (dropE (i + 1) b.es) by rw [HQ.out, hpq]; rfl)
        go_wp2
        go_roundg g
        case measure => omega
        case rel => exact ⟨i + 1, by simp, by omega, ⟨below_step HI.out.1.1 HK2.out.1 HI.out.1.2, Nat.le_trans HI.out.1.2 HK2.out.2⟩, HF.out⟩
end Go.Proofs.YtmcafiihicanfaaDoor
