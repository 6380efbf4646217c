/- drv's reference: parts, its walk. -/
import Derived.Test.YtbniilajffjfcaaGreatDoorDmO2
import Derived.Deep.RegionHeld3
import Derived.BigRegion
set_option linter.unusedVariables false
set_option linter.unusedSimpArgs false
namespace Go.Proofs.YtbniilajffjfcaaGreatDoor
open Go.RowKit Go.BigFrame

set_option maxRecDepth 100000 in
set_option maxHeartbeats 4000000 in
theorem parts_early (u : Value) (b : List UInt8) (w : World) (hu : Byt w u b) (hl : b.length ≤ 1000000) (hm : magic.isPrefixOf b = false) :
    Calls Tryz.prog 46 #[u] w (PartsP b w) := by
  have HNO := Lib.hid (fun (w' : World) (hb : Below w.heap.size w w') (s : ByteArray) (A : Option Addr) (n cap : Nat) (t : ByteArray) => PartsP.no (getS_magic hm) hb s A n cap t)
  generalize PartsP b w = post at *
  obtain ⟨w1, hw1, hg0, hg1, hb1, hz1⟩ := rows2 w (.cells #[.string ⟨#[]⟩, .slice none 0 0, .string ⟨#[]⟩] 28) (.cells #[.string ⟨#[]⟩, .slice none 0 0, .string ⟨#[]⟩] 28)
  have HS1 := Lib.hid hg0
  have HB1 := Lib.hid hb1
  by_cases h4 : 4 ≤ b.length
  · obtain ⟨ad, cap, rfl, hcap, hcv⟩ := head_conv (hu.below hb1) h4
    have hne : strOf (b.take 4) ≠ ⟨#[68, 82, 86, 49]⟩ := fun e => by
      rw [magic_of h4, decide_eq_false_iff_not] at hm
      apply hm
      have := congrArg (fun x : ByteArray => x.data.toList) e
      simpa [strOf, magic] using this
    have hb1' : ((strOf (b.take 4)).toList == [68, 82, 86, 49]) = false := by
      have h := str_ne_iff (strOf (b.take 4)) ⟨#[68, 82, 86, 49]⟩
      rw [decide_eq_false hne, Lib.toList_data (⟨#[68, 82, 86, 49]⟩ : ByteArray)] at h
      exact h
    have hb2' : ((strOf (b.take 4)).toList != [68, 82, 86, 49]) = true := by unfold bne; rw [hb1']; rfl
    have hcm : cap ≤ 9223372036854775807 := by obtain ⟨_, _, e, _, h, _⟩ := hu; cases e; exact h
    have h4i : ¬ (b.length : Int) < 4 := by omega
    have h4c : (4 : Int) ≤ (cap : Int) := by omega
    have h4c' : 4 ≤ cap := by omega
    clear hu hne hm
    generalize strOf (b.take 4) = q at *
    go_enter Tryz.func46, Tryz.ntmps46
    go_upto_region 2 with (fail)
    rw [← hw1]
    obtain ⟨hc0, hc1, hc2⟩ := three_cells hg0
    obtain ⟨hd0, hd1, hd2⟩ := three_cells hg1
    have hf0 := blk_free hg0 0
    have hf1 := blk_free hg0 1
    have hf2 := blk_free hg0 2
    clear hw1 hb1 hz1 hg0 hg1
    go_wp2_with fail
    exact bodyPost_ret (v := .tuple #[.agg #[.string ⟨#[]⟩, .slice none 0 0, .string ⟨#[]⟩], .bool false]) (results_cell_tmp Tryz.results46 _ _ w.heap.size 28 _ (0, 0) _ _ rfl rfl (three_set HS1.out _ _ _) Tryz.underlying28 rfl infoDrv) rfl (HNO.out _ (three_below HB1.out (Nat.le_refl _) _ _ _) _ _ _ _ _)
  · obtain ⟨A, cap, rfl, _⟩ := hu
    have h4i : (b.length : Int) < 4 := by omega
    go_enter Tryz.func46, Tryz.ntmps46
    go_upto_region 2 with (fail)
    rw [← hw1]
    obtain ⟨hc0, hc1, hc2⟩ := three_cells hg0
    obtain ⟨hd0, hd1, hd2⟩ := three_cells hg1
    have hf0 := blk_free hg0 0
    have hf1 := blk_free hg0 1
    have hf2 := blk_free hg0 2
    clear hw1 hb1 hz1 hg0 hg1
    go_wp2_with fail
    exact bodyPost_ret (v := .tuple #[.agg #[.string ⟨#[]⟩, .slice none 0 0, .string ⟨#[]⟩], .bool false]) (results_cell_tmp Tryz.results46 _ _ w.heap.size 28 _ (0, 0) _ _ rfl rfl (three_set HS1.out _ _ _) Tryz.underlying28 rfl infoDrv) rfl (HNO.out _ (three_below HB1.out (Nat.le_refl _) _ _ _) _ _ _ _ _)
theorem getS_last {b t1 l1 : List UInt8} {ts : List (List UInt8)} {a : Nat} (hm : magic.isPrefixOf b = true) (h1 : rdText (b.drop 4) = some (t1, l1)) (h2 : 2 ≤ l1.length) (h3 : rdTexts (natOf (l1.take 2)) (l1.drop 2) = some (ts, b.drop a)) (hn : rdText (b.drop a) = none) : getS b = none := by
  rw [getS_at hm h1 h2 h3, hn]; rfl
theorem getS_done {b t1 l1 t r : List UInt8} {ts : List (List UInt8)} {a : Nat} (hm : magic.isPrefixOf b = true) (h1 : rdText (b.drop 4) = some (t1, l1)) (h2 : 2 ≤ l1.length) (h3 : rdTexts (natOf (l1.take 2)) (l1.drop 2) = some (ts, b.drop a)) (ha : a ≤ b.length) (hn : rdText (b.drop a) = some (t, r)) :
    getS b = if a + 4 + t.length = b.length ∧ rightD (strOf t1) (ts.map strOf) (strOf t) = true then some (strOf t1, ts.map strOf, strOf t) else none := by
  obtain ⟨hr, hl⟩ := rdText_rest hn
  rw [List.length_drop] at hl
  have e : (r = []) ↔ a + 4 + t.length = b.length := by
    rw [hr, List.drop_drop]
    constructor
    · intro h
      have := congrArg List.length h
      rw [List.length_drop, List.length_nil] at this
      omega
    · intro h
      exact List.drop_eq_nil_of_le (by omega)
  rw [getS_at hm h1 h2 h3, hn, Option.bind_some]
  simp only [e]
theorem three_other {w : World} {g k i : Nat} {v : Value} (h : w.cell? ⟨k, i, none⟩ = some v) (hne : g ≠ k) (x y z : Value) : (((w.setCell ⟨g, 0, none⟩ x).setCell ⟨g, 1, none⟩ y).setCell ⟨g, 2, none⟩ z).cell? ⟨k, i, none⟩ = some v := by
  have hb : (((w.setCell ⟨g, 0, none⟩ x).setCell ⟨g, 1, none⟩ y).setCell ⟨g, 2, none⟩ z).heap[k]? = w.heap[k]? :=
    (Below.heap_setCell _ _ _ _ (Ne.symm hne)).trans ((Below.heap_setCell _ _ _ _ (Ne.symm hne)).trans (Below.heap_setCell _ _ _ _ (Ne.symm hne)))
  exact (World.cell?_of_block hb).trans h
set_option maxRecDepth 100000 in
set_option maxHeartbeats 8000000 in
theorem parts_late (u : Value) (b : List UInt8) (w : World) (hu : Byt w u b) (hl : b.length ≤ 1000000) (hm : magic.isPrefixOf b = true) :
    Calls Tryz.prog 46 #[u] w (PartsP b w) := by
  have HNO := Lib.hid (fun (h : getS b = none) (w' : World) (hb : Below w.heap.size w w') (s : ByteArray) (A : Option Addr) (n cap : Nat) (t : ByteArray) => PartsP.no h hb s A n cap t)
  have HYES := Lib.hid (fun (nm : ByteArray) (ins : List ByteArray) (rc : ByteArray) (v : Value) (w' : World) (h : getS b = some (nm, ins, rc)) (hb : Below w.heap.size w w') (ho : w'.ownsRow w.heap.size 9 1 v ins.length (strs ins)) => PartsP.yes h hb ho)
  generalize PartsP b w = post at *
  obtain ⟨w1, hw1, hg0, hg1, hb1, hz1⟩ := rows2 w (.cells #[.string ⟨#[]⟩, .slice none 0 0, .string ⟨#[]⟩] 28) (.cells #[.string ⟨#[]⟩, .slice none 0 0, .string ⟨#[]⟩] 28)
  have HS1 := Lib.hid hg0
  have HD1 := Lib.hid hg1
  have HB1 := Lib.hid hb1
  have HZ1 := Lib.hid hz1
  have h4 : 4 ≤ b.length := by
    obtain ⟨t, ht⟩ := List.isPrefixOf_iff_prefix.1 hm
    rw [← ht]; simp [magic]
  have hq : strOf (b.take 4) = ⟨#[68, 82, 86, 49]⟩ := by
    rw [magic_of h4, decide_eq_true_iff] at hm
    rw [hm]; rfl
  have HU := Lib.hid (fun (w2 : World) (h : Below w.heap.size w w2) => hu.below h)
  obtain ⟨ad, cap, hue, hcap, hcv⟩ := head_conv (hu.below hb1) h4
  have hcm : cap ≤ 9223372036854775807 := by obtain ⟨_, _, e, _, h, _⟩ := hu; rw [hue] at e; cases e; exact h
  subst hue
  rw [hq] at hcv
  have HM := Lib.hid hm
  have h4i : ¬ (b.length : Int) < 4 := by omega
  have h4c : (4 : Int) ≤ (cap : Int) := by omega
  have h4c' : 4 ≤ cap := by omega
  have HG := Lib.hid (fun (a : Nat) (w2 : World) (h : Below w.heap.size w w2) (ha : a ≤ 2000000) => refGet_any (.slice (some ad) b.length cap) b a w2 (hu.below h) hl ha)
  have HG4 := Lib.hid (HG.out 4 w1 hb1 (by omega))
  clear hu hq hm
  go_enter Tryz.func46, Tryz.ntmps46
  go_upto_region 2 with (fail)
  rw [← hw1]
  obtain ⟨hc0, hc1, hc2⟩ := three_cells hg0
  obtain ⟨hd0, hd1, hd2⟩ := three_cells hg1
  have hf0 := blk_free hg0 0
  have hf1 := blk_free hg0 1
  have hf2 := blk_free hg0 2
  have hdf0 := blk_free hg1 0
  clear hw1 hb1 hz1 hg0 hg1
  cases hr1 : rdText (b.drop 4) with
  | none =>
    have HN := Lib.hid (getS_name hr1)
    have HG5 := Lib.hid (HG4.out.mono fun e w2 h => show (∃ nq, w2 = w1.drewN nq) ∧ e = .returned (.tuple #[.string ⟨#[]⟩, .int .i64 0, .bool false]) from by
      obtain ⟨h1, h2⟩ := h; rw [hr1] at h2; exact ⟨h1, h2⟩)
    clear hr1 HG4 HG
    go_wp2_with fail
    refine HG5.out.mono ?_
    rintro e w2 ⟨⟨nq, hw2⟩, rfl⟩
    have HS2 := Lib.hid ((show w2.heap[w.heap.size]? = w1.heap[w.heap.size]? by rw [hw2, heap_drewN]).trans HS1.out)
    have HB2 := Lib.hid (show Below w.heap.size w w2 by rw [hw2]; exact below_drewN HB1.out nq)
    have HD2 := Lib.hid ((show w2.heap[w.heap.size + 1]? = w1.heap[w.heap.size + 1]? by rw [hw2, heap_drewN]).trans HD1.out)
    obtain ⟨hx0, hx1, hx2⟩ := three_cells HS2.out
    obtain ⟨hy0, hy1, hy2⟩ := three_cells HD2.out
    have hg0 := blk_free HS2.out 0
    have hg1 := blk_free HS2.out 1
    have hg2 := blk_free HS2.out 2
    clear hw2 hc0 hc1 hc2 hd0 hd1 hd2 hf0 hf1 hf2 hdf0 hcv
    go_wp2_with fail
    exact bodyPost_ret (v := .tuple #[.agg #[.string ⟨#[]⟩, .slice none 0 0, .string ⟨#[]⟩], .bool false]) (results_cell_tmp Tryz.results46 _ _ w.heap.size 28 _ (0, 0) _ _ rfl rfl (three_set HS2.out _ _ _) Tryz.underlying28 rfl infoDrv) rfl (HNO.out HN.out _ (three_below HB2.out (Nat.le_refl _) _ _ _) _ _ _ _ _)
  | some p =>
    obtain ⟨t1, l1⟩ := p
    have HG5 := Lib.hid (HG4.out.mono fun e w2 h => show (∃ nq, w2 = w1.drewN nq) ∧ e = .returned (.tuple #[.string (strOf t1), .int .i64 ((4 + 4 + t1.length : Nat) : Int), .bool true]) from by
      obtain ⟨h1, h2⟩ := h; rw [hr1] at h2; exact ⟨h1, h2⟩)
    obtain ⟨hl1, hle1⟩ := rdText_rest hr1
    rw [List.length_drop] at hle1
    rw [List.drop_drop] at hl1
    have HR1 := Lib.hid hr1
    have HL1 := Lib.hid hl1
    obtain ⟨a1, ha1⟩ : ∃ a1, a1 = 4 + 4 + t1.length := ⟨_, rfl⟩
    rw [← ha1] at HG5
    have HA1 := Lib.hid ha1
    have ha1b : a1 ≤ b.length := by omega
    have HL1L := Lib.hid (show l1.length = b.length - a1 by rw [hl1, List.length_drop]; omega)
    clear hr1 hl1 hle1 ha1 HG4
    go_wp2_with fail
    refine HG5.out.mono ?_
    rintro e w2 ⟨⟨nq, hw2⟩, rfl⟩
    have HS2 := Lib.hid ((show w2.heap[w.heap.size]? = w1.heap[w.heap.size]? by rw [hw2, heap_drewN]).trans HS1.out)
    have HB2 := Lib.hid (show Below w.heap.size w w2 by rw [hw2]; exact below_drewN HB1.out nq)
    have HD2 := Lib.hid ((show w2.heap[w.heap.size + 1]? = w1.heap[w.heap.size + 1]? by rw [hw2, heap_drewN]).trans HD1.out)
    have HZ2 := Lib.hid (show w2.heap.size = w.heap.size + 2 by rw [hw2, heap_drewN]; exact HZ1.out)
    obtain ⟨hx0, hx1, hx2⟩ := three_cells HS2.out
    obtain ⟨hy0, hy1, hy2⟩ := three_cells HD2.out
    have hg0 := blk_free HS2.out 0
    have hg1 := blk_free HS2.out 1
    have hg2 := blk_free HS2.out 2
    have hyf := blk_free HD2.out 0
    clear hw2 hc0 hc1 hc2 hd0 hd1 hd2 hf0 hf1 hf2 hdf0 hcv HG5 HS1 HB1 HD1 HZ1
    by_cases h2 : a1 + 2 ≤ b.length
    · have h2i : ¬ (b.length : Int) < (a1 : Int) + 2 := by omega
      go_upto_region 8 with (fail)
      obtain ⟨w3, hw3⟩ : ∃ w3, w3 = w2.setCell ⟨w.heap.size + 1, 0, none⟩ (.string (strOf t1)) := ⟨_, rfl⟩
      rw [← hw3]
      have HD3 := Lib.hid (show w3.heap[w.heap.size + 1]? = some (.cells #[.string (strOf t1), .slice none 0 0, .string ⟨#[]⟩] 28 (0, 0)) by rw [hw3]; exact blk_set HD2.out 0 _)
      have HS3 := Lib.hid ((show w3.heap[w.heap.size]? = w2.heap[w.heap.size]? by rw [hw3]; exact Below.heap_setCell _ _ _ _ (show w.heap.size ≠ w.heap.size + 1 by omega)).trans HS2.out)
      have HB3 := Lib.hid (show Below w.heap.size w w3 by rw [hw3]; exact HB2.out.setCell (by show w.heap.size ≤ w.heap.size + 1; omega) _)
      have HZ3 := Lib.hid (show w3.heap.size = w.heap.size + 2 by rw [hw3]; simpa using HZ2.out)
      clear hw3 hx0 hx1 hx2 hy0 hy1 hy2 hg0 hg1 hg2 hyf HS2 HD2 HB2 HZ2
      have hby := HU.out w3 HB3.out
      obtain ⟨A', cap', e', _, _, hh, _⟩ := hby
      cases e'
      obtain ⟨ad', e', hbl, hc⟩ := hh (by omega)
      cases e'
      have h0 := hc (a1 + 0) (by omega)
      have h1 := hc (a1 + 1) (by omega)
      rw [dOf_drop] at h0 h1
      have hdr : b.drop a1 = l1 := by rw [HL1.out, HA1.out, show 4 + (4 + t1.length) = 4 + 4 + t1.length by omega]
      rw [hdr] at h0 h1
      have HN2 := Lib.hid (show natOf (l1.take 2) = (l1.getD 0 0).toNat * 256 + (l1.getD 1 0).toNat by
        have := HL1L.out
        rw [natOf_take l1 1 (by omega), natOf_take l1 0 (by omega)]
        simp [natOf])
      have hb0 := (l1.getD 0 0).toNat_lt
      have hb1 := (l1.getD 1 0).toNat_lt
      clear hc hh hbl hdr
      generalize (l1.getD 0 0).toNat = c0 at *
      generalize (l1.getD 1 0).toNat = c1 at *
      obtain ⟨kk, hkk⟩ : ∃ kk, kk = natOf (l1.take 2) := ⟨_, rfl⟩
      rw [← hkk] at HN2
      have HKK := Lib.hid hkk
      have hkv := HN2.out
      rw [Nat.add_zero] at h0
      obtain ⟨a2, ha2⟩ : ∃ a2, a2 = a1 + 1 := ⟨_, rfl⟩
      rw [← ha2] at h1
      have ea2 : IntKind.i64.wrap ((a1 : Int) + 1) = (a2 : Int) := (IntWalk.i64_in _ (by omega)).trans (by omega)
      have hi0 : (a1 : Int) < (b.length : Int) := by omega
      have hi1 : (a2 : Int) < (b.length : Int) := by omega
      have v0 : IntKind.i64.wrap (c0 : Int) = (c0 : Int) := IntWalk.i64_in _ (by omega)
      have v1 : IntKind.i64.wrap (c1 : Int) = (c1 : Int) := IntWalk.i64_in _ (by omega)
      have s0 : IntKind.i64.wrap ((c0 : Int) * 256) = (c0 : Int) * 256 := IntWalk.i64_in _ (by omega)
      have t0 : IntKind.i64.wrap ((c0 : Int) * 256 + (c1 : Int)) = (kk : Int) := (IntWalk.i64_in _ (by omega)).trans (by omega)
      have hkb : kk ≤ 65535 := by omega
      clear hkk hkv ha2
      go_quiet (fail)
      clear ea2 hi0 hi1 v0 v1 s0 t0 h0 h1 hb0 hb1
      obtain ⟨w4, hw4⟩ : ∃ w4, w4 = w3.drewN nq := ⟨_, rfl⟩
      rw [← hw4]
      obtain ⟨a3, ha3⟩ : ∃ a3, a3 = a1 + 2 := ⟨_, rfl⟩
      have ea3 : (a1 : Int) + 2 = (a3 : Int) := by omega
      have HA3 := Lib.hid ha3
      have EA3 := Lib.hid ea3
      have HP := Lib.hid (show PSt w b t1 a3 (w.heap.size + 1) (w.heap.size + 2) 0 a3 (.slice none 0 0) [] w4 from by
        rw [hw4]
        exact ⟨by rw [heap_drewN]; exact HS3.out, by rw [heap_drewN]; exact HD3.out, World.ownsRow_nil _ _ _ _, rfl, below_drewN HB3.out nq, ⟨[], rfl, rfl⟩, by omega, fun s h => by simp at h, hl, by omega, by omega, by rw [heap_drewN, HZ3.out]; omega⟩)
      have HT := Lib.hid (show l1.drop 2 = b.drop a3 by rw [HL1.out, List.drop_drop, ha3, HA1.out, show 4 + (4 + t1.length) = 4 + 4 + t1.length by omega])
      clear hw4 ha3 HS3 HD3 HB3 HZ3 ea3
      obtain ⟨i0, hi, hz0, hz1, hz2⟩ := info_parts infoStr
      have HI := Lib.hid hi
      have HZ0 := Lib.hid hz0
      have HZ1 := Lib.hid hz1
      have HZ2 := Lib.hid hz2
      clear hi hz0 hz1 hz2
      go_wp2
      go_loopw [6, 9] (fun av iv wr => ∃ (j a : Nat) (v : Value) (rs : List ByteArray), j ≤ kk ∧ av = .int .i64 a ∧ iv = .int .i64 j ∧ Hid (PSt w b t1 a3 (w.heap.size + 1) (w.heap.size + 2) j a v rs wr)) (fun _ iv _ => kk - (intOf iv).toNat)
      case atStart => exact ⟨0, a3, _, _, by omega, by first | rfl | rw [EA3.out], rfl, HP⟩
      case round =>
        clear HP
        obtain ⟨j, a, v, rs, hj, rfl, rfl, HP⟩ := hrel
        have HGA := Lib.hid (HG.out a wr HP.out.below (by have := HP.out.le; omega))
        obtain ⟨A, ca, hv⟩ := own_form HP.out.own
        subst hv
        by_cases hlt : j < kk
        · have hk' : (j : Int) < (kk : Int) := by omega
          cases hr : rdText (b.drop a) with
          | none =>
            have HN := Lib.hid (show getS b = none from getS_texts (j := j + 1) HR1.out (by
              obtain ⟨ts, h1, _⟩ := HP.out.texts
              rw [HT.out, rdTexts, h1, Option.bind_some, hr]; rfl) (by rw [← HKK.out]; omega))
            have HG6 := Lib.hid (HGA.out.mono fun e w2 h => show (∃ nq, w2 = wr.drewN nq) ∧ e = .returned (.tuple #[.string ⟨#[]⟩, .int .i64 0, .bool false]) from by
              obtain ⟨h1, h2⟩ := h; rw [hr] at h2; exact ⟨h1, h2⟩)
            clear hr HGA
            go_wp2_with fail
            refine HG6.out.mono ?_
            rintro e w5 ⟨⟨nq5, hw5⟩, rfl⟩
            have HP5 := Lib.hid (HP.out.drewN nq5)
            rw [← hw5] at HP5
            obtain ⟨hx0, hx1, hx2⟩ := three_cells HP5.out.res
            obtain ⟨hy0, hy1, hy2⟩ := three_cells HP5.out.drv
            have hg0 := blk_free HP5.out.res 0
            have hg1 := blk_free HP5.out.res 1
            have hg2 := blk_free HP5.out.res 2
            clear hw5
            go_wp2_with fail
            exact bodyPost_ret (v := .tuple #[.agg #[.string (strOf t1), .slice A rs.length ca, .string ⟨#[]⟩], .bool false]) (results_cell_tmp Tryz.results46 _ _ w.heap.size 28 _ (0, 0) _ _ rfl rfl (three_set HP5.out.res _ _ _) Tryz.underlying28 rfl infoDrv) rfl (HNO.out HN.out _ (three_below HP5.out.below (Nat.le_refl _) _ _ _) _ _ _ _ _)
          | some p =>
            obtain ⟨t, r⟩ := p
            have HG6 := Lib.hid (HGA.out.mono fun e w2 h => show (∃ nq, w2 = wr.drewN nq) ∧ e = .returned (.tuple #[.string (strOf t), .int .i64 ((a + 4 + t.length : Nat) : Int), .bool true]) from by
              obtain ⟨h1, h2⟩ := h; rw [hr] at h2; exact ⟨h1, h2⟩)
            have HRR := Lib.hid hr
            obtain ⟨an, han⟩ : ∃ an, an = a + 4 + t.length := ⟨_, rfl⟩
            rw [← han] at HG6
            have HAN := Lib.hid han
            clear hr HGA han
            go_wp2_with fail
            refine HG6.out.mono ?_
            rintro e w5 ⟨⟨nq5, hw5⟩, rfl⟩
            have HP5 := Lib.hid (HP.out.drewN nq5)
            rw [← hw5] at HP5
            obtain ⟨hy0, hy1, hy2⟩ := three_cells HP5.out.drv
            have hyf := blk_free HP5.out.drv 1
            have HNE := Lib.hid (show (Value.slice A rs.length ca).ownBlock ≠ some (w.heap.size + 1) from fun e => by have := (HP5.out.own.lt _ e).1; omega)
            have HRL := Lib.hid (show rs.length ≤ 65535 by rw [HP5.out.len]; omega)
            have hgs : w.heap.size + 1 < w5.heap.size := block_lt HP5.out.drv
            have hbs := HP5.out.ord.2.2
            clear hw5 HP
            go_wp2_with (at_builtin; refine wpList_append_own _ rfl _ _ 25 rfl (w.heap.size + 2) 9 i0 (.string ⟨#[]⟩) 1 16 Tryz.underlying25 HI.out HZ0.out HZ1.out HZ2.out rfl (by decide) _ _ _ rfl (HP5.out.own.alloc _) ⟨w5.heap.size, 0, none⟩ 1 1 [.string (strOf t)] rfl rfl ?c1 ?c2 ?c3 ?c4 ?c5 ?_)
            case c1 => exact cell_one_at _ _ _ _ rfl
            case c2 => intro u hu; simp at hu; subst hu; rfl
            case c3 => have := HRL.out; unfold maxLen; omega
            case c4 => have := HRL.out; omega
            case c5 => simp; omega
            intro v' w6 hown6 hgrow6 _
            have hz0 := (hgrow6.cell_far ⟨w.heap.size + 1, 1, none⟩ (by simp; omega) (fun e => HNE.out e.symm)).trans ((World.cell?_of_block (old_block w5 _ _ hgs)).trans hy1)
            have hz1 := (hgrow6.frozen_far ⟨w.heap.size + 1, 1, none⟩ (by simp; omega) (fun e => HNE.out e.symm)).trans (blk_free ((old_block w5 _ _ hgs).trans HP5.out.drv) 1)
            have HP6 := Lib.hid (HP5.out.step HRR.out hown6 hgrow6)
            rw [← HAN.out] at HP6
            obtain ⟨A6, c6, hv6⟩ := own_form hown6
            subst hv6
            clear hown6 hgrow6
            go_wp2_with fail
            go_roundw
            case rel => exact ⟨j + 1, an, _, _, by omega, rfl, by go_num, HP6⟩
            case measure => simp [intOf]; omega
        · obtain rfl : j = kk := by omega
          have hk' : ¬ (j : Int) < (j : Int) := by omega
          have HTX := Lib.hid (show ∃ ts, rdTexts (natOf (l1.take 2)) (l1.drop 2) = some (ts, b.drop a) ∧ rs = ts.map strOf from by rw [HT.out, ← HKK.out]; exact HP.out.texts)
          have h2l : 2 ≤ l1.length := by rw [HL1L.out]; omega
          cases hr : rdText (b.drop a) with
          | none =>
            have HN := Lib.hid (show getS b = none from by
              obtain ⟨ts, h1, _⟩ := HTX.out
              exact getS_last HM.out HR1.out h2l h1 hr)
            have HG6 := Lib.hid (HGA.out.mono fun e w2 h => show (∃ nq, w2 = wr.drewN nq) ∧ e = .returned (.tuple #[.string ⟨#[]⟩, .int .i64 0, .bool false]) from by
              obtain ⟨h1, h2⟩ := h; rw [hr] at h2; exact ⟨h1, h2⟩)
            clear hr HGA
            go_wp2_with fail
            refine HG6.out.mono ?_
            rintro e w5 ⟨⟨nq5, hw5⟩, rfl⟩
            have HP5 := Lib.hid (HP.out.drewN nq5)
            rw [← hw5] at HP5
            obtain ⟨hx0, hx1, hx2⟩ := three_cells HP5.out.res
            obtain ⟨hy0, hy1, hy2⟩ := three_cells HP5.out.drv
            have hyf := blk_free HP5.out.drv 2
            have hg0 := blk_free HP5.out.res 0
            have hg1 := blk_free HP5.out.res 1
            have hg2 := blk_free HP5.out.res 2
            clear hw5
            go_upto_region 20 with (fail)
            obtain ⟨w6, hw6⟩ : ∃ w6, w6 = w5.setCell ⟨w.heap.size + 1, 2, none⟩ (.string ⟨#[]⟩) := ⟨_, rfl⟩
            rw [← hw6]
            have HD6 := Lib.hid (show w6.heap[w.heap.size + 1]? = some (.cells #[.string (strOf t1), .slice A rs.length ca, .string ⟨#[]⟩] 28 (0, 0)) by rw [hw6]; exact blk_set HP5.out.drv 2 _)
            have HS6 := Lib.hid ((show w6.heap[w.heap.size]? = w5.heap[w.heap.size]? by rw [hw6]; exact Below.heap_setCell _ _ _ _ (show w.heap.size ≠ w.heap.size + 1 by omega)).trans HP5.out.res)
            have HB6 := Lib.hid (show Below w.heap.size w w6 by rw [hw6]; exact HP5.out.below.setCell (by show w.heap.size ≤ w.heap.size + 1; omega) _)
            have HO6 := Lib.hid (show w6.ownsRow (w.heap.size + 2) 9 1 (.slice A rs.length ca) rs.length (strs rs) by rw [hw6]; exact ownsRow_setCell_other HP5.out.own (a := ⟨w.heap.size + 1, 2, none⟩) (fun e => by have := (HP5.out.own.lt (w.heap.size + 1) e).1; omega) _)
            clear hw6 hx0 hx1 hx2 hy0 hy1 hy2 hyf hg0 hg1 hg2
            obtain ⟨hx0, hx1, hx2⟩ := three_cells HS6.out
            obtain ⟨hy0, hy1, hy2⟩ := three_cells HD6.out
            have hg0 := blk_free HS6.out 0
            have hg1 := blk_free HS6.out 1
            have hg2 := blk_free HS6.out 2
            go_region
            have HB7 := Lib.hid ((three_below HB6.out (Nat.le_refl _) (.string (strOf t1)) (.slice A rs.length ca) (.string ⟨#[]⟩)).drew)
            have HS7 := three_set HS6.out (.string (strOf t1)) (.slice A rs.length ca) (.string ⟨#[]⟩)
            go_wp2_with fail
            exact bodyPost_ret (v := .tuple #[.agg #[.string (strOf t1), .slice A rs.length ca, .string ⟨#[]⟩], .bool false]) (results_cell_tmp Tryz.results46 _ _ w.heap.size 28 _ (0, 0) _ _ rfl rfl HS7 Tryz.underlying28 rfl infoDrv) rfl (HNO.out HN.out _ HB7.out _ _ _ _ _)
          | some p =>
            obtain ⟨t, r⟩ := p
            have HDN := Lib.hid (show getS b = if a + 4 + t.length = b.length ∧ rightD (strOf t1) rs (strOf t) = true then some (strOf t1, rs, strOf t) else none from by
              obtain ⟨ts, h1, h2⟩ := HTX.out
              rw [h2]
              exact getS_done HM.out HR1.out h2l h1 HP.out.le hr)
            have HG6 := Lib.hid (HGA.out.mono fun e w2 h => show (∃ nq, w2 = wr.drewN nq) ∧ e = .returned (.tuple #[.string (strOf t), .int .i64 ((a + 4 + t.length : Nat) : Int), .bool true]) from by
              obtain ⟨h1, h2⟩ := h; rw [hr] at h2; exact ⟨h1, h2⟩)
            obtain ⟨hrr, hrl⟩ := rdText_rest hr
            rw [List.length_drop] at hrl
            have HTL := Lib.hid (show t.length ≤ 1000000 by omega)
            have HT1L := Lib.hid (show t1.length ≤ 1000000 by have := HA1.out; omega)
            have HSM := Lib.hid (fun (s : ByteArray) (hs : s ∈ rs) => show s.size ≤ maxLen from by have := HP.out.small s hs; unfold maxLen; omega)
            obtain ⟨an, han⟩ : ∃ an, an = a + 4 + t.length := ⟨_, rfl⟩
            rw [← han] at HG6
            rw [← han] at HDN
            clear hr HGA han hrr hrl
            go_wp2_with fail
            refine HG6.out.mono ?_
            rintro e w5 ⟨⟨nq5, hw5⟩, rfl⟩
            have HP5 := Lib.hid (HP.out.drewN nq5)
            rw [← hw5] at HP5
            obtain ⟨hx0, hx1, hx2⟩ := three_cells HP5.out.res
            obtain ⟨hy0, hy1, hy2⟩ := three_cells HP5.out.drv
            have hyf := blk_free HP5.out.drv 2
            have hg0 := blk_free HP5.out.res 0
            have hg1 := blk_free HP5.out.res 1
            have hg2 := blk_free HP5.out.res 2
            clear hw5
            go_upto_region 20 with (fail)
            obtain ⟨w6, hw6⟩ : ∃ w6, w6 = w5.setCell ⟨w.heap.size + 1, 2, none⟩ (.string (strOf t)) := ⟨_, rfl⟩
            rw [← hw6]
            have HD6 := Lib.hid (show w6.heap[w.heap.size + 1]? = some (.cells #[.string (strOf t1), .slice A rs.length ca, .string (strOf t)] 28 (0, 0)) by rw [hw6]; exact blk_set HP5.out.drv 2 _)
            have HS6 := Lib.hid ((show w6.heap[w.heap.size]? = w5.heap[w.heap.size]? by rw [hw6]; exact Below.heap_setCell _ _ _ _ (show w.heap.size ≠ w.heap.size + 1 by omega)).trans HP5.out.res)
            have HB6 := Lib.hid (show Below w.heap.size w w6 by rw [hw6]; exact HP5.out.below.setCell (by show w.heap.size ≤ w.heap.size + 1; omega) _)
            have HO6 := Lib.hid (show w6.ownsRow (w.heap.size + 2) 9 1 (.slice A rs.length ca) rs.length (strs rs) by rw [hw6]; exact ownsRow_setCell_other HP5.out.own (a := ⟨w.heap.size + 1, 2, none⟩) (fun e => by have := (HP5.out.own.lt (w.heap.size + 1) e).1; omega) _)
            clear hw6 hx0 hx1 hx2 hy0 hy1 hy2 hyf hg0 hg1 hg2
            obtain ⟨hx0, hx1, hx2⟩ := three_cells HS6.out
            obtain ⟨hy0, hy1, hy2⟩ := three_cells HD6.out
            have hg0 := blk_free HS6.out 0
            have hg1 := blk_free HS6.out 1
            have hg2 := blk_free HS6.out 2
            by_cases heq : an = b.length
            · have heqb : ((an : Int) == (b.length : Int)) = true := by rw [heq]; simp
              have heqd : decide ((an : Int) = (b.length : Int)) = true := by rw [heq]; simp
              have HKS := Lib.hid (fun (w' : World) (x y z : Value) (h : w'.cell? ⟨w.heap.size + 1, 0, none⟩ = some (.string (strOf t1)) ∧ w'.cell? ⟨w.heap.size + 1, 1, none⟩ = some (.slice A rs.length ca) ∧ w'.cell? ⟨w.heap.size + 1, 2, none⟩ = some (.string (strOf t))) => show (((w'.setCell ⟨w.heap.size, 0, none⟩ x).setCell ⟨w.heap.size, 1, none⟩ y).setCell ⟨w.heap.size, 2, none⟩ z).cell? ⟨w.heap.size + 1, 0, none⟩ = some (.string (strOf t1)) ∧ (((w'.setCell ⟨w.heap.size, 0, none⟩ x).setCell ⟨w.heap.size, 1, none⟩ y).setCell ⟨w.heap.size, 2, none⟩ z).cell? ⟨w.heap.size + 1, 1, none⟩ = some (.slice A rs.length ca) ∧ (((w'.setCell ⟨w.heap.size, 0, none⟩ x).setCell ⟨w.heap.size, 1, none⟩ y).setCell ⟨w.heap.size, 2, none⟩ z).cell? ⟨w.heap.size + 1, 2, none⟩ = some (.string (strOf t)) from ⟨three_other h.1 (by omega) x y z, three_other h.2.1 (by omega) x y z, three_other h.2.2 (by omega) x y z⟩)
              have HKK := Lib.hid (fun (w' : World) (h : KeepW w6 w6.heap.size w') => show w'.cell? ⟨w.heap.size + 1, 0, none⟩ = some (.string (strOf t1)) ∧ w'.cell? ⟨w.heap.size + 1, 1, none⟩ = some (.slice A rs.length ca) ∧ w'.cell? ⟨w.heap.size + 1, 2, none⟩ = some (.string (strOf t)) from three_cells ((h.1.block _ (block_lt HD6.out)).trans HD6.out))
              have HK0 := Lib.hid (KeepW.start (Nat.le_refl w6.heap.size))
              have HRS := Lib.hid (fun (w' : World) (h : KeepW w6 w6.heap.size w') => show w'.cell? ⟨w.heap.size, 0, none⟩ = some (.string ⟨#[]⟩) ∧ w'.cell? ⟨w.heap.size, 1, none⟩ = some (.slice none 0 0) ∧ w'.cell? ⟨w.heap.size, 2, none⟩ = some (.string ⟨#[]⟩) ∧ w'.frozen? ⟨w.heap.size, 0, none⟩ = false ∧ w'.frozen? ⟨w.heap.size, 1, none⟩ = false ∧ w'.frozen? ⟨w.heap.size, 2, none⟩ = false from by
                have h1 := (h.1.block _ (block_lt HS6.out)).trans HS6.out
                exact ⟨(three_cells h1).1, (three_cells h1).2.1, (three_cells h1).2.2, blk_free h1 0, blk_free h1 1, blk_free h1 2⟩)
              have HRT := Lib.hid (fun (w' : World) (h : KeepW w6 w6.heap.size w') => refRight_drv (strOf t1) (.slice A rs.length ca) rs (strOf t) w' (RdS.own (own_below HO6.out h.1 (Nat.le_refl _))).all HSM.out (by rw [strOf_size]; have := HT1L.out; unfold maxLen; omega) (by rw [strOf_size]; have := HTL.out; unfold maxLen; omega))
              cases hrd : rightD (strOf t1) rs (strOf t)
              · have HN := Lib.hid (show getS b = none by rw [HDN.out, if_neg (fun e => by have := e.2; rw [hrd] at this; cases this)])
                have HRT2 := Lib.hid (fun (w' : World) (h : KeepW w6 w6.heap.size w') => hrd ▸ HRT.out w' h)
                clear hrd HRT heq
                go_region_held3 (fun w' => w'.cell? ⟨w.heap.size + 1, 0, none⟩ = some (.string (strOf t1)) ∧ w'.cell? ⟨w.heap.size + 1, 1, none⟩ = some (.slice A rs.length ca) ∧ w'.cell? ⟨w.heap.size + 1, 2, none⟩ = some (.string (strOf t))) (first | exact HKS.out _ _ _ _ (by assumption) | exact HKK.out _ (by first | assumption | exact KeepW.drew HK0.out) | go_keep) ((go_at_call 18; refine (HRT2.out _ (by first | assumption | exact KeepW.drew HK0.out)).mono ?_; rintro e w7 ⟨rfl, hb7⟩; have hk7 := (KeepW.drew HK0.out).step hb7; obtain ⟨hz0, hz1, hz2, hz3, hz4, hz5⟩ := HRS.out w7 hk7))
                have HS7 := Lib.hid ((hk7.1.block _ (block_lt HS6.out)).trans HS6.out)
                have HB7 := Lib.hid (below_step HB6.out hk7.1 HB6.out.size)
                clear hz0 hz1 hz2 hz3 hz4 hz5 hb7 hk7
                go_wp2_with fail
                exact bodyPost_ret (v := .tuple #[.agg #[.string (strOf t1), .slice A rs.length ca, .string (strOf t)], .bool false]) (results_cell_tmp Tryz.results46 _ _ w.heap.size 28 _ (0, 0) _ _ rfl rfl (three_set HS7.out _ _ _) Tryz.underlying28 rfl infoDrv) rfl (HNO.out HN.out _ (three_below HB7.out (Nat.le_refl _) _ _ _) _ _ _ _ _)
              · have HN := Lib.hid (show getS b = some (strOf t1, rs, strOf t) by rw [HDN.out, if_pos ⟨heq, hrd⟩])
                have HRT2 := Lib.hid (fun (w' : World) (h : KeepW w6 w6.heap.size w') => hrd ▸ HRT.out w' h)
                clear hrd HRT heq
                go_region_held3 (fun w' => w'.cell? ⟨w.heap.size + 1, 0, none⟩ = some (.string (strOf t1)) ∧ w'.cell? ⟨w.heap.size + 1, 1, none⟩ = some (.slice A rs.length ca) ∧ w'.cell? ⟨w.heap.size + 1, 2, none⟩ = some (.string (strOf t))) (first | exact HKS.out _ _ _ _ (by assumption) | exact HKK.out _ (by first | assumption | exact KeepW.drew HK0.out) | go_keep) ((go_at_call 18; refine (HRT2.out _ (by first | assumption | exact KeepW.drew HK0.out)).mono ?_; rintro e w7 ⟨rfl, hb7⟩; have hk7 := (KeepW.drew HK0.out).step hb7; obtain ⟨hz0, hz1, hz2, hz3, hz4, hz5⟩ := HRS.out w7 hk7))
                have HS7 := Lib.hid ((hk7.1.block _ (block_lt HS6.out)).trans HS6.out)
                have HB7 := Lib.hid (below_step HB6.out hk7.1 HB6.out.size)
                have HO7 := Lib.hid (own_below HO6.out hk7.1 (Nat.le_refl _))
                clear hz0 hz1 hz2 hz3 hz4 hz5 hb7 hk7
                go_wp2_with fail
                exact bodyPost_ret (v := .tuple #[.agg #[.string (strOf t1), .slice A rs.length ca, .string (strOf t)], .bool true]) (results_cell_tmp Tryz.results46 _ _ w.heap.size 28 _ (0, 0) _ _ rfl rfl (three_set HS7.out _ _ _) Tryz.underlying28 rfl infoDrv) rfl (HYES.out _ _ _ _ _ HN.out (three_below HB7.out (Nat.le_refl _) _ _ _) (own_base (three_own HO7.out (g := w.heap.size) (fun e => by have := (HO7.out.lt _ e).1; omega) _ _ _) (by omega)))
            · have HN := Lib.hid (show getS b = none by rw [HDN.out, if_neg (fun e => heq e.1)])
              have heqb : ((an : Int) == (b.length : Int)) = false := by rw [beq_eq_false_iff_ne]; omega
              clear heq
              go_region
              have HB7 := Lib.hid ((three_below HB6.out (Nat.le_refl _) (.string (strOf t1)) (.slice A rs.length ca) (.string (strOf t))).drew)
              have HS7 := three_set HS6.out (.string (strOf t1)) (.slice A rs.length ca) (.string (strOf t))
              go_wp2_with fail
              exact bodyPost_ret (v := .tuple #[.agg #[.string (strOf t1), .slice A rs.length ca, .string (strOf t)], .bool false]) (results_cell_tmp Tryz.results46 _ _ w.heap.size 28 _ (0, 0) _ _ rfl rfl HS7 Tryz.underlying28 rfl infoDrv) rfl (HNO.out HN.out _ HB7.out _ _ _ _ _)
    · have h2i : (b.length : Int) < (a1 : Int) + 2 := by omega
      have HN := Lib.hid (getS_two HR1.out (show ¬ 2 ≤ l1.length by rw [HL1L.out]; omega))
      clear h2
      go_wp2_with fail
      exact bodyPost_ret (v := .tuple #[.agg #[.string ⟨#[]⟩, .slice none 0 0, .string ⟨#[]⟩], .bool false]) (results_cell_tmp Tryz.results46 _ _ w.heap.size 28 _ (0, 0) _ _ rfl rfl (three_set HS2.out _ _ _) Tryz.underlying28 rfl infoDrv) rfl (HNO.out HN.out _ (three_below HB2.out (Nat.le_refl _) _ _ _) _ _ _ _ _)
theorem parts_any (u : Value) (b : List UInt8) (w : World) (hu : Byt w u b) (hl : b.length ≤ 1000000) :
    Calls Tryz.prog 46 #[u] w (PartsP b w) := by
  cases hm : magic.isPrefixOf b
  · exact parts_early u b w hu hl hm
  · exact parts_late u b w hu hl hm
end Go.Proofs.YtbniilajffjfcaaGreatDoor
