/- The contract of Block. -/
import Derived.Test.YtbniilajffjfcaaGreatDoorDmS1
set_option linter.unusedVariables false
set_option linter.unusedSimpArgs false
namespace Go.Proofs.YtbniilajffjfcaaGreatDoor.Sha
open Go.RowKit

set_option maxRecDepth 100000 in
set_option maxHeartbeats 2000000 in
theorem block_any (c : Nat → UInt32) (B : Nat → Nat) (hB : ∀ i, B i < 256) (w : World) (ht : Tabs w) :
    Calls Tryz.prog 77 #[.agg (wrow c 8), .agg (digA B 64)] w fun e w' => e = .returned (.agg (wrow (block c B) 8)) ∧ Below w.heap.size w w' := by
  have HB := Lib.hid hB
  have HT := Lib.hid ht
  clear hB ht
  go_enter Tryz.func77, Tryz.ntmps77
  go_upto_region 1 with (fail)
  rw [zeros8]
  obtain ⟨w1, hw1, hgC, hgB, hgR, hb, hsz⟩ := rows3 w (.cells (wrow c 8) 98) (.cells (digA B 64) 104) (.cells (wrow (fun _ => 0) 8) 98)
  rw [← hw1]
  clear hw1
  go_wp2_with (refine wpList_load_row rfl 104 _ rfl (w.heap.size + 1) rfl 104 _ (0, 0) _ hgB Tryz.underlying104 rfl (by rw [digA_size]; exact info64) ?_)
  refine (words_any B HB.out _).mono ?_
  rintro e w2 ⟨rfl, hb2⟩
  rw [ring_start]
  have hgC2 := (hb2.block w.heap.size (by omega)).trans hgC
  have hgR2 := (hb2.block (w.heap.size + 2) (by omega)).trans hgR
  have hB2 := below_step hb hb2 hb.size
  have hz2 : w.heap.size + 3 ≤ w2.heap.size := by have := hb2.size; omega
  clear hgC hgR hb hb2 hsz hgB
  go_upto_region 2 with (refine wpList_store_row rfl 138 _ _ rfl w2.heap.size (wrow (ringAt B 0) 16) rfl rfl 138 _ (heap_alloc_new _ _) (by rw [wrow_size]; exact info16w) (by rw [wrow_size]; rfl) (wrow_ok _ _) ?_)
  obtain ⟨w3, hw3, hgX, hold, hB3, hz3⟩ := row_put w.heap.size w w2 #[Value.int IntKind.u32 0, Value.int IntKind.u32 0, Value.int IntKind.u32 0, Value.int IntKind.u32 0, Value.int IntKind.u32 0, Value.int IntKind.u32 0, Value.int IntKind.u32 0, Value.int IntKind.u32 0, Value.int IntKind.u32 0, Value.int IntKind.u32 0, Value.int IntKind.u32 0, Value.int IntKind.u32 0, Value.int IntKind.u32 0, Value.int IntKind.u32 0, Value.int IntKind.u32 0, Value.int IntKind.u32 0] (wrow (ringAt B 0) 16) 138 hB2 (by omega)
  rw [← hw3]
  have hgC3 := (hold w.heap.size (by omega)).trans hgC2
  have hgR3 := (hold (w.heap.size + 2) (by omega)).trans hgR2
  generalize hr : w2.heap.size = r at *
  clear hw3 hold hgC2 hgR2 hB2 w1 hr w2
  have hc0 : w3.cell? ⟨w.heap.size, 0, none⟩ = some (.int .u32 ((c 0).toNat : Int)) := by rw [cell_of_row _ _ _ _ _ _ hgC3]; rfl
  have hc1 : w3.cell? ⟨w.heap.size, 1, none⟩ = some (.int .u32 ((c 1).toNat : Int)) := by rw [cell_of_row _ _ _ _ _ _ hgC3]; rfl
  have hc2 : w3.cell? ⟨w.heap.size, 2, none⟩ = some (.int .u32 ((c 2).toNat : Int)) := by rw [cell_of_row _ _ _ _ _ _ hgC3]; rfl
  have hc3 : w3.cell? ⟨w.heap.size, 3, none⟩ = some (.int .u32 ((c 3).toNat : Int)) := by rw [cell_of_row _ _ _ _ _ _ hgC3]; rfl
  have hc4 : w3.cell? ⟨w.heap.size, 4, none⟩ = some (.int .u32 ((c 4).toNat : Int)) := by rw [cell_of_row _ _ _ _ _ _ hgC3]; rfl
  have hc5 : w3.cell? ⟨w.heap.size, 5, none⟩ = some (.int .u32 ((c 5).toNat : Int)) := by rw [cell_of_row _ _ _ _ _ _ hgC3]; rfl
  have hc6 : w3.cell? ⟨w.heap.size, 6, none⟩ = some (.int .u32 ((c 6).toNat : Int)) := by rw [cell_of_row _ _ _ _ _ _ hgC3]; rfl
  have hc7 : w3.cell? ⟨w.heap.size, 7, none⟩ = some (.int .u32 ((c 7).toNat : Int)) := by rw [cell_of_row _ _ _ _ _ _ hgC3]; rfl
  go_quiet (fail)
  rename Nat => nq0
  go_wp2
  go_quiet (fail)
  clear hc0 hc1 hc2 hc3 hc4 hc5 hc6 hc7
  go_wp2
  have hB4 := below_drewN (below_drewN hB3 nq0) nq
  have hgX4 : ((w3.drewN nq0).drewN nq).heap[r]? = some (.cells (wrow (ringAt B 0) 16) 138) := hgX
  have hgC4 : ((w3.drewN nq0).drewN nq).heap[w.heap.size]? = some (.cells (wrow c 8) 98) := hgC3
  have hgR4 : ((w3.drewN nq0).drewN nq).heap[w.heap.size + 2]? = some (.cells (wrow (fun _ => 0) 8) 98) := hgR3
  generalize (w3.drewN nq0).drewN nq = w4 at *
  clear hgX hgC3 hgR3 hB3 hz3
  go_loopw [6, 7, 8, 9, 10, 11, 12, 13, 39] (fun va vb vc vd ve vf vg vh i wr => ∃ (t : Nat) (a b c' d e f g h : UInt32), t ≤ 64 ∧ i = .int .i64 t ∧ va = .int .u32 a.toNat ∧ vb = .int .u32 b.toNat ∧ vc = .int .u32 c'.toNat ∧ vd = .int .u32 d.toNat ∧ ve = .int .u32 e.toNat ∧ vf = .int .u32 f.toNat ∧ vg = .int .u32 g.toNat ∧ vh = .int .u32 h.toNat ∧ Hid (⟨a, b, c', d, e, f, g, h⟩ = rounds (wAt B) (stOf c) t) ∧ wr.heap[r]? = some (.cells (wrow (ringAt B t) 16) 138) ∧ wr.heap[w.heap.size]? = some (.cells (wrow c 8) 98) ∧ wr.heap[w.heap.size + 2]? = some (.cells (wrow (fun _ => 0) 8) 98) ∧ Below w.heap.size w wr) (fun _ _ _ _ _ _ _ _ i _ => 64 - (intOf i).toNat)
  case atStart => exact ⟨0, c 0, c 1, c 2, c 3, c 4, c 5, c 6, c 7, by omega, rfl, rfl, rfl, rfl, rfl, rfl, rfl, rfl, rfl, Lib.hid rfl, hgX4, hgC4, hgR4, hB4⟩
  case round =>
    clear hgX4 hgC4 hgR4 hB4
    obtain ⟨t, a, b, c', d, e, f, g, h, ht, rfl, rfl, rfl, rfl, rfl, rfl, rfl, rfl, rfl, HS, hgX, hgC, hgR, hB⟩ := hrel
    by_cases hlt : t < 64
    · by_cases h16 : t < 16
      · have hd16 : decide (16 ≤ (t : Int)) = false := decide_eq_false (by omega)
        have i64' : (t : Int) < 64 := by omega
        have i16 : (t : Int) < 16 := by omega
        have r0 : (t : Int).tmod 16 = (t : Int) := by rw [Int.tmod_eq_emod_of_nonneg (by omega)]; omega
        have HYY := Lib.hid (ring_low B t h16)
        have hgX' := hgX
        rw [← ring_keep B t h16] at hgX'
        obtain ⟨y1, Y1⟩ : ∃ z, Hid (z = ringAt B t t) := ⟨_, Lib.hid rfl⟩
        have c09 : wr.cell? ⟨r, t, none⟩ = some (.int .u32 (y1.toNat : Int)) := by
          rw [cell_of_row _ _ _ _ _ _ hgX, wrow_get _ _ _ h16, Y1.out]
        clear hgX
        have HY1 := Lib.hid (Y1.out.trans HYY.out)
        clear Y1 HYY
        go_wp2
        obtain ⟨kk, KK⟩ : ∃ z, Hid (z = kW (t)) := ⟨_, Lib.hid rfl⟩
        have hkc : wr.cell? ⟨1, t, none⟩ = some (.int .u32 (kk.toNat : Int)) := by
          rw [KK.out]; exact (HT.out.below hB).2.1 _ hlt
        obtain ⟨s1, S1, l1⟩ := ex_xor (rotr e 6) (rotr e 11)
        obtain ⟨s2, S2, l2⟩ := ex_xor s1 (rotr e 25)
        obtain ⟨s3, S3, l3, l3'⟩ := ex_add h s2
        obtain ⟨s4, S4, l4⟩ := ex_and e f
        obtain ⟨s5, S5, l5⟩ := ex_not e
        obtain ⟨s6, S6, l6⟩ := ex_and s5 g
        obtain ⟨s7, S7, l7⟩ := ex_or s4 s6
        obtain ⟨s8, S8, l8, l8'⟩ := ex_add s3 s7
        obtain ⟨s9, S9, l9, l9'⟩ := ex_add s8 kk
        obtain ⟨x, X, l10, l10'⟩ := ex_add s9 y1
        go_quiet ((first | (go_at_call 97; exact Calls.quiet_of_same (right_at 6 _ _ _ rfl (by decide) (by decide))) | (go_at_call 97; exact Calls.quiet_of_same (right_at 11 _ _ _ rfl (by decide) (by decide))) | (go_at_call 97; exact Calls.quiet_of_same (right_at 25 _ _ _ rfl (by decide) (by decide)))))
        have HRAW := Lib.hid (raw_x S5 S6 S7 S8 S9 X)
        clear l1 l2 l3 l3' l4 l5 l6 l7 l8 l8' l9 l9' l10 l10' hkc c09 r0 i64' i16
        obtain ⟨t1, T1, l1⟩ := ex_xor (rotr a 2) (rotr a 13)
        obtain ⟨t2, T2, l2⟩ := ex_xor t1 (rotr a 22)
        obtain ⟨t3, T3, l3⟩ := ex_and a b
        obtain ⟨t4, T4, l4⟩ := ex_and a c'
        obtain ⟨t5, T5, l5⟩ := ex_or t3 t4
        obtain ⟨t6, T6, l6⟩ := ex_and b c'
        obtain ⟨t7, T7, l7⟩ := ex_or t5 t6
        obtain ⟨v, V, l8, l8'⟩ := ex_add t2 t7
        obtain ⟨dn, DN, l9, l9'⟩ := ex_add d x
        obtain ⟨an, AN, l10, l10'⟩ := ex_add x v
        have L9 := Lib.hid l9'
        have L10 := Lib.hid l10'
        obtain ⟨wz, hwz, hgXz, hgCz, hgRz, hBz⟩ : ∃ wz, wz = wr.drewN nq ∧ wz.heap[r]? = wr.heap[r]? ∧ wz.heap[w.heap.size]? = some (.cells (wrow c 8) 98) ∧ wz.heap[w.heap.size + 2]? = some (.cells (wrow (fun _ => 0) 8) 98) ∧ Below w.heap.size w wz := ⟨_, rfl, rfl, hgC, hgR, below_drewN hB nq⟩
        rw [← hwz]
        rw [hgX'] at hgXz
        clear hwz hgX' hgC hgR hB
        have HR := Lib.hid (show (⟨an, a, b, c', dn, e, f, g⟩ : St) = rounds (wAt B) (stOf c) (t + 1) by rw [rnd_of S1 S2 S3 S4 S5 S6 S7 S8 S9 X T1 T2 T3 T4 T5 T6 T7 V DN AN, rounds, ← HS.out, KK.out, HY1.out])
        clear S1 S2 S3 S4 S5 S6 S7 S8 S9 X T1 T2 T3 T4 T5 T6 T7 V DN AN HS KK
        go_wp2_with fail
        refine (right_at 2 a 2 _ rfl (by decide) (by decide)).mono ?_
        rintro _ _ ⟨rfl, rfl⟩
        go_wp2_with fail
        refine (right_at 13 a 13 _ rfl (by decide) (by decide)).mono ?_
        rintro _ _ ⟨rfl, rfl⟩
        go_wp2_with fail
        refine (right_at 22 a 22 _ rfl (by decide) (by decide)).mono ?_
        rintro _ _ ⟨rfl, rfl⟩
        go_wp2_with fail
        go_roundw
        case rel => exact ⟨t + 1, an, a, b, c', dn, e, f, g, by omega, by go_num, (by first | rfl | (rw [HRAW.out]; exact val_int L10.out)), rfl, rfl, rfl, (by first | rfl | (rw [HRAW.out]; exact val_int L9.out)), rfl, rfl, rfl, HR, hgXz, hgCz, hgRz, hBz⟩
        case measure => simp [intOf]; omega
      · obtain ⟨q, rfl⟩ : ∃ q, t = q + 16 := ⟨t - 16, by omega⟩
        obtain ⟨n0, N0⟩ : ∃ n, Hid (n = (q + 16) % 16) := ⟨_, Lib.hid rfl⟩
        obtain ⟨n1, N1⟩ : ∃ n, Hid (n = (q + 1) % 16) := ⟨_, Lib.hid rfl⟩
        obtain ⟨n9, N9⟩ : ∃ n, Hid (n = (q + 9) % 16) := ⟨_, Lib.hid rfl⟩
        obtain ⟨n14, N14⟩ : ∃ n, Hid (n = (q + 14) % 16) := ⟨_, Lib.hid rfl⟩
        have b0 : n0 < 16 := by have := N0.out; omega
        have b1 : n1 < 16 := by have := N1.out; omega
        have b9 : n9 < 16 := by have := N9.out; omega
        have b14 : n14 < 16 := by have := N14.out; omega
        have i0 : (n0 : Int) < 16 := by omega
        have i1 : (n1 : Int) < 16 := by omega
        have i9 : (n9 : Int) < 16 := by omega
        have i14 : (n14 : Int) < 16 := by omega
        obtain ⟨z0, Z0⟩ : ∃ z, Hid (z = wAt B q) := ⟨_, Lib.hid rfl⟩
        obtain ⟨z1, Z1⟩ : ∃ z, Hid (z = wAt B (q + 1)) := ⟨_, Lib.hid rfl⟩
        obtain ⟨z9, Z9⟩ : ∃ z, Hid (z = wAt B (q + 9)) := ⟨_, Lib.hid rfl⟩
        obtain ⟨z14, Z14⟩ : ∃ z, Hid (z = wAt B (q + 14)) := ⟨_, Lib.hid rfl⟩
        have c0 : wr.cell? ⟨r, n0, none⟩ = some (.int .u32 (z0.toNat : Int)) := by
          rw [cell_of_row _ _ _ _ _ _ hgX, wrow_get _ _ _ b0, Z0.out, ringAt, show idx (q + 16) n0 = q from by have := N0.out; unfold idx; split <;> omega]
        have c1 : wr.cell? ⟨r, n1, none⟩ = some (.int .u32 (z1.toNat : Int)) := by
          rw [cell_of_row _ _ _ _ _ _ hgX, wrow_get _ _ _ b1, Z1.out, ringAt, show idx (q + 16) n1 = q + 1 from by have := N1.out; unfold idx; split <;> omega]
        have c9 : wr.cell? ⟨r, n9, none⟩ = some (.int .u32 (z9.toNat : Int)) := by
          rw [cell_of_row _ _ _ _ _ _ hgX, wrow_get _ _ _ b9, Z9.out, ringAt, show idx (q + 16) n9 = q + 9 from by have := N9.out; unfold idx; split <;> omega]
        have c14 : wr.cell? ⟨r, n14, none⟩ = some (.int .u32 (z14.toNat : Int)) := by
          rw [cell_of_row _ _ _ _ _ _ hgX, wrow_get _ _ _ b14, Z14.out, ringAt, show idx (q + 16) n14 = q + 14 from by have := N14.out; unfold idx; split <;> omega]
        have fr : ∀ j, wr.frozen? ⟨r, j, none⟩ = false := fun j => frozen_of_row _ _ _ _ _ hgX
        have r15 : (IntKind.i64.wrap ((q : Int) + 16 - 15)).tmod 16 = (n1 : Int) := by
          rw [IntWalk.i64_in _ (by omega), Int.tmod_eq_emod_of_nonneg (by omega)]; have := N1.out; omega
        have r2 : (IntKind.i64.wrap ((q : Int) + 16 - 2)).tmod 16 = (n14 : Int) := by
          rw [IntWalk.i64_in _ (by omega), Int.tmod_eq_emod_of_nonneg (by omega)]; have := N14.out; omega
        have r7 : (IntKind.i64.wrap ((q : Int) + 16 - 7)).tmod 16 = (n9 : Int) := by
          rw [IntWalk.i64_in _ (by omega), Int.tmod_eq_emod_of_nonneg (by omega)]; have := N9.out; omega
        have r0 : ((q : Int) + 16).tmod 16 = (n0 : Int) := by
          rw [Int.tmod_eq_emod_of_nonneg (by omega)]; have := N0.out; omega
        have hd16 : decide (16 ≤ (q : Int) + 16) = true := decide_eq_true (by omega)
        go_wp2
        go_quiet (fail)
        clear r15 r2 c1 c14 b1 b14 i1 i14 N1 N14
        obtain ⟨p1, P1, k1⟩ := ex_xor (rotr z1 7) (rotr z1 18)
        obtain ⟨p2, P2, k2⟩ := ex_shr z1 3
        rw [show (2 : Int) ^ 3 = 8 from rfl] at k2
        obtain ⟨p3, P3, k3⟩ := ex_xor p1 p2
        obtain ⟨y0, Y0, k4, k4'⟩ := ex_add z0 p3
        obtain ⟨w5, hw5, c05, c95, fr5, hgX5, hgC5, hgR5, hB5⟩ := drawn_facts wr r w.heap.size nq n0 n9 _ _ _ _ _ c0 c9 fr hgX hgC hgR hB
        rw [← hw5]
        clear hw5 c0 c9 fr hgX hgC hgR hB
        go_wp2
        refine wp_region_still_tail 14 (by kernel_rfl) (by kernel_rfl) ?_
        simp only [List.take_succ_cons, List.take_zero, List.drop_succ_cons, List.drop_zero]
        repeat (first | still_step | still_call (right_at 7 _ _ _ rfl (by decide) (by decide)) | still_call (right_at 18 _ _ _ rfl (by decide) (by decide)))
        refine wpStill_nil ?_
        change wpList _ _ _ _ _ w5.drew
        obtain ⟨w6, hw6, c06, c96, fr6, hgX6, hgC6, hgR6, hB6⟩ := drawn_facts w5 r w.heap.size 1 n0 n9 _ _ _ _ _ c05 c95 fr5 hgX5 hgC5 hgR5 hB5
        rw [show w5.drew = w6 from hw6.symm]
        clear hw6 c05 c95 fr5 hgX5 hgC5 hgR5 hB5
        have hne : n9 ≠ n0 := by have := N0.out; have := N9.out; omega
        obtain ⟨w7, hw7, c07, c97, fr7, hgX7, hgC7, hgR7, hB7⟩ := stored_facts w6 r w.heap.size n0 n9 _ (.int .u32 (y0.toNat : Int)) _ _ _ _ _ hne c06 c96 fr6 hgX6 hgC6 hgR6 hB6 (by omega)
        go_wp2
        rw [← hw7]
        clear hw7 c06 c96 fr6 hgX6 hgC6 hgR6 hB6 k1 k2 k3 k4 k4'
        obtain ⟨q1, Q1, k1⟩ := ex_xor (rotr z14 17) (rotr z14 19)
        obtain ⟨q2, Q2, k2⟩ := ex_shr z14 10
        rw [show (2 : Int) ^ 10 = 1024 from rfl] at k2
        obtain ⟨q3, Q3, k3⟩ := ex_xor q1 q2
        obtain ⟨q4, Q4, k4, k4'⟩ := ex_add z9 q3
        obtain ⟨y1, Y1, k5, k5'⟩ := ex_add y0 q4
        refine wp_region_still_tail 20 (by kernel_rfl) (by kernel_rfl) ?_
        simp only [List.take_succ_cons, List.take_zero, List.drop_succ_cons, List.drop_zero]
        repeat (first | still_step | still_call (right_at 17 _ _ _ rfl (by decide) (by decide)) | still_call (right_at 19 _ _ _ rfl (by decide) (by decide)))
        refine wpStill_nil ?_
        change wpList _ _ _ _ _ w7.drew
        obtain ⟨w8, hw8, c08, c98, fr8, hgX8, hgC8, hgR8, hB8⟩ := drawn_facts w7 r w.heap.size 1 n0 n9 _ _ _ _ _ c07 c97 fr7 hgX7 hgC7 hgR7 hB7
        rw [show w7.drew = w8 from hw8.symm]
        clear hw8 c07 c97 fr7 hgX7 hgC7 hgR7 hB7
        obtain ⟨w9, hw9, c09, c99, fr9, hgX9, hgC9, hgR9, hB9⟩ := stored_facts w8 r w.heap.size n0 n9 _ (.int .u32 (y1.toNat : Int)) _ _ _ _ _ hne c08 c98 fr8 hgX8 hgC8 hgR8 hB8 (by omega)
        go_wp2
        rw [← hw9]
        clear hw9 c08 c98 fr8 hgX8 hgC8 hgR8 hB8 k1 k2 k3 k4 k5 k4' k5' c99 fr9
        have HYY := Lib.hid (word_up B q (by omega) Z0 Z1 Z9 Z14 P1 P2 P3 Y0 Q1 Q2 Q3 Q4 Y1)
        rw [ring_set B (q + 16) n0 (by omega) N0.out _ y1 HYY.out] at hgX9
        clear Z0 Z1 Z9 Z14 P1 P2 P3 Y0 Q1 Q2 Q3 Q4 Y1
        have i64' : (q : Int) + 16 < 64 := by omega
        obtain ⟨kk, KK⟩ : ∃ z, Hid (z = kW (q + 16)) := ⟨_, Lib.hid rfl⟩
        have hkc : w9.cell? ⟨1, q + 16, none⟩ = some (.int .u32 (kk.toNat : Int)) := by
          rw [KK.out]; exact (HT.out.below hB9).2.1 _ hlt
        obtain ⟨s1, S1, l1⟩ := ex_xor (rotr e 6) (rotr e 11)
        obtain ⟨s2, S2, l2⟩ := ex_xor s1 (rotr e 25)
        obtain ⟨s3, S3, l3, l3'⟩ := ex_add h s2
        obtain ⟨s4, S4, l4⟩ := ex_and e f
        obtain ⟨s5, S5, l5⟩ := ex_not e
        obtain ⟨s6, S6, l6⟩ := ex_and s5 g
        obtain ⟨s7, S7, l7⟩ := ex_or s4 s6
        obtain ⟨s8, S8, l8, l8'⟩ := ex_add s3 s7
        obtain ⟨s9, S9, l9, l9'⟩ := ex_add s8 kk
        obtain ⟨x, X, l10, l10'⟩ := ex_add s9 y1
        go_quiet ((first | (go_at_call 97; exact Calls.quiet_of_same (right_at 6 _ _ _ rfl (by decide) (by decide))) | (go_at_call 97; exact Calls.quiet_of_same (right_at 11 _ _ _ rfl (by decide) (by decide))) | (go_at_call 97; exact Calls.quiet_of_same (right_at 25 _ _ _ rfl (by decide) (by decide)))))
        have HRAW := Lib.hid (raw_x S5 S6 S7 S8 S9 X)
        clear l1 l2 l3 l3' l4 l5 l6 l7 l8 l8' l9 l9' l10 l10' hkc c09 r0 r7 i64'
        obtain ⟨t1, T1, l1⟩ := ex_xor (rotr a 2) (rotr a 13)
        obtain ⟨t2, T2, l2⟩ := ex_xor t1 (rotr a 22)
        obtain ⟨t3, T3, l3⟩ := ex_and a b
        obtain ⟨t4, T4, l4⟩ := ex_and a c'
        obtain ⟨t5, T5, l5⟩ := ex_or t3 t4
        obtain ⟨t6, T6, l6⟩ := ex_and b c'
        obtain ⟨t7, T7, l7⟩ := ex_or t5 t6
        obtain ⟨v, V, l8, l8'⟩ := ex_add t2 t7
        obtain ⟨dn, DN, l9, l9'⟩ := ex_add d x
        obtain ⟨an, AN, l10, l10'⟩ := ex_add x v
        have L9 := Lib.hid l9'
        have L10 := Lib.hid l10'
        obtain ⟨wz, hwz, hgXz, hgCz, hgRz, hBz⟩ : ∃ wz, wz = w9.drewN nq ∧ wz.heap[r]? = w9.heap[r]? ∧ wz.heap[w.heap.size]? = some (.cells (wrow c 8) 98) ∧ wz.heap[w.heap.size + 2]? = some (.cells (wrow (fun _ => 0) 8) 98) ∧ Below w.heap.size w wz := ⟨_, rfl, rfl, hgC9, hgR9, below_drewN hB9 nq⟩
        rw [← hwz]
        rw [hgX9] at hgXz
        clear hwz hgX9 hgC9 hgR9 hB9
        have HR := Lib.hid (show (⟨an, a, b, c', dn, e, f, g⟩ : St) = rounds (wAt B) (stOf c) (q + 16 + 1) by rw [rnd_of S1 S2 S3 S4 S5 S6 S7 S8 S9 X T1 T2 T3 T4 T5 T6 T7 V DN AN, rounds, ← HS.out, KK.out, HYY.out])
        clear S1 S2 S3 S4 S5 S6 S7 S8 S9 X T1 T2 T3 T4 T5 T6 T7 V DN AN HS KK
        go_wp2_with fail
        refine (right_at 2 a 2 _ rfl (by decide) (by decide)).mono ?_
        rintro _ _ ⟨rfl, rfl⟩
        go_wp2_with fail
        refine (right_at 13 a 13 _ rfl (by decide) (by decide)).mono ?_
        rintro _ _ ⟨rfl, rfl⟩
        go_wp2_with fail
        refine (right_at 22 a 22 _ rfl (by decide) (by decide)).mono ?_
        rintro _ _ ⟨rfl, rfl⟩
        go_wp2_with fail
        go_roundw
        case rel => exact ⟨q + 16 + 1, an, a, b, c', dn, e, f, g, by omega, by go_num, (by first | rfl | (rw [HRAW.out]; exact val_int L10.out)), rfl, rfl, rfl, (by first | rfl | (rw [HRAW.out]; exact val_int L9.out)), rfl, rfl, rfl, HR, hgXz, hgCz, hgRz, hBz⟩
        case measure => simp [intOf]; omega
    · obtain rfl : t = 64 := by omega
      obtain ⟨s, HSS⟩ : ∃ s : St, Hid (s = ⟨a, b, c', d, e, f, g, h⟩) := ⟨_, Lib.hid rfl⟩
      have HS2 := Lib.hid (HSS.out.trans HS.out)
      have hrow := st_row a b c' d e f g h
      rw [← HSS.out] at hrow
      have HROW := Lib.hid hrow
      clear hrow HS hgX
      rw [← mix_zero c s] at hgC
      go_wp2
      rw [HROW.out]
      clear HROW HSS
      go_loopw [158] (fun i wr => ∃ k : Nat, k ≤ 8 ∧ i = .int .i64 k ∧ wr.heap[w.heap.size]? = some (.cells (wrow (mixTo c s k) 8) 98) ∧ wr.heap[w.heap.size + 2]? = some (.cells (wrow (fun _ => 0) 8) 98) ∧ Below w.heap.size w wr) (fun i _ => 8 - (intOf i).toNat)
      case atStart => exact ⟨0, by omega, rfl, hgC, hgR, hB⟩
      case round =>
        clear hgC hgR hB
        obtain ⟨k, hk, rfl, hgC, hgR, hB⟩ := hrel
        by_cases hlt : k < 8
        · have hi := fun w => run_index_row w _ _ _ _ Tryz.underlying98 Tryz.underlying97 cellsU32 (wrow (St.at s) 8) k _ hlt (wrow_get (St.at s) 8 k hlt)
          have hcell : ∀ x, wr.heap[w.heap.size]? = some (.cells (wrow (mixTo c s k) 8) 98) → x = k → wr.cell? ⟨w.heap.size, x, none⟩ = some (.int .u32 ((c k).toNat : Int)) := fun x hg hx => by
            rw [hx, cell_of_row _ _ _ _ _ _ hg]; exact mix_get c s k hlt
          have hc := hcell k hgC rfl
          clear hcell
          have hfr : wr.frozen? ⟨w.heap.size, k, none⟩ = false := frozen_of_row _ _ _ _ _ hgC
          obtain ⟨y, Y, l1, l1'⟩ := ex_add (c k) (s.at k)
          obtain ⟨wz, hwz, hgCz, hgRz, hBz⟩ : ∃ wz, wz = wr.setCell ⟨w.heap.size, k, none⟩ (.int .u32 (y.toNat : Int)) ∧ wz.heap[w.heap.size]? = some (.cells (wrow (mixTo c s (k + 1)) 8) 98) ∧ wz.heap[w.heap.size + 2]? = some (.cells (wrow (fun _ => 0) 8) 98) ∧ Below w.heap.size w wz := by
            refine ⟨_, rfl, ?_, (heap_setCell_other wr _ _ _ (by show w.heap.size + 2 ≠ w.heap.size; omega)).trans hgR, hB.setCell (by show w.heap.size ≤ w.heap.size; omega) _⟩
            rw [heap_setCell_same wr w.heap.size k _ _ _ hgC, mix_set c s k y Y.out]
          clear hgC hgR hB
          go_wp2
          rw [← hwz]
          go_roundw
          case rel => exact ⟨k + 1, by omega, by go_num, hgCz, hgRz, hBz⟩
          case measure => simp [intOf]; omega
        · obtain rfl : k = 8 := by omega
          rw [mix_all c B s HS2.out] at hgC
          go_wp2_with (first | (refine wpList_load_row rfl 98 _ rfl w.heap.size rfl 98 _ (0, 0) _ hgC Tryz.underlying98 rfl (by rw [wrow_size]; exact info8w) ?_) | (refine wpList_store_row rfl 98 _ _ rfl (w.heap.size + 2) (wrow (block c B) 8) rfl rfl 98 _ hgR (by rw [wrow_size]; exact info8w) (by rw [wrow_size, wrow_size]) (wrow_ok _ _) ?_))
          refine bodyPost_ret (v := .agg (wrow (block c B) 8)) (results_cell_row Tryz.results77 _ _ (w.heap.size + 2) 98 _ (0, 0) _ rfl (setRow_heap _ _ _ _ _ _ hgR) Tryz.underlying98 rfl (by rw [wrow_size]; exact info8w)) rfl ?_
          exact ⟨rfl, below_setRow hB (by omega) _⟩
end Go.Proofs.YtbniilajffjfcaaGreatDoor.Sha
