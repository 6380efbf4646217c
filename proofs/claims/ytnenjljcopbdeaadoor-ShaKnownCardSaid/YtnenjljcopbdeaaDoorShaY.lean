/- The contract of the reference's Block. -/
import Derived.Test.YtnenjljcopbdeaaDoorShaX
namespace Go.Proofs.YtnenjljcopbdeaaDoor
open Go.RowKit Go.BigFrame

theorem raw_xr {e g kk y s3 s4 s5 s6 s7 s8 s9 x : UInt32} (S5 : Hid (s5 = ~~~e)) (S6 : Hid (s6 = s5 &&& g)) (S7 : Hid (s7 = s4 ^^^ s6)) (S8 : Hid (s8 = s3 + s7)) (S9 : Hid (s9 = s8 + kk)) (X : Hid (x = s9 + y)) :
    (((s3.toNat : Int) + bits .xor .u32 (s4.toNat : Int) (bits .and .u32 (bits .xor .u32 (if IntKind.u32.signed = true then -1 else IntKind.u32.max) (e.toNat : Int)) (g.toNat : Int)) + (kk.toNat : Int)) % 4294967296 + (y.toNat : Int)) % 4294967296 = (x.toNat : Int) := by
  rw [show (if IntKind.u32.signed = true then (-1 : Int) else IntKind.u32.max) = IntKind.u32.max from rfl]
  rw [show bits .xor .u32 IntKind.u32.max (e.toNat : Int) = (s5.toNat : Int) from by rw [S5.out]; exact u_not e, u_and, ← S6.out, u_xor, ← S7.out, X.out, S9.out, S8.out, UInt32.toNat_add, UInt32.toNat_add, UInt32.toNat_add]
  omega
theorem rnd_ofr {a b c d e f g h kk y s1 s2 s3 s4 s5 s6 s7 s8 s9 x t1 t2 t3 t4 t5 t6 t7 v dn an : UInt32} (S1 : Hid (s1 = rotr e 6 ^^^ rotr e 11)) (S2 : Hid (s2 = s1 ^^^ rotr e 25)) (S3 : Hid (s3 = h + s2)) (S4 : Hid (s4 = e &&& f)) (S5 : Hid (s5 = ~~~e)) (S6 : Hid (s6 = s5 &&& g)) (S7 : Hid (s7 = s4 ^^^ s6)) (S8 : Hid (s8 = s3 + s7)) (S9 : Hid (s9 = s8 + kk)) (X : Hid (x = s9 + y))
    (T1 : Hid (t1 = rotr a 2 ^^^ rotr a 13)) (T2 : Hid (t2 = t1 ^^^ rotr a 22)) (T3 : Hid (t3 = a &&& b)) (T4 : Hid (t4 = a &&& c)) (T5 : Hid (t5 = t3 ^^^ t4)) (T6 : Hid (t6 = b &&& c)) (T7 : Hid (t7 = t5 ^^^ t6)) (V : Hid (v = t2 + t7)) (D : Hid (dn = d + x)) (A : Hid (an = x + v)) : (⟨an, a, b, c, dn, e, f, g⟩ : St) = rnd kk y ⟨a, b, c, d, e, f, g, h⟩ := by
  have hx : x = tA kk y ⟨a, b, c, d, e, f, g, h⟩ := by
    rw [X.out, S9.out, S8.out, S7.out, S6.out, S5.out, S4.out, S3.out, S2.out, S1.out]; rfl
  have hv : v = tB ⟨a, b, c, d, e, f, g, h⟩ := by
    rw [V.out, T7.out, T6.out, T5.out, T4.out, T3.out, T2.out, T1.out]; rfl
  rw [A.out, D.out, hx, hv]
  rfl
theorem wrow_row (c : Nat → UInt32) (n : Nat) : WRow (wrow c n) n c := fun i hi => wrow_get c n i hi
theorem wrow_st (c : Nat → UInt32) : wrow c 8 = wrow (St.at (stOf c)) 8 := rfl
/-- The blocks that the reference's Block goes by. -/
structure Kept8 (B0 gw gk r : Nat) (cw : Array Value) (B : Nat → Nat) (c : Nat → UInt32) (W wr : World) : Prop where
  hgC : wr.heap[B0]? = some (.cells (wrow c 8) 28 (0, 0))
  hgR : wr.heap[B0 + 2]? = some (.cells (wrow (fun _ => 0) 8) 28 (0, 0))
  hgw : wr.heap[gw]? = some (.cells cw 27 (0, 0))
  hgk : wr.heap[gk]? = some (.cells (wrow kW 64) 27 (0, 0))
  hB : Below B0 W wr
  hw : WRow cw 64 (wAt B)
  lw : B0 + 3 ≤ gw
  lk : B0 + 3 ≤ gk
  lr : gw < r ∧ gk < r ∧ B0 + 3 ≤ r
theorem Kept8.drewN {B0 gw gk r : Nat} {cw : Array Value} {B : Nat → Nat} {c : Nat → UInt32} {W wr : World} (h : Kept8 B0 gw gk r cw B c W wr) (n : Nat) : Kept8 B0 gw gk r cw B c W (wr.drewN n) :=
  ⟨h.hgC, h.hgR, h.hgw, h.hgk, below_drewN h.hB n, h.hw, h.lw, h.lk, h.lr⟩
theorem Kept8.setRow {B0 gw gk r : Nat} {cw : Array Value} {B : Nat → Nat} {c : Nat → UInt32} {W wr : World} (h : Kept8 B0 gw gk r cw B c W wr) (cs : Array Value) : Kept8 B0 gw gk r cw B c W (wr.setRow r cs) := by
  obtain ⟨l1, l2, l3⟩ := h.lr
  exact ⟨(setRow_other _ _ _ _ (by omega)).trans h.hgC, (setRow_other _ _ _ _ (by omega)).trans h.hgR, (setRow_other _ _ _ _ (by omega)).trans h.hgw, (setRow_other _ _ _ _ (by omega)).trans h.hgk, below_setRow h.hB (by omega) _, h.hw, h.lw, h.lk, h.lr⟩
theorem Kept8.setCell {B0 gw gk r : Nat} {cw : Array Value} {B : Nat → Nat} {c : Nat → UInt32} {W wr : World} (h : Kept8 B0 gw gk r cw B c W wr) (j : Nat) (v : Value) : Kept8 B0 gw gk r cw B c W (wr.setCell ⟨r, j, none⟩ v) := by
  obtain ⟨l1, l2, l3⟩ := h.lr
  exact ⟨(heap_setCell_other wr _ _ _ (by show B0 ≠ r; omega)).trans h.hgC, (heap_setCell_other wr _ _ _ (by show B0 + 2 ≠ r; omega)).trans h.hgR, (heap_setCell_other wr _ _ _ (by show gw ≠ r; omega)).trans h.hgw, (heap_setCell_other wr _ _ _ (by show gk ≠ r; omega)).trans h.hgk, h.hB.setCell (by show B0 ≤ r; omega) _, h.hw, h.lw, h.lk, h.lr⟩

/-- The state while the chain's words are put to it. -/
def mixS (c : Nat → UInt32) (s : St) (k i : Nat) : UInt32 := if i < k then s.at i + c i else s.at i
theorem mixs_zero (c : Nat → UInt32) (s : St) : mixS c s 0 = s.at := by funext i; simp [mixS]
theorem mixs_all (c : Nat → UInt32) (B : Nat → Nat) (s : St) (h : s = rounds (wAt B) (stOf c) 64) : wrow (mixS c s 8) 8 = wrow (block c B) 8 :=
  wrow_congr _ _ _ fun i hi => by rw [mixS, if_pos hi, block, h]
theorem mixs_set (c : Nat → UInt32) (s : St) (k : Nat) (y : UInt32) (hy : y = s.at k + c k) : (wrow (mixS c s k) 8).setIfInBounds k (.int .u32 (y.toNat : Int)) = wrow (mixS c s (k + 1)) 8 := by
  have e : y = mixS c s (k + 1) k := by rw [mixS, if_pos (by omega), hy]
  rw [e]
  exact wrow_set _ _ _ _ fun i _ hne => by unfold mixS; split <;> split <;> first | rfl | omega

set_option maxRecDepth 100000 in
set_option maxHeartbeats 2000000 in
theorem refBlock_any (c : Nat → UInt32) (B : Nat → Nat) (hB : ∀ i, B i < 256) (w : World) :
    Calls Tryd.prog 14 #[.agg (wrow c 8), .agg (digA B 64)] w fun e w' => e = .returned (.agg (wrow (block c B) 8)) ∧ Below w.heap.size w w' := by
  have HB := Lib.hid hB
  clear hB
  go_enter Tryd.func14, Tryd.ntmps14
  go_upto_region 1 with (fail)
  rw [zeros8]
  obtain ⟨w1, hw1, hgC, hgB, hgR, hb, hsz⟩ := rows3 w (.cells (wrow c 8) 28) (.cells (digA B 64) 29) (.cells (wrow (fun _ => 0) 8) 28)
  rw [← hw1]
  clear hw1
  go_wp2_with (refine wpList_load_row rfl 29 _ rfl (w.heap.size + 1) rfl 29 _ (0, 0) _ hgB Tryd.underlying29 rfl (by rw [digA_size]; exact info64) ?_)
  refine (refWords_any B HB.out _).mono ?_
  rintro e w2 ⟨v5, rfl, hown5, hb2⟩
  obtain ⟨gw, capw, cw, rfl, hbg, hgw, hrow, h64, hcm⟩ := own_words hown5 (by omega)
  have hgC2 := (hb2.block w.heap.size (by omega)).trans hgC
  have hgR2 := (hb2.block (w.heap.size + 2) (by omega)).trans hgR
  have hB2 := below_step hb hb2 hb.size
  have hz2 : w.heap.size + 3 ≤ w2.heap.size := by have := hb2.size; omega
  have hlw : w.heap.size + 3 ≤ gw := by omega
  have hlw2 := block_lt hgw
  clear hgC hgR hb hb2 hsz hgB hown5 hbg
  go_wp2_with fail
  refine (k_any w2).mono ?_
  rintro e w3 ⟨rfl, hb3, hgk⟩
  have hgC3 := (hb3.block w.heap.size (by omega)).trans hgC2
  have hgR3 := (hb3.block (w.heap.size + 2) (by omega)).trans hgR2
  have hgw3 := (hb3.block gw (by omega)).trans hgw
  have hB3 := below_step hB2 hb3 (by omega)
  have hz3 := block_lt hgk
  generalize hgkn : w2.heap.size = gk at *
  clear hgC2 hgR2 hB2 hgw hb3 hgkn w2
  go_wp2_with (first | (refine wpList_load_row rfl 28 _ rfl w.heap.size rfl 28 _ (0, 0) _ hgC3 Tryd.underlying28 rfl (by rw [wrow_size]; exact info8w) ?_) | (refine wpList_store_row rfl 28 _ _ rfl w3.heap.size (wrow c 8) rfl rfl 28 _ (heap_alloc_new _ _) (by rw [wrow_size]; exact info8w) (by rw [wrow_size]; rfl) (wrow_ok _ _) ?_))
  obtain ⟨w4, hw4, hgX, hold, hB4, hz4⟩ := row_put w.heap.size w w3 #[Value.int IntKind.u32 0, Value.int IntKind.u32 0, Value.int IntKind.u32 0, Value.int IntKind.u32 0, Value.int IntKind.u32 0, Value.int IntKind.u32 0, Value.int IntKind.u32 0, Value.int IntKind.u32 0] (wrow c 8) 28 hB3 (by omega)
  rw [← hw4]
  rw [wrow_st] at hgX
  obtain ⟨r, hr⟩ : ∃ r, r = w3.heap.size := ⟨_, rfl⟩
  have KP : Kept8 w.heap.size gw gk r cw B c w w4 := ⟨(hold w.heap.size (by omega)).trans hgC3, (hold (w.heap.size + 2) (by omega)).trans hgR3, (hold gw (by omega)).trans hgw3, (hold gk (by omega)).trans hgk, hB4, hrow, by omega, by omega, by omega, by omega, by omega⟩
  rw [← hr] at hgX
  rw [← hr]
  clear hw4 hold hB4 hz4 hgC3 hgR3 hgw3 hgk hB3 hz3 hr w3 w1 hrow hlw hlw2 hz2 hcm
  go_loopw [8] (fun i wr => ∃ (t : Nat) (s : St), t ≤ 64 ∧ i = .int .i64 t ∧ Hid (s = rounds (wAt B) (stOf c) t) ∧ wr.heap[r]? = some (.cells (wrow (St.at s) 8) 28) ∧ Kept8 w.heap.size gw gk r cw B c w wr) (fun i _ => 64 - (intOf i).toNat)
  case atStart => exact ⟨0, _, by omega, rfl, Lib.hid rfl, hgX, KP⟩
  case round =>
    clear hgX KP
    obtain ⟨t, ⟨a, b, c', d, e, f, g, hh⟩, ht, rfl, HS, hgX, KP⟩ := hrel
    by_cases hlt : t < 64
    · have i64' : (t : Int) < 64 := by omega
      have hc0 : wr.cell? ⟨r, 0, none⟩ = some (.int .u32 (a.toNat : Int)) := by rw [cell_of_row _ _ _ _ _ _ hgX]; rfl
      have hc1 : wr.cell? ⟨r, 1, none⟩ = some (.int .u32 (b.toNat : Int)) := by rw [cell_of_row _ _ _ _ _ _ hgX]; rfl
      have hc2 : wr.cell? ⟨r, 2, none⟩ = some (.int .u32 (c'.toNat : Int)) := by rw [cell_of_row _ _ _ _ _ _ hgX]; rfl
      have hc3 : wr.cell? ⟨r, 3, none⟩ = some (.int .u32 (d.toNat : Int)) := by rw [cell_of_row _ _ _ _ _ _ hgX]; rfl
      have hc4 : wr.cell? ⟨r, 4, none⟩ = some (.int .u32 (e.toNat : Int)) := by rw [cell_of_row _ _ _ _ _ _ hgX]; rfl
      have hc5 : wr.cell? ⟨r, 5, none⟩ = some (.int .u32 (f.toNat : Int)) := by rw [cell_of_row _ _ _ _ _ _ hgX]; rfl
      have hc6 : wr.cell? ⟨r, 6, none⟩ = some (.int .u32 (g.toNat : Int)) := by rw [cell_of_row _ _ _ _ _ _ hgX]; rfl
      have hc7 : wr.cell? ⟨r, 7, none⟩ = some (.int .u32 (hh.toNat : Int)) := by rw [cell_of_row _ _ _ _ _ _ hgX]; rfl
      have HX := Lib.hid hgX
      have HKP := Lib.hid KP
      clear hgX KP
      go_wp2_with fail
      go_quiet (fail)
      rename Nat => nq0
      clear hc0 hc1 hc2 hc3 hc4 hc5 hc6 hc7
      obtain ⟨wz, hwz, hgX, KP⟩ : ∃ wz, wz = wr.drewN nq0 ∧ wz.heap[r]? = some (.cells (wrow (St.at ⟨a, b, c', d, e, f, g, hh⟩) 8) 28) ∧ Kept8 w.heap.size gw gk r cw B c w wz := ⟨_, rfl, HX.out, HKP.out.drewN _⟩
      rw [← hwz]
      clear hwz HX HKP
      obtain ⟨kk, KK⟩ : ∃ z, Hid (z = kW t) := ⟨_, Lib.hid rfl⟩
      obtain ⟨yy, YY⟩ : ∃ z, Hid (z = wAt B t) := ⟨_, Lib.hid rfl⟩
      have hkc : wz.cell? ⟨gk, t, none⟩ = some (.int .u32 (kk.toNat : Int)) := by rw [KK.out, cell_of_row _ _ _ _ _ _ KP.hgk]; exact wrow_get _ _ _ hlt
      have hwc : wz.cell? ⟨gw, t, none⟩ = some (.int .u32 (yy.toNat : Int)) := by rw [YY.out, cell_of_row _ _ _ _ _ _ KP.hgw]; exact KP.hw t hlt
      have HX := Lib.hid hgX
      have HKP := Lib.hid KP
      clear hgX KP
      obtain ⟨s1, S1, l1⟩ := ex_xor (rotr e 6) (rotr e 11)
      obtain ⟨s2, S2, l2⟩ := ex_xor s1 (rotr e 25)
      obtain ⟨s3, S3, l3, l3'⟩ := ex_add hh s2
      obtain ⟨s4, S4, l4⟩ := ex_and e f
      obtain ⟨s5, S5, l5⟩ := ex_not e
      obtain ⟨s6, S6, l6⟩ := ex_and s5 g
      obtain ⟨s7, S7, l7⟩ := ex_xor s4 s6
      obtain ⟨s8, S8, l8, l8'⟩ := ex_add s3 s7
      obtain ⟨s9, S9, l9, l9'⟩ := ex_add s8 kk
      obtain ⟨x, X, l10, l10'⟩ := ex_add s9 yy
      go_wp2_with fail
      go_quiet ((first | (go_at_call 27; exact Calls.quiet_of (turned_at 6 _ _ _ rfl (by decide) (by decide))) | (go_at_call 27; exact Calls.quiet_of (turned_at 11 _ _ _ rfl (by decide) (by decide))) | (go_at_call 27; exact Calls.quiet_of (turned_at 25 _ _ _ rfl (by decide) (by decide)))))
      rw [raw_xr S5 S6 S7 S8 S9 X]
      clear l1 l2 l3 l3' l4 l5 l6 l7 l8 l8' l9 l9' l10 l10' hkc hwc i64'
      obtain ⟨t1, T1, l1⟩ := ex_xor (rotr a 2) (rotr a 13)
      obtain ⟨t2, T2, l2⟩ := ex_xor t1 (rotr a 22)
      obtain ⟨t3, T3, l3⟩ := ex_and a b
      obtain ⟨t4, T4, l4⟩ := ex_and a c'
      obtain ⟨t5, T5, l5⟩ := ex_xor t3 t4
      obtain ⟨t6, T6, l6⟩ := ex_and b c'
      obtain ⟨t7, T7, l7⟩ := ex_xor t5 t6
      obtain ⟨v, V, l8, l8'⟩ := ex_add t2 t7
      obtain ⟨dn, DN, l9, l9'⟩ := ex_add d x
      obtain ⟨an, AN, l10, l10'⟩ := ex_add x v
      have HR := Lib.hid (show (⟨an, a, b, c', dn, e, f, g⟩ : St) = rounds (wAt B) (stOf c) (t + 1) by rw [rnd_ofr S1 S2 S3 S4 S5 S6 S7 S8 S9 X T1 T2 T3 T4 T5 T6 T7 V DN AN, rounds, ← HS.out, KK.out, YY.out])
      clear S1 S2 S3 S4 S5 S6 S7 S8 S9 X T1 T2 T3 T4 T5 T6 T7 V DN AN HS KK YY
      go_wp2_with fail
      refine (turned_at 2 a 2 _ rfl (by decide) (by decide)).mono ?_
      rintro _ _ ⟨rfl, d1, rfl⟩
      go_wp2_with fail
      refine (turned_at 13 a 13 _ rfl (by decide) (by decide)).mono ?_
      rintro _ _ ⟨rfl, d2, rfl⟩
      go_wp2_with fail
      refine (turned_at 22 a 22 _ rfl (by decide) (by decide)).mono ?_
      rintro _ _ ⟨rfl, d3, rfl⟩
      obtain ⟨wy, hwy, hgX, KP⟩ : ∃ wy, wy = (((wz.drewN nq).drewN d1).drewN d2).drewN d3 ∧ wy.heap[r]? = some (.cells (wrow (St.at ⟨a, b, c', d, e, f, g, hh⟩) 8) 28) ∧ Kept8 w.heap.size gw gk r cw B c w wy := ⟨_, rfl, HX.out, (((HKP.out.drewN _).drewN _).drewN _).drewN _⟩
      try simp only [World.drewN_drewN] at hwy
      try simp only [World.drewN_drewN]
      rw [← hwy]
      clear hwy HX HKP
      go_wp2_with (refine wpList_store_row rfl 28 _ _ rfl r (wrow (St.at ⟨an, a, b, c', dn, e, f, g⟩) 8) rfl rfl 28 _ hgX (by rw [wrow_size]; exact info8w) (by rw [wrow_size, wrow_size]) (wrow_ok _ _) ?_)
      have hgX2 := setRow_heap wy r _ (wrow (St.at ⟨an, a, b, c', dn, e, f, g⟩) 8) _ _ hgX
      have KP2 := KP.setRow (wrow (St.at ⟨an, a, b, c', dn, e, f, g⟩) 8)
      clear hgX KP
      go_roundw
      case rel => exact ⟨t + 1, _, by omega, by go_num, HR, hgX2, KP2⟩
      case measure => simp [intOf]; omega
    · obtain rfl : t = 64 := by omega
      obtain ⟨s, HSS⟩ : ∃ s : St, Hid (s = ⟨a, b, c', d, e, f, g, hh⟩) := ⟨_, Lib.hid rfl⟩
      rw [← HSS.out, ← mixs_zero c s] at hgX
      have HS2 := Lib.hid (HSS.out.trans HS.out)
      clear HS HSS
      go_wp2_with fail
      go_loopw [19] (fun i wr => ∃ k : Nat, k ≤ 8 ∧ i = .int .i64 k ∧ wr.heap[r]? = some (.cells (wrow (mixS c s k) 8) 28) ∧ Kept8 w.heap.size gw gk r cw B c w wr) (fun i _ => 8 - (intOf i).toNat)
      case atStart => exact ⟨0, by omega, rfl, hgX, KP⟩
      case round =>
        clear hgX KP
        obtain ⟨k, hk, rfl, hgX, KP⟩ := hrel
        by_cases hlt : k < 8
        · obtain ⟨z0, Z0⟩ : ∃ z, Hid (z = s.at k) := ⟨_, Lib.hid rfl⟩
          obtain ⟨z1, Z1⟩ : ∃ z, Hid (z = c k) := ⟨_, Lib.hid rfl⟩
          have hcs : wr.cell? ⟨r, k, none⟩ = some (.int .u32 (z0.toNat : Int)) := by
            rw [cell_of_row _ _ _ _ _ _ hgX, wrow_get _ _ _ hlt, Z0.out, mixS, if_neg (by omega)]
          have hcc : wr.cell? ⟨w.heap.size, k, none⟩ = some (.int .u32 (z1.toNat : Int)) := by
            rw [cell_of_row _ _ _ _ _ _ KP.hgC, wrow_get _ _ _ hlt, Z1.out]
          have hfr : wr.frozen? ⟨r, k, none⟩ = false := frozen_of_row _ _ _ _ _ hgX
          have i8 : (k : Int) < 8 := by omega
          obtain ⟨y, Y, l1, l1'⟩ := ex_add z0 z1
          obtain ⟨wz, hwz, hgXz, KPz⟩ : ∃ wz, wz = (wr.setCell ⟨r, k, none⟩ (.int .u32 (y.toNat : Int))).drew ∧ wz.heap[r]? = some (.cells (wrow (mixS c s (k + 1)) 8) 28) ∧ Kept8 w.heap.size gw gk r cw B c w wz := by
            refine ⟨_, rfl, ?_, (KP.setCell _ _).drewN 1⟩
            show (wr.setCell ⟨r, k, none⟩ (.int .u32 (y.toNat : Int))).heap[r]? = _
            rw [heap_setCell_same wr r k _ _ _ hgX, mixs_set c s k y (by rw [Y.out, Z0.out, Z1.out])]
          clear hgX KP Z0 Z1 Y
          go_wp2_with fail
          refine wp_region_still_tail 9 (by kernel_rfl) (by kernel_rfl) ?_
          simp only [List.take_succ_cons, List.take_zero, List.drop_succ_cons, List.drop_zero]
          repeat still_step
          refine wpStill_nil ?_
          go_wp2
          rw [← hwz]
          go_roundw
          case rel =>
            (repeat apply Exists.intro)
            refine ⟨⟨k + 1, by omega, by go_num, hgXz, KPz⟩, rfl⟩
          case measure => simp [intOf]; omega
        · obtain rfl : k = 8 := by omega
          rw [mixs_all c B s HS2.out] at hgX
          have hgR := KP.hgR
          have hb := KP.hB
          go_wp2_with (first | (refine wpList_load_row rfl 28 _ rfl r rfl 28 _ (0, 0) _ hgX Tryd.underlying28 rfl (by rw [wrow_size]; exact info8w) ?_) | (refine wpList_store_row rfl 28 _ _ rfl (w.heap.size + 2) (wrow (block c B) 8) rfl rfl 28 _ hgR (by rw [wrow_size]; exact info8w) (by rw [wrow_size, wrow_size]) (wrow_ok _ _) ?_))
          refine bodyPost_ret (v := .agg (wrow (block c B) 8)) (results_cell_row Tryd.results14 _ _ (w.heap.size + 2) 28 _ (0, 0) _ rfl (setRow_heap _ _ _ _ _ _ hgR) Tryd.underlying28 rfl (by rw [wrow_size]; exact info8w)) rfl ?_
          exact ⟨rfl, below_setRow hb (by omega) _⟩
end Go.Proofs.YtnenjljcopbdeaaDoor
