/- The contract of the reference's words. -/
import Derived.Test.YtnenjljcopbdeaaDoorShaW
import Derived.Deep.RegionLaw
namespace Go.Proofs.YtnenjljcopbdeaaDoor
open Go.RowKit Go.BigFrame

theorem word_or (b0 b1 b2 b3 : Nat) (h0 : b0 < 256) (h1 : b1 < 256) (h2 : b2 < 256) (h3 : b3 < 256) :
    UInt32.ofNat (b0 * 16777216) ||| UInt32.ofNat (b1 * 65536) ||| UInt32.ofNat (b2 * 256) ||| UInt32.ofNat b3 = UInt32.ofNat (((b0 * 256 + b1) * 256 + b2) * 256 + b3) := by
  apply UInt32.toNat_inj.1
  simp only [UInt32.toNat_or, UInt32.toNat_ofNat']
  rw [Nat.mod_eq_of_lt (show b0 * 16777216 < 2 ^ 32 by omega), Nat.mod_eq_of_lt (show b1 * 65536 < 2 ^ 32 by omega), Nat.mod_eq_of_lt (show b2 * 256 < 2 ^ 32 by omega), Nat.mod_eq_of_lt (show b3 < 2 ^ 32 by omega), Nat.mod_eq_of_lt (show ((b0 * 256 + b1) * 256 + b2) * 256 + b3 < 2 ^ 32 by omega)]
  rw [show b0 * 16777216 = 2 ^ 24 * b0 from by omega, ← Nat.two_pow_add_eq_or_of_lt (show b1 * 65536 < 2 ^ 24 by omega),
    show 2 ^ 24 * b0 + b1 * 65536 = 2 ^ 16 * (256 * b0 + b1) from by omega, ← Nat.two_pow_add_eq_or_of_lt (show b2 * 256 < 2 ^ 16 by omega),
    show 2 ^ 16 * (256 * b0 + b1) + b2 * 256 = 2 ^ 8 * (256 * (256 * b0 + b1) + b2) from by omega, ← Nat.two_pow_add_eq_or_of_lt (show b3 < 2 ^ 8 by omega)]
  omega
theorem word_bytes (B : Nat → Nat) (hB : ∀ i, B i < 256) (k : Nat) : UInt32.ofNat (B (4 * k) * 16777216) ||| UInt32.ofNat (B (4 * k + 1) * 65536) ||| UInt32.ofNat (B (4 * k + 2) * 256) ||| UInt32.ofNat (B (4 * k + 3)) = word B k := by
  rw [word_or _ _ _ _ (hB _) (hB _) (hB _) (hB _), word]
  simp only [pwn, Nat.zero_mul, Nat.zero_add, Nat.add_zero]
theorem ex_shl (b c : Nat) (h : b * c < 4294967296) : ∃ x : UInt32, Hid (x = UInt32.ofNat (b * c)) ∧ IntKind.u32.wrap ((b : Int) * (c : Int)) = (x.toNat : Int) := by
  refine ⟨_, Lib.hid rfl, ?_⟩
  rw [UInt32.toNat_ofNat', IntKind.wrap_u32', Nat.mod_eq_of_lt h, ← Int.natCast_mul]
  omega
theorem ex_or_nat (a : UInt32) (b : Nat) (h : b < 256) : ∃ v : UInt32, Hid (v = a ||| UInt32.ofNat b) ∧ bits .or .u32 (a.toNat : Int) (b : Int) = (v.toNat : Int) := by
  refine ⟨_, Lib.hid rfl, ?_⟩
  rw [show (b : Int) = ((UInt32.ofNat b).toNat : Int) from by rw [UInt32.toNat_ofNat', Nat.mod_eq_of_lt (by omega)], u_or]
theorem u32_one (x : Int) : ∀ u ∈ [Value.int .u32 x], u.oneCell' = true := by
  intro u hu; simp at hu; subst hu; rfl
/-- Words in a block. -/
def WRow (cur : Array Value) (T : Nat) (m : Nat → UInt32) : Prop := ∀ i, i < T → cur[i]? = some (.int .u32 ((m i).toNat : Int))
theorem own_words {w : World} {base n : Nat} {e : TypeId} {v : Value} {c : Nat → UInt32} (h : w.ownsRow base e 1 v n (wcells c n)) (hn : 0 < n) :
    ∃ g cap cur, v = .slice (some ⟨g, 0, none⟩) n cap ∧ base ≤ g ∧ w.heap[g]? = some (.cells cur e (0, 0)) ∧ WRow cur n c ∧ n ≤ cap ∧ cap ≤ maxLen := by
  obtain ⟨hl, ⟨rfl, h0⟩ | ⟨g, cap, cur, rfl, hg, hgg, h1, h2, h3, h4⟩⟩ := h
  · omega
  · refine ⟨g, cap, cur, rfl, hg, hgg, fun j hj => ?_, h1, h2⟩
    have := wcells_get c n j hj
    rw [← h4, List.getElem?_take_of_lt (by omega)] at this
    simpa using this

set_option maxRecDepth 100000 in
set_option maxHeartbeats 2000000 in
theorem refWords_any (B : Nat → Nat) (hB : ∀ i, B i < 256) (w : World) :
    Calls Tryd.prog 25 #[.agg (digA B 64)] w fun e w' => ∃ v, e = .returned v ∧ w'.ownsRow (w.heap.size + 1) 27 1 v 64 (wcells (wAt B) 64) ∧ Below w.heap.size w w' := by
  have HB := Lib.hid hB
  clear hB
  obtain ⟨i0, hi, hz0, hz1, hz2⟩ := info_parts infoU32
  go_enter Tryd.func25, Tryd.ntmps25
  go_upto_region 1 with (fail)
  obtain ⟨w1, hw1, hgB, hb, hsz⟩ := row_new w (.cells (digA B 64) 29)
  rw [← hw1]
  clear hw1 hsz
  go_wp2_with fail
  go_loopw [3, 4] (fun v i wr => ∃ k : Nat, k ≤ 16 ∧ i = .int .i64 k ∧ wr.heap[w.heap.size]? = some (.cells (digA B 64) 29) ∧ wr.ownsRow (w.heap.size + 1) 27 1 v k (wcells (wAt B) k) ∧ Below w.heap.size w wr) (fun _ i _ => 16 - (intOf i).toNat)
  case atStart => exact ⟨0, by omega, rfl, hgB, World.ownsRow_nil _ _ _ _, hb⟩
  case round =>
    clear hgB hb
    obtain ⟨k, hk, rfl, hgB, hown, hb⟩ := hrel
    have hsz := block_lt hgB
    by_cases hlt : k < 16
    · obtain ⟨n0, N0⟩ : ∃ n, Hid (n = 4 * k) := ⟨_, Lib.hid rfl⟩
      obtain ⟨n1, N1⟩ : ∃ n, Hid (n = 4 * k + 1) := ⟨_, Lib.hid rfl⟩
      obtain ⟨n2, N2⟩ : ∃ n, Hid (n = 4 * k + 2) := ⟨_, Lib.hid rfl⟩
      obtain ⟨n3, N3⟩ : ∃ n, Hid (n = 4 * k + 3) := ⟨_, Lib.hid rfl⟩
      have c0 : wr.cell? ⟨w.heap.size, n0, none⟩ = some (.int .u8 (B (4 * k) : Int)) := by rw [cell_of_row _ _ _ _ _ _ hgB, N0.out, digA_get _ _ _ (by omega)]
      have c1 : wr.cell? ⟨w.heap.size, n1, none⟩ = some (.int .u8 (B (4 * k + 1) : Int)) := by rw [cell_of_row _ _ _ _ _ _ hgB, N1.out, digA_get _ _ _ (by omega)]
      have c2 : wr.cell? ⟨w.heap.size, n2, none⟩ = some (.int .u8 (B (4 * k + 2) : Int)) := by rw [cell_of_row _ _ _ _ _ _ hgB, N2.out, digA_get _ _ _ (by omega)]
      have c3 : wr.cell? ⟨w.heap.size, n3, none⟩ = some (.int .u8 (B (4 * k + 3) : Int)) := by rw [cell_of_row _ _ _ _ _ _ hgB, N3.out, digA_get _ _ _ (by omega)]
      have m0 : (n0 : Int) < 64 := by have := N0.out; omega
      have m1 : (n1 : Int) < 64 := by have := N1.out; omega
      have m2 : (n2 : Int) < 64 := by have := N2.out; omega
      have m3 : (n3 : Int) < 64 := by have := N3.out; omega
      have j0 : IntKind.i64.wrap (4 * (k : Int)) = (n0 : Int) := by rw [IntWalk.i64_in _ (by omega)]; have := N0.out; omega
      have j1 : IntKind.i64.wrap ((n0 : Int) + 1) = (n1 : Int) := by rw [IntWalk.i64_in _ (by omega)]; have := N0.out; have := N1.out; omega
      have j2 : IntKind.i64.wrap ((n0 : Int) + 2) = (n2 : Int) := by rw [IntWalk.i64_in _ (by omega)]; have := N0.out; have := N2.out; omega
      have j3 : IntKind.i64.wrap ((n0 : Int) + 3) = (n3 : Int) := by rw [IntWalk.i64_in _ (by omega)]; have := N0.out; have := N3.out; omega
      have h0 := HB.out (4 * k)
      have h1 := HB.out (4 * k + 1)
      have h2 := HB.out (4 * k + 2)
      have h3 := HB.out (4 * k + 3)
      have HW := Lib.hid ((word_bytes B HB.out k).trans (wAt_low B k hlt).symm)
      generalize B (4 * k) = b0 at *
      generalize B (4 * k + 1) = b1 at *
      generalize B (4 * k + 2) = b2 at *
      generalize B (4 * k + 3) = b3 at *
      have v0 : IntKind.u32.wrap (b0 : Int) = (b0 : Int) := by rw [IntKind.wrap_u32']; omega
      have v1 : IntKind.u32.wrap (b1 : Int) = (b1 : Int) := by rw [IntKind.wrap_u32']; omega
      have v2 : IntKind.u32.wrap (b2 : Int) = (b2 : Int) := by rw [IntKind.wrap_u32']; omega
      have v3 : IntKind.u32.wrap (b3 : Int) = (b3 : Int) := by rw [IntKind.wrap_u32']; omega
      obtain ⟨x0, X0, e0⟩ := ex_shl b0 16777216 (by omega)
      obtain ⟨x1, X1, e1⟩ := ex_shl b1 65536 (by omega)
      obtain ⟨x2, X2, e2⟩ := ex_shl b2 256 (by omega)
      have e0 : IntKind.u32.wrap ((b0 : Int) * 16777216) = (x0.toNat : Int) := e0
      have e1 : IntKind.u32.wrap ((b1 : Int) * 65536) = (x1.toNat : Int) := e1
      have e2 : IntKind.u32.wrap ((b2 : Int) * 256) = (x2.toNat : Int) := e2
      obtain ⟨y1, Y1, r1⟩ := ex_or x0 x1
      obtain ⟨y2, Y2, r2⟩ := ex_or y1 x2
      obtain ⟨y3, Y3, r3⟩ := ex_or_nat y2 b3 h3
      have HY := Lib.hid (show y3 = wAt B k by rw [Y3.out, Y2.out, Y1.out, X0.out, X1.out, X2.out, HW.out])
      clear h0 h1 h2 h3 X0 X1 X2 Y1 Y2 Y3 HW
      go_wp2_with fail
      go_region_held3 (fun w' => w'.cell? ⟨w.heap.size, n0, none⟩ = some (.int .u8 (b0 : Int)) ∧ w'.cell? ⟨w.heap.size, n1, none⟩ = some (.int .u8 (b1 : Int)) ∧ w'.cell? ⟨w.heap.size, n2, none⟩ = some (.int .u8 (b2 : Int)) ∧ w'.cell? ⟨w.heap.size, n3, none⟩ = some (.int .u8 (b3 : Int))) (first | go_keep | (go_split_ands; refine ⟨?_, ?_, ?_, ?_⟩ <;> (rw [hgrow.cell_far _ (by simp; omega) (fun e => by have := (hown.lt w.heap.size e.symm).1; omega)]; assumption))) ((refine step_append_lies _ (by rfl) _ _ _ (by rfl) (w.heap.size + 1) 27 i0 _ 1 4 Tryd.underlying48 hi hz0 hz1 hz2 rfl (by omega) _ k _ (by rfl) ((hown.alloc _).drew) ⟨wr.heap.size, 0, none⟩ 1 1 [.int .u32 (y3.toNat : Int)] (by rfl) (by rfl) (World.news_of_block (cs := #[.int .u32 (y3.toNat : Int)]) (t := 27) (fr := (0, 0)) (heap_alloc_new wr _)) (by simp [Value.oneCell']) (by omega) (by unfold maxLen; omega) (by omega) (by simp; omega) (wr.heap.size + 1) (by simp) ?_; intro gg cap w1 hown1 hgrow hat hlt1))
      all_goals
        rw [HY.out, ← wcells_succ] at hown1
        have hb1 := ((hb.alloc (by omega) (.cells #[.int .u32 (y3.toNat : Int)] 27)).drew).grown hgrow (by simp; omega) (fun g hg => by have := (hown.lt g hg).1; omega)
        have hgB1 : w1.heap[w.heap.size]? = some (.cells (digA B 64) 29) := kept (show ((wr.alloc (.cells #[.int .u32 (y3.toNat : Int)] 27)).drew).heap[w.heap.size]? = _ from (old_block _ _ _ hsz).trans hgB) hgrow (fun e => by have := (hown.lt w.heap.size e.symm).1; omega)
        clear hown hgrow hat hlt1 hb hgB
        go_wp2_with fail
        go_roundw
        case rel => exact ⟨k + 1, by omega, by go_num, hgB1, hown1, hb1⟩
        case measure => simp [intOf]; omega
    · obtain rfl : k = 16 := by omega
      go_wp2_with fail
      go_loopw [3, 5] (fun v i wr => ∃ t : Nat, 16 ≤ t ∧ t ≤ 64 ∧ i = .int .i64 t ∧ wr.ownsRow (w.heap.size + 1) 27 1 v t (wcells (wAt B) t) ∧ Below w.heap.size w wr) (fun _ i _ => 64 - (intOf i).toNat)
      case atStart => exact ⟨16, by omega, by omega, rfl, hown, hb⟩
      case round =>
        clear hown hb hgB hsz hlt hk
        obtain ⟨t, h16, h64, rfl, hown, hb⟩ := hrel
        by_cases hlt : t < 64
        · obtain ⟨g, cap, cur, rfl, hbg, hgg, hrow, htc, hcm⟩ := own_words hown (by omega)
          unfold maxLen at hcm
          obtain ⟨q, rfl⟩ : ∃ q, t = q + 16 := ⟨t - 16, by omega⟩
          obtain ⟨n0, N0⟩ : ∃ n, Hid (n = q) := ⟨_, Lib.hid rfl⟩
          obtain ⟨n1, N1⟩ : ∃ n, Hid (n = q + 1) := ⟨_, Lib.hid rfl⟩
          obtain ⟨n9, N9⟩ : ∃ n, Hid (n = q + 9) := ⟨_, Lib.hid rfl⟩
          obtain ⟨n14, N14⟩ : ∃ n, Hid (n = q + 14) := ⟨_, Lib.hid rfl⟩
          obtain ⟨z0, Z0⟩ : ∃ z, Hid (z = wAt B q) := ⟨_, Lib.hid rfl⟩
          obtain ⟨z1, Z1⟩ : ∃ z, Hid (z = wAt B (q + 1)) := ⟨_, Lib.hid rfl⟩
          obtain ⟨z9, Z9⟩ : ∃ z, Hid (z = wAt B (q + 9)) := ⟨_, Lib.hid rfl⟩
          obtain ⟨z14, Z14⟩ : ∃ z, Hid (z = wAt B (q + 14)) := ⟨_, Lib.hid rfl⟩
          have c0 : wr.cell? ⟨g, n0, none⟩ = some (.int .u32 (z0.toNat : Int)) := by rw [cell_of_row _ _ _ _ _ _ hgg, hrow n0 (by have := N0.out; omega), Z0.out, N0.out]
          have c1 : wr.cell? ⟨g, n1, none⟩ = some (.int .u32 (z1.toNat : Int)) := by rw [cell_of_row _ _ _ _ _ _ hgg, hrow n1 (by have := N1.out; omega), Z1.out, N1.out]
          have c9 : wr.cell? ⟨g, n9, none⟩ = some (.int .u32 (z9.toNat : Int)) := by rw [cell_of_row _ _ _ _ _ _ hgg, hrow n9 (by have := N9.out; omega), Z9.out, N9.out]
          have c14 : wr.cell? ⟨g, n14, none⟩ = some (.int .u32 (z14.toNat : Int)) := by rw [cell_of_row _ _ _ _ _ _ hgg, hrow n14 (by have := N14.out; omega), Z14.out, N14.out]
          have r15 : IntKind.i64.wrap ((q : Int) + 16 - 15) = (n1 : Int) := by rw [IntWalk.i64_in _ (by omega)]; have := N1.out; omega
          have r2 : IntKind.i64.wrap ((q : Int) + 16 - 2) = (n14 : Int) := by rw [IntWalk.i64_in _ (by omega)]; have := N14.out; omega
          have r7 : IntKind.i64.wrap ((q : Int) + 16 - 7) = (n9 : Int) := by rw [IntWalk.i64_in _ (by omega)]; have := N9.out; omega
          have r16 : IntKind.i64.wrap ((q : Int) + 16 - 16) = (n0 : Int) := by rw [IntWalk.i64_in _ (by omega)]; have := N0.out; omega
          have r16' : IntKind.i64.wrap (q : Int) = (n0 : Int) := by rw [IntWalk.i64_in _ (by omega)]; have := N0.out; omega
          have b1 : (n1 : Int) < (q : Int) + 16 := by have := N1.out; omega
          have b9 : (n9 : Int) < (q : Int) + 16 := by have := N9.out; omega
          have b14 : (n14 : Int) < (q : Int) + 16 := by have := N14.out; omega
          have b0 : (n0 : Int) < (q : Int) + 16 := by have := N0.out; omega
          have hl64 : decide ((q : Int) + 16 < 64) = true := decide_eq_true (by omega)
          have HO := Lib.hid hown
          clear hown hrow hgg htc
          go_wp2_with fail
          go_quiet (fail)
          clear c1 c14 r15 r2 b1 b14 N1 N14
          obtain ⟨p1, P1, k1⟩ := ex_xor (rotr z1 7) (rotr z1 18)
          obtain ⟨p2, P2, k2⟩ := ex_shr z1 3
          rw [show (2 : Int) ^ 3 = 8 from rfl] at k2
          obtain ⟨p3, P3, k3⟩ := ex_xor p1 p2
          obtain ⟨q1, Q1, k4⟩ := ex_xor (rotr z14 17) (rotr z14 19)
          obtain ⟨q2, Q2, k5⟩ := ex_shr z14 10
          rw [show (2 : Int) ^ 10 = 1024 from rfl] at k5
          obtain ⟨q3, Q3, k6⟩ := ex_xor q1 q2
          go_wp2_with fail
          refine (turned_at 7 z1 7 _ rfl (by decide) (by decide)).mono ?_
          rintro _ _ ⟨rfl, d1, rfl⟩
          go_wp2_with fail
          refine (turned_at 18 z1 18 _ rfl (by decide) (by decide)).mono ?_
          rintro _ _ ⟨rfl, d2, rfl⟩
          go_wp2_with fail
          refine (turned_at 17 z14 17 _ rfl (by decide) (by decide)).mono ?_
          rintro _ _ ⟨rfl, d3, rfl⟩
          go_wp2_with fail
          refine (turned_at 19 z14 19 _ rfl (by decide) (by decide)).mono ?_
          rintro _ _ ⟨rfl, d4, rfl⟩
          go_wp2_with fail
          clear k1 k2 k3 k4 k5 k6
          obtain ⟨wz, hwz, d0, d9, HOz, hbz⟩ : ∃ wz, wz = wr.drewN (nq + d1 + d2 + d3 + d4) ∧ wz.cell? ⟨g, n0, none⟩ = some (.int .u32 (z0.toNat : Int)) ∧ wz.cell? ⟨g, n9, none⟩ = some (.int .u32 (z9.toNat : Int)) ∧ wz.ownsRow (w.heap.size + 1) 27 1 (.slice (some ⟨g, 0, none⟩) (q + 16) cap) (q + 16) (wcells (wAt B) (q + 16)) ∧ Below w.heap.size w wz := ⟨_, rfl, c0, c9, HO.out, below_drewN hb _⟩
          rw [← hwz]
          clear hwz c0 c9 HO hb
          obtain ⟨a1, A1, l1, l1'⟩ := ex_add z0 p3
          obtain ⟨a2, A2, l2, l2'⟩ := ex_add a1 z9
          obtain ⟨a3, A3, l3, l3'⟩ := ex_add a2 q3
          have HY := Lib.hid (show a3 = wAt B (q + 16) by
            rw [wAt_up B q (by omega), ← Z0.out, ← Z1.out, ← Z9.out, ← Z14.out, A3.out, A2.out, A1.out, Q3.out, Q2.out, Q1.out, P3.out, P2.out, P1.out]
            rfl)
          clear Z0 Z1 Z9 Z14 A1 A2 A3 P1 P2 P3 Q1 Q2 Q3 N9 N0
          have hzg : g < wz.heap.size := block_lt_of_cell d0
          have hzw : w.heap.size + 1 ≤ wz.heap.size := by omega
          go_region_law ((refine step_append_lies _ (by rfl) _ _ _ (by rfl) (w.heap.size + 1) 27 i0 _ 1 4 Tryd.underlying48 hi hz0 hz1 hz2 rfl (by omega) _ (q + 16) _ (by rfl) ((HOz.alloc _).drew) ⟨wz.heap.size, 0, none⟩ 1 1 [.int .u32 (a3.toNat : Int)] (by rfl) (by rfl) (World.news_of_block (cs := #[.int .u32 (a3.toNat : Int)]) (t := 27) (fr := (0, 0)) (heap_alloc_new wz _)) (by simp [Value.oneCell']) (by omega) (by unfold maxLen; omega) (by omega) (by simp; omega) (wz.heap.size + 1) (by simp) ?_; intro gg cap w1 hown1 hgrow hat hlt1))
          all_goals
            rw [HY.out, ← wcells_succ] at hown1
            have hb1 := ((hbz.alloc (by omega) (.cells #[.int .u32 (a3.toNat : Int)] 27)).drew).grown hgrow (by simp; omega) (fun g hg => by have := (HOz.lt g hg).1; omega)
            clear HOz hgrow hat hlt1 hbz
            go_wp2_with fail
            go_roundw
            case rel =>
              (repeat apply Exists.intro)
              refine ⟨⟨q + 16 + 1, by omega, by omega, by go_num, hown1, hb1⟩, rfl⟩
            case measure => simp [intOf]; omega
        · obtain rfl : t = 64 := by omega
          go_wp2_with fail
          go_ret
          exact ⟨_, rfl, hown, hb⟩
end Go.Proofs.YtnenjljcopbdeaaDoor
